/- Small facts that all texts of this seat share. Names, parts and paths as lists of bytes; no program in this text. -/
import Derived.Test.YtipedabppgbfcaaGreatDoorRows
import Derived.WalkKit
import Derived.WalkLawsBesides
import Derived.Deep.QuietTactic
import Derived.BigQuiet
import Derived.Lib.Hide
import Derived.Lib.Strings
import Derived.Below
import Derived.WalkSmall
import Derived.Sort.Grow
import Derived.Laws.RangeString
set_option linter.all false
namespace Go.Proofs.YtipedabppgbfcaaGreatDoor
open Go.RowKit

/-- What is known of a slice of integers that came in: nil, or a row of cap numbers. -/
def IsRow (k : IntKind) (w : World) (a : Option Addr) (len cap : Nat) (zs : List Int) : Prop :=
  (a = none ∧ len = 0 ∧ cap = 0 ∧ zs = []) ∨
  ∃ x, a = some x ∧ len ≤ cap ∧ cap ≤ maxLen ∧ zs.length = cap ∧ (∀ i, i < zs.length → w.cell? (x.add i) = some (.int k (zs.getD i 0))) ∧ ∀ n ∈ zs, (Lit.int k n).wf = true

theorem ret_bool {a b : Bool} (h : a = b) : Ending.returned (.bool a) = .returned (.bool b) := by rw [h]
theorem ret_int {k : IntKind} {a b : Int} (h : a = b) : Ending.returned (.int k a) = .returned (.int k b) := by rw [h]
theorem ret_str {a b : ByteArray} (h : a = b) : Ending.returned (.string a) = .returned (.string b) := by rw [h]

theorem byte_ne {x y : UInt8} (h : ((x.toNat : Int) != (y.toNat : Int)) = true) : (x == y) = false := by
  rw [Bool.eq_false_iff]; intro e
  have : x = y := by simpa using e
  subst this; simp at h
theorem byte_eq {x y : UInt8} (h : ¬ ((x.toNat : Int) != (y.toNat : Int)) = true) : x = y := by
  have h2 : (x.toNat : Int) = (y.toNat : Int) := by simpa using h
  exact UInt8.toNat_inj.mp (by omega)
theorem wf_i64 {n : Int} (h : (Lit.int .i64 n).wf = true) : -9223372036854775808 ≤ n ∧ n ≤ 9223372036854775807 := by
  simp [Lit.wf, IntKind.min, IntKind.max, IntKind.signed, IntKind.bits] at h; omega
theorem below_iter {B : Nat} {a w : World} (h : Below B a w) (hB : B ≤ w.heap.size) (s : ByteArray) (pos : Nat) : Below B a (w.iter s pos) := h.alloc hB _
theorem below_grow (w : World) (k : Nat) (os : Array Obj) : Below w.heap.size w (Sort.grow (w.drewN k) os) :=
  ⟨rfl, rfl, rfl, by simp [Sort.grow], fun i hi => by simp [Sort.grow, Array.getElem?_append, hi]⟩
end Go.Proofs.YtipedabppgbfcaaGreatDoor
namespace Go.Proofs.YtipedabppgbfcaaGreatDoor

def okB (c : UInt8) : Bool := !(c == 47 || c == 10 || c == 0 || c == 34)
/-- A name. -/
def nameB (l : List UInt8) : Bool := decide (1 ≤ l.length) && decide (l.length ≤ 40) && !(l == [46]) && !(l == [46, 46]) && l.all okB
/-- The parts of what is left between strokes, where cur has been gathered of the first one. -/
def partsGo : List UInt8 → List UInt8 → List (List UInt8)
  | cur, [] => [cur]
  | cur, c :: r => if c = 47 then cur :: partsGo [] r else partsGo (cur ++ [c]) r
def partsL (l : List UInt8) : List (List UInt8) := partsGo [] l
/-- Names with a stroke ahead of each. -/
def joinT (ns : List (List UInt8)) : List UInt8 := (ns.map fun n => (47 : UInt8) :: n).flatten
/-- The path of names, or the root. -/
def pathL (ns : List (List UInt8)) : List UInt8 := if ns = [] then [47] else joinT ns
def fit (ns : List (List UInt8)) : Bool := decide (ns.length ≤ 6) && ns.all nameB
/-- The names of a path, none of the root. -/
def namesO : List UInt8 → Option (List (List UInt8))
  | [] => none
  | c :: r => if c = 47 then (if r = [] then some [] else if fit (partsL r) then some (partsL r) else none) else none
def depthV (l : List UInt8) : Int := match namesO l with | none => -1 | some ns => ns.length
def pathV (ns : List (List UInt8)) : List UInt8 := if fit ns then pathL ns else []
def joinV (d n : List UInt8) : List UInt8 := match namesO d with | none => [] | some ns => pathV (ns ++ [n])
def dirV (l : List UInt8) : List UInt8 := match namesO l with | none => [] | some ns => if ns = [] then [] else pathL ns.dropLast
def baseV (l : List UInt8) : List UInt8 := match namesO l with | none => [] | some ns => ns.getLastD []
def underV (l d : List UInt8) : Bool := match namesO l, namesO d with | some ns, some ms => decide (ms.length < ns.length) && (ns.take ms.length == ms) | _, _ => false
def stepC (left : List (List UInt8)) (p : List UInt8) : List (List UInt8) := if p = [] ∨ p = [46] then left else if p = [46, 46] then left.dropLast else left ++ [p]
def leftC (l : List UInt8) : List (List UInt8) := (partsL l).foldl stepC []
def cleanV (l : List UInt8) : List UInt8 := if l.head? = some 47 then pathV (leftC l) else []

theorem joinT_nil : joinT [] = [] := rfl
theorem joinT_cons (n : List UInt8) (ns : List (List UInt8)) : joinT (n :: ns) = 47 :: (n ++ joinT ns) := by simp [joinT]
theorem joinT_append (a b : List (List UInt8)) : joinT (a ++ b) = joinT a ++ joinT b := by simp [joinT]
theorem joinT_ne {ns : List (List UInt8)} (h : ns ≠ []) : joinT ns ≠ [] := by
  cases ns with
  | nil => exact absurd rfl h
  | cons n r => rw [joinT_cons]; simp
theorem pathL_nil : pathL [] = [47] := rfl
theorem pathL_ne {ns : List (List UInt8)} (h : ns ≠ []) : pathL ns = joinT ns := by unfold pathL; rw [if_neg h]
theorem pathL_head (ns : List (List UInt8)) : ∃ r, pathL ns = 47 :: r := by
  cases ns with
  | nil => exact ⟨[], rfl⟩
  | cons n r => rw [pathL_ne (by simp), joinT_cons]; exact ⟨_, rfl⟩

theorem partsGo_join : ∀ (r cur : List UInt8), joinT (partsGo cur r) = 47 :: (cur ++ r)
  | [], cur => by simp [partsGo, joinT]
  | c :: r, cur => by
    unfold partsGo
    split
    · next h => subst h; rw [joinT_cons, partsGo_join r []]; simp
    · rw [partsGo_join r (cur ++ [c])]; simp
theorem parts_join (r : List UInt8) : joinT (partsL r) = 47 :: r := by unfold partsL; rw [partsGo_join]; rfl
theorem partsGo_ne : ∀ (r cur : List UInt8), partsGo cur r ≠ []
  | [], cur => by simp [partsGo]
  | c :: r, cur => by
    unfold partsGo
    split
    · simp
    · exact partsGo_ne r _
theorem parts_ne (r : List UInt8) : partsL r ≠ [] := partsGo_ne r []
theorem partsGo_cut : ∀ (a cur t : List UInt8), partsGo cur (a ++ 47 :: t) = partsGo cur a ++ partsL t
  | [], cur, t => by simp [partsGo, partsL]
  | c :: a, cur, t => by
    rw [List.cons_append, partsGo, partsGo]
    split
    · rw [partsGo_cut a [] t]; rfl
    · exact partsGo_cut a _ t
theorem parts_cut (a t : List UInt8) : partsL (a ++ 47 :: t) = partsL a ++ partsL t := partsGo_cut a [] t
theorem partsGo_one : ∀ (n cur : List UInt8), 47 ∉ n → partsGo cur n = [cur ++ n]
  | [], cur, _ => by simp [partsGo]
  | c :: n, cur, h => by
    simp only [List.mem_cons, not_or] at h
    rw [partsGo, if_neg (fun e => h.1 e.symm), partsGo_one n _ h.2]; simp
theorem parts_one {n : List UInt8} (h : 47 ∉ n) : partsL n = [n] := partsGo_one n [] h
theorem parts_back : ∀ (ns : List (List UInt8)) (n : List UInt8), 47 ∉ n → (∀ p ∈ ns, 47 ∉ p) → partsL (n ++ joinT ns) = n :: ns
  | [], n, h, _ => by rw [joinT_nil, List.append_nil]; exact parts_one h
  | m :: ns, n, h, hs => by
    rw [joinT_cons, parts_cut, parts_one h, parts_back ns m (hs m (by simp)) (fun p hp => hs p (by simp [hp]))]; rfl
theorem partsGo_free : ∀ (r cur : List UInt8), 47 ∉ cur → ∀ p ∈ partsGo cur r, 47 ∉ p
  | [], cur, h, p, hp => by simp [partsGo] at hp; subst hp; exact h
  | c :: r, cur, h, p, hp => by
    unfold partsGo at hp
    split at hp
    · rcases List.mem_cons.1 hp with rfl | hp
      · exact h
      · exact partsGo_free r [] (by simp) p hp
    · next hc => exact partsGo_free r _ (by simp [h]; exact fun e => hc e.symm) p hp
theorem parts_free (r : List UInt8) : ∀ p ∈ partsL r, 47 ∉ p := partsGo_free r [] (by simp)

theorem nameB_free {n : List UInt8} (h : nameB n = true) : 47 ∉ n := by
  intro hm
  unfold nameB at h
  simp only [Bool.and_eq_true, List.all_eq_true] at h
  have := h.2 _ hm
  simp [okB] at this
theorem nameB_len {n : List UInt8} (h : nameB n = true) : 1 ≤ n.length ∧ n.length ≤ 40 := by
  unfold nameB at h
  simp only [Bool.and_eq_true, decide_eq_true_eq] at h
  exact h.1.1.1
theorem fit_mem {ns : List (List UInt8)} (h : fit ns = true) : ns.length ≤ 6 ∧ ∀ n ∈ ns, nameB n = true := by
  unfold fit at h
  simpa using h
theorem fit_of {ns : List (List UInt8)} (h : ns.length ≤ 6) (h2 : ∀ n ∈ ns, nameB n = true) : fit ns = true := by
  unfold fit
  simpa using ⟨h, h2⟩
theorem fit_sub {a b : List (List UInt8)} (h : fit (a ++ b) = true) : fit a = true ∧ fit b = true := by
  obtain ⟨h1, h2⟩ := fit_mem h
  rw [List.length_append] at h1
  exact ⟨fit_of (by omega) fun n hn => h2 n (by simp [hn]), fit_of (by omega) fun n hn => h2 n (by simp [hn])⟩
theorem fit_snoc {a : List (List UInt8)} {n : List UInt8} : fit (a ++ [n]) = true ↔ fit a = true ∧ a.length < 6 ∧ nameB n = true := by
  constructor
  · intro h
    obtain ⟨h1, h2⟩ := fit_mem h
    rw [List.length_append, List.length_singleton] at h1
    exact ⟨(fit_sub h).1, by omega, h2 n (by simp)⟩
  · rintro ⟨h1, h2, h3⟩
    refine fit_of (by simp; omega) fun m hm => ?_
    rcases List.mem_append.1 hm with hm | hm
    · exact (fit_mem h1).2 m hm
    · simp at hm; subst hm; exact h3
theorem joinT_len {ns : List (List UInt8)} (h : ∀ n ∈ ns, n.length ≤ 40) : (joinT ns).length ≤ 41 * ns.length := by
  induction ns with
  | nil => simp [joinT]
  | cons n r ih =>
    have h1 := h n (by simp)
    have h2 := ih fun m hm => h m (by simp [hm])
    rw [joinT_cons]; simp; omega
theorem pathL_len {ns : List (List UInt8)} (h : fit ns = true) : (pathL ns).length ≤ 246 := by
  obtain ⟨h1, h2⟩ := fit_mem h
  by_cases hn : ns = []
  · subst hn; decide
  · rw [pathL_ne hn]
    have := joinT_len (ns := ns) fun n hm => (nameB_len (h2 n hm)).2
    omega

/-- The names of a path are the ones of which it is made. -/
theorem namesO_of {ns : List (List UInt8)} (h : fit ns = true) : namesO (pathL ns) = some ns := by
  cases ns with
  | nil => rfl
  | cons n r =>
    obtain ⟨h1, h2⟩ := fit_mem h
    have hn := h2 n (by simp)
    rw [pathL_ne (by simp), joinT_cons, namesO, if_pos rfl]
    have he : n ++ joinT r ≠ [] := by
      intro e
      have h3 := (nameB_len hn).1
      rw [(List.append_eq_nil_iff.1 e).1] at h3
      simp at h3
    rw [if_neg he, parts_back r n (nameB_free hn) (fun p hp => nameB_free (h2 p (by simp [hp]))), if_pos h]
theorem namesO_is {l : List UInt8} {ns : List (List UInt8)} (h : namesO l = some ns) : fit ns = true ∧ l = pathL ns := by
  cases l with
  | nil => cases h
  | cons c r =>
    rw [namesO] at h
    by_cases hc : c = 47
    · subst hc
      rw [if_pos rfl] at h
      split at h
      · next hr => subst hr; cases h; exact ⟨rfl, rfl⟩
      · split at h
        · next hf => cases h; exact ⟨hf, by rw [pathL_ne (parts_ne r), parts_join]⟩
        · cases h
    · rw [if_neg hc] at h; cases h
theorem depthV_of {ns : List (List UInt8)} (h : fit ns = true) : depthV (pathL ns) = ns.length := by unfold depthV; rw [namesO_of h]
/-- A text is the path of names that fit, or it has none. -/
theorem path_or (l : List UInt8) : (∃ ns, fit ns = true ∧ l = pathL ns) ∨ namesO l = none := by
  cases h : namesO l with
  | none => exact .inr rfl
  | some ns => exact .inl ⟨ns, namesO_is h⟩
/-- Of parts without strokes, each with a byte, the path tells whether they fit. -/
theorem namesO_free {ns : List (List UInt8)} (h : ∀ n ∈ ns, n ≠ [] ∧ 47 ∉ n) : namesO (pathL ns) = if fit ns then some ns else none := by
  by_cases hf : fit ns = true
  · rw [if_pos hf, namesO_of hf]
  · rw [if_neg hf]
    cases h2 : namesO (pathL ns) with
    | none => rfl
    | some ms =>
      exfalso
      obtain ⟨h3, h4⟩ := namesO_is h2
      cases ns with
      | nil => exact hf rfl
      | cons n r =>
        cases ms with
        | nil =>
          rw [pathL_ne (by simp), joinT_cons, pathL_nil] at h4
          have := congrArg List.length h4
          have := (h n (by simp)).1
          cases n with
          | nil => exact this rfl
          | cons => simp at *
        | cons m q =>
          rw [pathL_ne (by simp), pathL_ne (by simp), joinT_cons, joinT_cons] at h4
          have h5 := (List.cons.inj h4).2
          have e1 := parts_back r n (h n (by simp)).2 (fun p hp => (h p (by simp [hp])).2)
          have e2 := parts_back q m (nameB_free ((fit_mem h3).2 m (by simp))) (fun p hp => nameB_free ((fit_mem h3).2 p (by simp [hp])))
          rw [h5, e2] at e1
          rw [← e1] at hf
          exact hf h3

/-! Clean. -/
def wt (ns : List (List UInt8)) : Nat := (ns.map fun p => p.length + 1).sum
theorem wt_joinT (ns : List (List UInt8)) : wt ns = (joinT ns).length := by
  induction ns with
  | nil => rfl
  | cons n r ih => rw [joinT_cons]; simp [wt] at *; omega
theorem wt_parts (l : List UInt8) : wt (partsL l) = l.length + 1 := by rw [wt_joinT, parts_join]; simp
theorem wt_step (left : List (List UInt8)) (p : List UInt8) : wt (stepC left p) ≤ wt left + (p.length + 1) := by
  unfold stepC
  split
  · omega
  · split
    · cases hl : left.reverse with
      | nil => obtain rfl : left = [] := by simpa using hl
               simp [wt]
      | cons x r =>
        obtain rfl : left = r.reverse ++ [x] := by rw [← List.reverse_reverse left, hl]; simp
        rw [List.dropLast_concat]; simp [wt]; omega
    · simp [wt]
theorem wt_fold : ∀ (ps left : List (List UInt8)), wt (ps.foldl stepC left) ≤ wt left + wt ps
  | [], left => by simp [wt]
  | p :: ps, left => by
    have h1 := wt_fold ps (stepC left p)
    have h2 := wt_step left p
    have h3 : wt (p :: ps) = p.length + 1 + wt ps := by simp [wt]
    rw [List.foldl_cons]; omega
theorem wt_left (l : List UInt8) : wt (leftC l) ≤ l.length + 1 := by
  have := wt_fold (partsL l) []
  rw [wt_parts] at this
  simpa [wt, leftC] using this
theorem len_wt (ns : List (List UInt8)) : ns.length ≤ wt ns := by
  induction ns with
  | nil => simp [wt]
  | cons n r ih => simp [wt] at *; omega
theorem step_free {left : List (List UInt8)} {p : List UInt8} (h : ∀ n ∈ left, n ≠ [] ∧ 47 ∉ n) (hp : 47 ∉ p) : ∀ n ∈ stepC left p, n ≠ [] ∧ 47 ∉ n := by
  unfold stepC
  split
  · exact h
  · split
    · exact fun n hn => h n (List.dropLast_subset _ hn)
    · next h1 _ =>
      intro n hn
      rcases List.mem_append.1 hn with hn | hn
      · exact h n hn
      · simp at hn; subst hn; exact ⟨fun e => h1 (.inl e), hp⟩
theorem fold_free : ∀ (ps left : List (List UInt8)), (∀ n ∈ left, n ≠ [] ∧ 47 ∉ n) → (∀ p ∈ ps, 47 ∉ p) → ∀ n ∈ ps.foldl stepC left, n ≠ [] ∧ 47 ∉ n
  | [], _, h, _ => h
  | p :: ps, left, h, hp => fold_free ps (stepC left p) (step_free h (hp p (by simp))) (fun q hq => hp q (by simp [hq]))
theorem left_free (l : List UInt8) : ∀ n ∈ leftC l, n ≠ [] ∧ 47 ∉ n := fold_free _ [] (by simp) (parts_free l)
theorem step_name {left : List (List UInt8)} {n : List UInt8} (h : nameB n = true) : stepC left n = left ++ [n] := by
  have hl := (nameB_len h).1
  unfold nameB at h
  simp only [Bool.and_eq_true, Bool.not_eq_true', beq_eq_false_iff_ne] at h
  unfold stepC
  rw [if_neg, if_neg h.1.2]
  rintro (e | e)
  · subst e; simp at hl
  · exact h.1.1.2 e
theorem fold_names : ∀ (ns left : List (List UInt8)), (∀ n ∈ ns, nameB n = true) → ns.foldl stepC left = left ++ ns
  | [], left, _ => by simp
  | n :: r, left, h => by rw [List.foldl_cons, step_name (h n (by simp)), fold_names r _ (fun m hm => h m (by simp [hm]))]; simp
theorem left_path {ns : List (List UInt8)} (h : fit ns = true) (t : List UInt8) (hn : ns ≠ []) : leftC (pathL ns ++ t) = (if t = [] then ns else leftC (pathL ns ++ t)) := by
  split
  · next e =>
    subst e
    rw [List.append_nil]
    cases ns with
    | nil => exact absurd rfl hn
    | cons n r =>
      have h2 := (fit_mem h).2
      unfold leftC
      rw [pathL_ne (by simp), joinT_cons, show (47 : UInt8) :: (n ++ joinT r) = [] ++ 47 :: (n ++ joinT r) from rfl, parts_cut, parts_back r n (nameB_free (h2 n (by simp))) (fun p hp => nameB_free (h2 p (by simp [hp])))]
      rw [List.foldl_append, show (partsL []).foldl stepC [] = [] from rfl, fold_names _ _ h2]; rfl
  · rfl
theorem left_of {ns : List (List UInt8)} (h : fit ns = true) : leftC (pathL ns) = ns := by
  by_cases hn : ns = []
  · subst hn; rfl
  · have := left_path h [] hn
    simpa using this
theorem left_dot (l : List UInt8) : leftC (l ++ [47, 46]) = leftC l := by
  unfold leftC
  rw [parts_cut, List.foldl_append]; rfl
theorem clean_of {ns : List (List UInt8)} (h : fit ns = true) : cleanV (pathL ns) = pathL ns := by
  obtain ⟨r, hr⟩ := pathL_head ns
  unfold cleanV pathV
  rw [left_of h, if_pos h, if_pos (by rw [hr]; rfl)]
theorem clean_dot {ns : List (List UInt8)} (h : fit ns = true) : cleanV (pathL ns ++ [47, 46]) = pathL ns := by
  obtain ⟨r, hr⟩ := pathL_head ns
  unfold cleanV pathV
  rw [left_dot, left_of h, if_pos h, if_pos (by rw [hr]; rfl)]
/-- What is clean is nothing, or the path of names that fit. -/
theorem clean_is (l : List UInt8) : cleanV l = [] ∨ ∃ ns, fit ns = true ∧ cleanV l = pathL ns := by
  unfold cleanV pathV
  split
  · split
    · next h => exact .inr ⟨_, h, rfl⟩
    · exact .inl rfl
  · exact .inl rfl

/-! Join, DirOf, BaseOf, Under as the model has them. -/
theorem pathL_snoc (ns : List (List UInt8)) (n : List UInt8) : pathL (ns ++ [n]) = (if ns = [] then [] else pathL ns) ++ 47 :: n := by
  rw [pathL_ne (by simp), joinT_append]
  split
  · next h => subst h; simp [joinT]
  · next h => rw [pathL_ne h]; simp [joinT]
theorem pathL_root {ns : List (List UInt8)} (h : fit ns = true) : pathL ns = [47] ↔ ns = [] := by
  constructor
  · intro e
    have h1 := namesO_of h
    rw [e] at h1
    cases h1; rfl
  · intro e; subst e; rfl
theorem join_is (ns : List (List UInt8)) (hf : fit ns = true) (n : List UInt8) :
    joinV (pathL ns) n = if nameB n = true ∧ 0 < depthV (pathL (ns ++ [n])) then pathL (ns ++ [n]) else [] := by
  unfold joinV pathV
  rw [namesO_of hf]
  show (if fit (ns ++ [n]) = true then _ else _) = _
  by_cases h : fit (ns ++ [n]) = true
  · rw [if_pos h, if_pos ⟨(fit_snoc.1 h).2.2, by rw [depthV_of h, List.length_append]; simp⟩]
  · rw [if_neg h]
    by_cases hn : nameB n = true
    · rw [if_neg]
      rintro ⟨_, h2⟩
      have h3 := namesO_free (ns := ns ++ [n]) (fun m hm => by
        rcases List.mem_append.1 hm with hm | hm
        · have := (fit_mem hf).2 m hm
          exact ⟨fun e => by subst e; simp [nameB] at this, nameB_free this⟩
        · simp at hm; subst hm
          exact ⟨fun e => by subst e; simp [nameB] at hn, nameB_free hn⟩)
      unfold depthV at h2
      rw [h3, if_neg h] at h2
      simp at h2
    · rw [if_neg (fun h2 => hn h2.1)]
theorem under_is {ns ms : List (List UInt8)} (h : fit ns = true) (hm : fit ms = true) (hn0 : ns ≠ []) (hm0 : ms ≠ []) :
    underV (pathL ns) (pathL ms) = (decide ((pathL ms).length + 1 < (pathL ns).length) && decide ((pathL ns).take ((pathL ms).length + 1) = pathL ms ++ [47])) := by
  unfold underV
  rw [namesO_of h, namesO_of hm]
  show (decide (ms.length < ns.length) && (ns.take ms.length == ms)) = _
  rw [pathL_ne hn0, pathL_ne hm0]
  by_cases hp : ms.length < ns.length ∧ ns.take ms.length = ms
  · obtain ⟨h1, h2⟩ := hp
    obtain ⟨k, r, hk⟩ : ∃ k r, ns.drop ms.length = k :: r := by
      cases hd : ns.drop ms.length with
      | nil => have := congrArg List.length hd; simp at this; omega
      | cons k r => exact ⟨k, r, rfl⟩
    have e : ns = ms ++ k :: r := by
      have := List.take_append_drop ms.length ns
      rw [h2, hk] at this; exact this.symm
    have hkn : 1 ≤ k.length := (nameB_len ((fit_mem h).2 k (by rw [e]; simp))).1
    have e2 : joinT ns = joinT ms ++ 47 :: (k ++ joinT r) := by rw [e, joinT_append, joinT_cons]
    rw [h2, e2]
    have e3 : (joinT ms ++ 47 :: (k ++ joinT r)).take ((joinT ms).length + 1) = joinT ms ++ [47] := by
      rw [List.take_append, List.take_of_length_le (by omega)]; simp
    rw [e3, decide_eq_true h1, decide_eq_true (by simp; omega)]
    simp
  · have hl : (decide (ms.length < ns.length) && (ns.take ms.length == ms)) = false := by
      rw [Bool.eq_false_iff]; intro e
      simp at e; exact hp e
    rw [hl]
    symm
    rw [Bool.eq_false_iff]; intro e
    simp only [Bool.and_eq_true, decide_eq_true_eq] at e
    obtain ⟨e1, e2⟩ := e
    apply hp
    obtain ⟨m, q, rfl⟩ : ∃ m q, ms = m :: q := by
      cases ms with
      | nil => exact absurd rfl hm0
      | cons m q => exact ⟨m, q, rfl⟩
    obtain ⟨n, r, rfl⟩ : ∃ n r, ns = n :: r := by
      cases ns with
      | nil => exact absurd rfl hn0
      | cons n r => exact ⟨n, r, rfl⟩
    have e3 : joinT (n :: r) = joinT (m :: q) ++ 47 :: (joinT (n :: r)).drop ((joinT (m :: q)).length + 1) := by
      have := List.take_append_drop ((joinT (m :: q)).length + 1) (joinT (n :: r))
      rw [e2] at this
      rw [← this]; simp
    generalize (joinT (n :: r)).drop ((joinT (m :: q)).length + 1) = t at e3
    rw [joinT_cons, joinT_cons, List.cons_append] at e3
    have e4 := (List.cons.inj e3).2
    have f1 := parts_back r n (nameB_free ((fit_mem h).2 n (by simp))) (fun p hp => nameB_free ((fit_mem h).2 p (by simp [hp])))
    have f2 := parts_back q m (nameB_free ((fit_mem hm).2 m (by simp))) (fun p hp => nameB_free ((fit_mem hm).2 p (by simp [hp])))
    rw [e4, parts_cut, f2] at f1
    have h5 := parts_ne t
    rw [← f1]
    refine ⟨?_, by simp⟩
    have : 1 ≤ (partsL t).length := by
      cases hp2 : partsL t with
      | nil => exact absurd hp2 h5
      | cons => simp
    simp; omega
end Go.Proofs.YtipedabppgbfcaaGreatDoor
