/- Trees of nodes as plain lists; no program in this text. The contract of spec.DecText: the decimal numeral of every int. -/
import Derived.Test.YtipedabppgbfcaaGreatDoorK1
import Derived.Test.YtipedabppgbfcaaGreatDoorK2
set_option linter.all false
namespace Go.Proofs.YtipedabppgbfcaaGreatDoor

/-- The order of texts. -/
def lessB (a b : List UInt8) : Bool := Op.bytesLess a b
theorem less_nil_l (b : List UInt8) : lessB [] b = !b.isEmpty := by cases b <;> rfl
theorem less_nil_r (a : List UInt8) : lessB a [] = false := by cases a <;> rfl
theorem less_cons (x y : UInt8) (a b : List UInt8) : lessB (x :: a) (y :: b) = (decide (x < y) || (x == y && lessB a b)) := rfl
theorem less_irr : ∀ a : List UInt8, lessB a a = false
  | [] => rfl
  | x :: a => by
    rw [less_cons, less_irr a]
    simp
theorem less_trans : ∀ {a b c : List UInt8}, lessB a b = true → lessB b c = true → lessB a c = true
  | _, [], _, h, _ => by rw [less_nil_r] at h; cases h
  | _, _ :: _, [], _, h => by rw [less_nil_r] at h; cases h
  | [], _ :: _, _ :: _, _, _ => rfl
  | x :: a, y :: b, z :: c, h1, h2 => by
    rw [less_cons] at h1 h2 ⊢
    simp only [Bool.or_eq_true, decide_eq_true_eq, Bool.and_eq_true, beq_iff_eq] at h1 h2 ⊢
    rcases h1 with h1 | ⟨h1, h1'⟩
    · rcases h2 with h2 | ⟨h2, h2'⟩
      · exact .inl (UInt8.lt_trans h1 h2)
      · subst h2; exact .inl h1
    · subst h1
      rcases h2 with h2 | ⟨h2, h2'⟩
      · exact .inl h2
      · exact .inr ⟨h2, less_trans h1' h2'⟩
theorem less_ne {a b : List UInt8} (h : lessB a b = true) : a ≠ b := by
  intro e; subst e; rw [less_irr] at h; cases h
theorem less_asym {a b : List UInt8} (h : lessB a b = true) : lessB b a = false := by
  cases h2 : lessB b a with
  | false => rfl
  | true => have := less_trans h h2; rw [less_irr] at this; cases this
theorem less_tri : ∀ (a b : List UInt8), lessB a b = false → lessB b a = false → a = b
  | [], [], _, _ => rfl
  | [], _ :: _, h, _ => by cases h
  | _ :: _, [], _, h => by cases h
  | x :: a, y :: b, h1, h2 => by
    rw [less_cons] at h1 h2
    simp only [Bool.or_eq_false_iff, decide_eq_false_iff_not, Bool.and_eq_false_iff, beq_eq_false_iff_ne] at h1 h2
    have e : x = y := UInt8.le_antisymm (UInt8.not_lt.1 h2.1) (UInt8.not_lt.1 h1.1)
    subst e
    rw [less_tri a b (by rcases h1.2 with h | h; exact absurd rfl h; exact h) (by rcases h2.2 with h | h; exact absurd rfl h; exact h)]
theorem less_more : ∀ (a t : List UInt8), t ≠ [] → lessB a (a ++ t) = true
  | [], t, h => by cases t with | nil => exact absurd rfl h | cons => rfl
  | x :: a, t, h => by rw [List.cons_append, less_cons, less_more a t h]; simp

/-- A path's folder is ahead of it. -/
theorem dir_less {p : List UInt8} (h : 0 < depthV p) : lessB (dirV p) p = true := by
  rcases path_or p with ⟨ns, hf, rfl⟩ | hn
  · rw [depthV_of hf] at h
    unfold dirV
    rw [namesO_of hf]
    have hne : ns ≠ [] := by intro e; subst e; simp at h
    simp only [if_neg hne]
    obtain ⟨ms, n, rfl⟩ : ∃ ms n, ns = ms ++ [n] := ⟨ns.dropLast, ns.getLast hne, (List.dropLast_concat_getLast hne).symm⟩
    rw [List.dropLast_concat, pathL_snoc]
    have hn1 : n ≠ [] := by intro e; subst e; have := (fit_snoc.1 hf).2.2; simp [nameB] at this
    split
    · next e => subst e; rw [pathL_nil, List.nil_append]; exact less_more [47] n hn1
    · exact less_more _ _ (by simp)
  · unfold depthV at h; rw [hn] at h; simp at h
theorem path_ne_root {p : List UInt8} (h : 0 < depthV p) : p ≠ [47] := by
  intro e; subst e; exact absurd h (by decide)

structure Nd where
  path : List UInt8
  dir : Bool
  mode : Int
  time : Int
  id : Int
  data : List UInt8
theorem nd_eq {a b : Nd} (h1 : a.path = b.path) (h2 : a.dir = b.dir) (h3 : a.mode = b.mode) (h4 : a.time = b.time) (h5 : a.id = b.id) (h6 : a.data = b.data) : a = b := by
  cases a; cases b; simp_all

/-- The place of the first node of a path. -/
def findV (p : List UInt8) : List Nd → Option Nat
  | [] => none
  | n :: r => if n.path = p then some 0 else (findV p r).map (· + 1)
def findI (p : List UInt8) (ns : List Nd) : Int := match findV p ns with | some i => i | none => -1
theorem find_hit {p : List UInt8} : ∀ {ns : List Nd} {k : Nat} (h : k < ns.length), (∀ j (hj : j < ns.length), j < k → ns[j].path ≠ p) → ns[k].path = p → findV p ns = some k
  | n :: r, 0, _, _, h2 => by
    have h2' : n.path = p := h2
    simp only [findV]; rw [if_pos h2']
  | n :: r, k + 1, h, h1, h2 => by
    have h0 : n.path ≠ p := h1 0 (by simp) (by omega)
    simp only [findV]
    rw [if_neg h0, find_hit (k := k) (by simpa using h) (fun j hj hjk => h1 (j + 1) (by simpa using hj) (by omega)) h2]
    rfl
theorem find_miss {p : List UInt8} : ∀ {ns : List Nd}, (∀ j (hj : j < ns.length), ns[j].path ≠ p) → findV p ns = none
  | [], _ => rfl
  | n :: r, h => by
    have h0 : n.path ≠ p := h 0 (by simp)
    simp only [findV]
    rw [if_neg h0, find_miss (fun j hj => h (j + 1) (by simpa using hj))]
    rfl
theorem find_some {p : List UInt8} : ∀ {ns : List Nd} {k : Nat}, findV p ns = some k → ∃ h : k < ns.length, ns[k].path = p ∧ ∀ j (hj : j < ns.length), j < k → ns[j].path ≠ p
  | [], k, h => by cases h
  | n :: r, k, h => by
    simp only [findV] at h
    by_cases e : n.path = p
    · rw [if_pos e] at h; cases h
      exact ⟨by simp, e, fun j _ hj => by omega⟩
    · rw [if_neg e] at h
      cases h2 : findV p r with
      | none => rw [h2] at h; cases h
      | some i =>
        rw [h2] at h
        simp only [Option.map_some, Option.some.injEq] at h
        subst h
        obtain ⟨h3, h4, h5⟩ := find_some h2
        refine ⟨by simpa using h3, by simpa using h4, fun j hj hjk => ?_⟩
        cases j with
        | zero => exact e
        | succ j => simpa using h5 j (by simpa using hj) (by omega)
theorem find_none {p : List UInt8} : ∀ {ns : List Nd}, findV p ns = none → ∀ j (hj : j < ns.length), ns[j].path ≠ p
  | n :: r, h, j, hj => by
    simp only [findV] at h
    by_cases e : n.path = p
    · rw [if_pos e] at h; cases h
    · rw [if_neg e] at h
      have h2 : findV p r = none := by cases h3 : findV p r with | none => rfl | some => rw [h3] at h; cases h
      cases j with
      | zero => exact e
      | succ j => simpa using find_none h2 j (by simpa using hj)

/-- Whether a path is the root, or a folder's. -/
def dirB (ns : List Nd) (p : List UInt8) : Bool := p == [47] || (match findV p ns with | none => false | some i => match ns[i]? with | some n => n.dir | none => false)
def timeOk (t : Int) : Bool := inB t 0 253402300799
/-- Whether a node is right by itself. -/
def nodeB (n : Nd) (next : Int) : Bool := decide (0 < depthV n.path) && (inB n.mode 0 511 && (timeOk n.time && (inB n.id 1 (next - 1) && (decide (n.data.length ≤ 3000) && (!n.dir || n.data.isEmpty)))))
def lessAt (ns : List Nd) (i : Nat) (p : List UInt8) : Bool := if i = 0 then true else match ns[i - 1]? with | some m => lessB m.path p | none => false
def freeB (ns : List Nd) (i : Nat) (id : Int) : Bool := (ns.take i).all fun m => !(m.id == id)
def stepB (ns : List Nd) (next : Int) (i : Nat) : Bool := match ns[i]? with | none => true | some n => nodeB n next && (dirB ns (dirV n.path) && (lessAt ns i n.path && freeB ns i n.id))
def treeB (ns : List Nd) (next : Int) : Bool := decide (ns.length ≤ 60) && (inB next 1 1000000 && (List.range ns.length).all fun i => stepB ns next i)

theorem tree_iff {ns : List Nd} {next : Int} : treeB ns next = true ↔ ns.length ≤ 60 ∧ inB next 1 1000000 = true ∧ ∀ i, i < ns.length → stepB ns next i = true := by
  unfold treeB
  simp
theorem tree_bad {ns : List Nd} {next : Int} {i : Nat} (h : i < ns.length) (hs : stepB ns next i = false) : treeB ns next = false := by
  rw [Bool.eq_false_iff]; intro e
  have := (tree_iff.1 e).2.2 i h
  rw [hs] at this; cases this
theorem step_at {ns : List Nd} {next : Int} {i : Nat} (h : i < ns.length) : stepB ns next i = (nodeB ns[i] next && (dirB ns (dirV ns[i].path) && (lessAt ns i ns[i].path && freeB ns i ns[i].id))) := by
  unfold stepB
  rw [List.getElem?_eq_getElem h]
theorem node_path {n : Nd} {next : Int} (h : nodeB n next = true) : 0 < depthV n.path := by
  unfold nodeB at h
  simp only [Bool.and_eq_true, decide_eq_true_eq] at h
  exact h.1

/-! The same as one goes: each folder is looked for among the nodes ahead alone. -/
def lastP (ns : List Nd) (i : Nat) : List UInt8 := if i = 0 then [] else match ns[i - 1]? with | some m => m.path | none => []
/-- What is known of the folders among the first i. -/
def foldB (ns : List Nd) (i : Nat) (p : List UInt8) : Bool := p == [47] || (ns.take i).any fun m => m.path == p && m.dir
def goB (ns : List Nd) (next : Int) (i : Nat) : Bool := match ns[i]? with | none => true | some n => nodeB n next && (freeB ns i n.id && (lessB (lastP ns i) n.path && foldB ns i (dirV n.path)))
theorem go_at {ns : List Nd} {next : Int} {i : Nat} (h : i < ns.length) : goB ns next i = (nodeB ns[i] next && (freeB ns i ns[i].id && (lessB (lastP ns i) ns[i].path && foldB ns i (dirV ns[i].path)))) := by
  unfold goB
  rw [List.getElem?_eq_getElem h]
theorem last_less {ns : List Nd} {i : Nat} {p : List UInt8} (hi : i ≤ ns.length) (hp : 0 < depthV p) : lessB (lastP ns i) p = lessAt ns i p := by
  unfold lastP lessAt
  split
  · rw [less_nil_l]
    cases p with
    | nil => exact absurd hp (by decide)
    | cons => rfl
  · rw [List.getElem?_eq_getElem (by omega)]
/-- Nodes stand in order, as far as each is ahead of the next. -/
theorem rising {ns : List Nd} {k : Nat} (h : ∀ i (hi : i < ns.length), i < k → lessAt ns i ns[i].path = true) : ∀ (i j : Nat) (hj : j < ns.length) (_hij : i < j), j < k → lessB (ns[i]'(by omega)).path ns[j].path = true
  | i, 0, hj, hij, _ => by omega
  | i, j + 1, hj, hij, hjk => by
    have h1 := h (j + 1) hj hjk
    unfold lessAt at h1
    rw [if_neg (by omega), show j + 1 - 1 = j by omega, List.getElem?_eq_getElem (by omega)] at h1
    by_cases e : i = j
    · subst e; exact h1
    · exact less_trans (rising h i j (by omega) (by omega) (by omega)) h1
theorem rising_of_tree {ns : List Nd} {next : Int} (h : treeB ns next = true) : ∀ (i j : Nat) (hj : j < ns.length) (_hij : i < j), lessB (ns[i]'(by omega)).path ns[j].path = true :=
  fun i j hj hij => rising (k := ns.length) (fun i hi _ => by
    have := (tree_iff.1 h).2.2 i hi
    rw [step_at hi] at this
    simp only [Bool.and_eq_true] at this
    exact this.2.2.1) i j hj hij hj
theorem go_less {ns : List Nd} {next : Int} {k : Nat} (h : ∀ i, i < ns.length → i < k → goB ns next i = true) : ∀ i (hi : i < ns.length), i < k → lessAt ns i ns[i].path = true := fun i hi hik => by
  have := h i hi hik
  rw [go_at hi] at this
  simp only [Bool.and_eq_true] at this
  rw [← last_less (Nat.le_of_lt hi) (node_path this.1)]
  exact this.2.2.1
theorem go_rising {ns : List Nd} {next : Int} {k : Nat} (h : ∀ i, i < ns.length → i < k → goB ns next i = true) : ∀ (i j : Nat) (hj : j < ns.length) (_hij : i < j), j < k → lessB (ns[i]'(by omega)).path ns[j].path = true := rising (go_less h)
/-- The right tree, as one goes. -/
theorem tree_go {ns : List Nd} {next : Int} (h : ∀ i, i < ns.length → goB ns next i = true) : ∀ i, i < ns.length → stepB ns next i = true := fun i hi => by
  have hr := go_rising (k := ns.length) (fun i hi _ => h i hi)
  have h1 := h i hi
  rw [go_at hi] at h1
  simp only [Bool.and_eq_true] at h1
  rw [step_at hi]
  simp only [Bool.and_eq_true]
  refine ⟨h1.1, ?_, go_less (k := ns.length) (fun i hi _ => h i hi) i hi hi, h1.2.1⟩
  have h2 := h1.2.2.2
  unfold foldB at h2
  unfold dirB
  simp only [Bool.or_eq_true] at h2 ⊢
  rcases h2 with h2 | h2
  · exact .inl h2
  · right
    simp only [List.any_eq_true, Bool.and_eq_true, beq_iff_eq] at h2
    obtain ⟨m, hm, hp, hd⟩ := h2
    obtain ⟨j, hj, rfl⟩ := List.getElem_of_mem hm
    rw [List.length_take] at hj
    rw [List.getElem_take] at hp hd
    rw [find_hit (k := j) (by omega) (fun q hq hqj e => by
      have := hr q j (by omega) hqj (by omega)
      rw [e, hp] at this
      rw [less_irr] at this; cases this) hp]
    simp only [List.getElem?_eq_getElem (show j < ns.length by omega)]
    exact hd
theorem go_tree {ns : List Nd} {next : Int} (h : treeB ns next = true) : ∀ i, i < ns.length → goB ns next i = true := fun i hi => by
  have hr := rising_of_tree h
  have h1 := (tree_iff.1 h).2.2 i hi
  rw [step_at hi] at h1
  simp only [Bool.and_eq_true] at h1
  rw [go_at hi]
  simp only [Bool.and_eq_true]
  have hp := node_path h1.1
  refine ⟨h1.1, h1.2.2.2, by rw [last_less (Nat.le_of_lt hi) hp]; exact h1.2.2.1, ?_⟩
  have h2 := h1.2.1
  unfold dirB at h2
  unfold foldB
  simp only [Bool.or_eq_true] at h2 ⊢
  rcases h2 with h2 | h2
  · exact .inl h2
  · right
    cases hf : findV (dirV ns[i].path) ns with
    | none => rw [hf] at h2; cases h2
    | some j =>
      obtain ⟨hj, hpj, _⟩ := find_some hf
      rw [hf] at h2
      simp only [List.getElem?_eq_getElem hj] at h2
      have hl := dir_less hp
      have hji : j < i := by
        rcases Nat.lt_trichotomy j i with h3 | h3 | h3
        · exact h3
        · subst h3; exact absurd hpj (less_ne hl).symm
        · have h4 := less_asym (hr i j hj h3)
          rw [hpj, hl] at h4; cases h4
      simp only [List.any_eq_true, Bool.and_eq_true, beq_iff_eq]
      exact ⟨ns[j], List.mem_take_iff_getElem.2 ⟨j, by omega, rfl⟩, hpj, h2⟩
theorem tree_is_go {ns : List Nd} {next : Int} (h1 : ns.length ≤ 60) (h2 : inB next 1 1000000 = true) (h : ∀ i, i < ns.length → goB ns next i = true) : treeB ns next = true := tree_iff.2 ⟨h1, h2, tree_go h⟩
theorem tree_not_go {ns : List Nd} {next : Int} {i : Nat} (hi : i < ns.length) (h : goB ns next i = false) : treeB ns next = false := by
  rw [Bool.eq_false_iff]; intro e
  have := go_tree e i hi
  rw [h] at this; cases this
theorem tree_many {ns : List Nd} {next : Int} (h : 60 < ns.length) : treeB ns next = false := by
  unfold treeB; rw [decide_eq_false (by omega)]; rfl
theorem tree_next {ns : List Nd} {next : Int} (h : inB next 1 1000000 = false) : treeB ns next = false := by
  unfold treeB; rw [h]; simp
/-! What is known as one goes, one more. -/
theorem free_succ {ns : List Nd} {i : Nat} (hi : i < ns.length) (id : Int) : freeB ns (i + 1) id = (freeB ns i id && !(ns[i].id == id)) := by
  unfold freeB
  rw [List.take_succ_eq_append_getElem hi, List.all_append]; simp
theorem fold_succ {ns : List Nd} {i : Nat} (hi : i < ns.length) (p : List UInt8) : foldB ns (i + 1) p = (foldB ns i p || (ns[i].path == p && ns[i].dir)) := by
  unfold foldB
  rw [List.take_succ_eq_append_getElem hi, List.any_append, Bool.or_assoc]; simp
theorem fold_new {ns : List Nd} {next : Int} {i : Nat} (hi : i < ns.length) (h : ∀ j, j < ns.length → j < i + 1 → goB ns next j = true) : foldB ns i ns[i].path = false := by
  have hr := go_rising h
  have h1 := h i hi (by omega)
  rw [go_at hi] at h1
  simp only [Bool.and_eq_true] at h1
  have hp := path_ne_root (node_path h1.1)
  unfold foldB
  rw [Bool.or_eq_false_iff]
  refine ⟨by simpa using hp, ?_⟩
  rw [Bool.eq_false_iff]; intro e
  simp only [List.any_eq_true, Bool.and_eq_true, beq_iff_eq] at e
  obtain ⟨m, hm, hpm, _⟩ := e
  obtain ⟨j, hj, rfl⟩ := List.getElem_of_mem hm
  rw [List.length_take] at hj
  rw [List.getElem_take] at hpm
  exact less_ne (hr j i hi (by omega) (by omega)) hpm
end Go.Proofs.YtipedabppgbfcaaGreatDoor
namespace Go.Proofs.YtipedabppgbfcaaGreatDoor
open Go.RowKit

def strOf (l : List UInt8) : ByteArray := ⟨l.toArray⟩
theorem strOf_size (l : List UInt8) : (strOf l).size = l.length := by simp [strOf, ByteArray.size]
theorem strOf_data (l : List UInt8) : (strOf l).data.toList = l := by simp [strOf]

def digB (d : Nat) : UInt8 := UInt8.ofNat (48 + d)

/-- What the digits ahead of those that are told are. -/
def headDigits (u : Nat) : List UInt8 := if u = 0 then [] else Lib.decDigits u

theorem headDigits_step (u : Nat) (h : u ≠ 0) : headDigits u = headDigits (u / 10) ++ [digB (u % 10)] := by
  unfold headDigits digB
  rw [if_neg h]
  by_cases h10 : u < 10
  · rw [if_pos (by omega), Lib.decDigits, dif_pos h10, Nat.mod_eq_of_lt h10]; rfl
  · rw [if_neg (by omega), Lib.decDigits, dif_neg h10]

theorem strOf_append (a b : List UInt8) : strOf a ++ strOf b = strOf (a ++ b) := by
  apply ByteArray.ext
  simp [strOf]

theorem run_add (a b : List UInt8) (h : a.length + b.length ≤ 9223372036854775807) (w : World) :
    (Op.stringOp .add (strOf a) (strOf b)).run Tryz.prog w = .ok (.string (strOf (a ++ b))) w := by
  rw [run_string_add_sum w _ _ (by rw [strOf_size, strOf_size]; exact h), strOf_append]

def dtab : ByteArray := ⟨#[48, 49, 50, 51, 52, 53, 54, 55, 56, 57]⟩
theorem dtab_cut (d : Nat) (h : d < 10) : dtab.extract d (d + 1) = strOf [digB d] := by
  match d, h with
  | 0, _ => rfl
  | 1, _ => rfl
  | 2, _ => rfl
  | 3, _ => rfl
  | 4, _ => rfl
  | 5, _ => rfl
  | 6, _ => rfl
  | 7, _ => rfl
  | 8, _ => rfl
  | 9, _ => rfl

theorem run_dig (d : Nat) (h : d < 10) (x : Int) (hx : x = d) (w : World) :
    (Instr.slice 9 (.string ⟨#[48, 49, 50, 51, 52, 53, 54, 55, 56, 57]⟩) (some (.int .i64 x)) (some (.int .i64 (x + 1))) none).run Tryz.prog w = .ok (.string (strOf [digB d])) w := by
  subst hx
  rw [run_slice_string w 9 _ .i64 .i64 _ _ Tryz.underlying9 (by omega) (by omega) (by simp [ByteArray.size]; omega)]
  have e := dtab_cut d h
  unfold dtab at e
  rw [show (d : Int).toNat = d by omega, show ((d : Int) + 1).toNat = d + 1 by omega, e]

set_option maxHeartbeats 400000 in
theorem specDecText_pos (n : Nat) (w : World) (h0 : 1 ≤ n) (hn : n ≤ 9223372036854775807) :
    Calls Tryz.prog 138 #[.int .i64 n] w fun e w' => e = .returned (.string (strOf (Lib.decDigits n))) ∧ w = w' := by
  have hl : (Lib.decDigits n).length ≤ 20 := by rw [Lib.decDigits_length]; exact Lib.nDigits_le20 n (by omega)
  go_enter Tryz.func138, Tryz.ntmps138
  go_wp2
  go_loop [3, 4, 5] (fun out m _ => ∃ (u : Nat) (o : List UInt8), u ≤ n ∧ m = .int .i64 u ∧ out = .string (strOf o) ∧ Lib.decDigits n = headDigits u ++ o) (fun _ m _ => (intOf m).toNat)
  case atStart => exact ⟨n, [], Nat.le_refl _, rfl, rfl, by simp [headDigits]; omega⟩
  case round =>
    obtain ⟨u, o, hu, rfl, rfl, ho⟩ := hrel
    have hlo : o.length ≤ 20 := by have := congrArg List.length ho; simp at this; omega
    have HO := Lib.hid ho
    clear ho
    by_cases hz : u = 0
    · subst hz
      go_wp2
      go_ret
      exact ⟨ret_str (by rw [HO.out]; simp [headDigits]), rfl⟩
    · have hz1 : 1 ≤ (u : Int) := by omega
      have hsl := run_dig (u % 10) (by omega) ((u : Int) % 10) (by omega)
      have hadd := run_add [digB (u % 10)] o (by simp; omega)
      go_wp2
      go_round
      case rel => exact ⟨u / 10, _, by omega, by go_num, rfl, by rw [HO.out, headDigits_step u hz]; simp⟩
      case measure => simp [intOf]; omega

theorem neg_tmod (u : Nat) : (-(u : Int)).tmod 10 = -((u % 10 : Nat) : Int) := by rw [Int.neg_tmod]; rfl
theorem neg_tdiv (u : Nat) : (-(u : Int)).tdiv 10 = -((u / 10 : Nat) : Int) := by rw [Int.neg_tdiv]; rfl

set_option maxHeartbeats 400000 in
theorem specDecText_neg (n : Nat) (w : World) (h0 : 1 ≤ n) (hn : n ≤ 9223372036854775808) :
    Calls Tryz.prog 138 #[.int .i64 (-(n : Int))] w fun e w' => e = .returned (.string (strOf (45 :: Lib.decDigits n))) ∧ w = w' := by
  have hl : (Lib.decDigits n).length ≤ 20 := by rw [Lib.decDigits_length]; exact Lib.nDigits_le20 n (by omega)
  have hne : (-(n : Int) == 0) = false := by simp; omega
  go_enter Tryz.func138, Tryz.ntmps138
  go_wp2
  go_loop [3, 4, 5] (fun out m _ => ∃ (m' : Int) (o : List UInt8), -(n : Int) ≤ m' ∧ m' ≤ 0 ∧ m = .int .i64 m' ∧ out = .string (strOf o) ∧ Lib.decDigits n = headDigits m'.natAbs ++ o) (fun _ m _ => (intOf m).natAbs)
  case atStart => exact ⟨-(n : Int), [], by omega, by omega, rfl, rfl, by simp [headDigits]; omega⟩
  case round =>
    obtain ⟨m', o, hm1, hm2, rfl, rfl, ho⟩ := hrel
    have hlo : o.length ≤ 20 := by have := congrArg List.length ho; simp at this; omega
    have HO := Lib.hid ho
    clear ho
    by_cases hz : m' = 0
    · subst hz
      have haddm := run_add [45] o (by simp; omega)
      have em : strOf [45] = (⟨#[45]⟩ : ByteArray) := rfl
      rw [em] at haddm
      clear em
      go_wp2
      go_ret
      exact ⟨ret_str (by rw [HO.out]; simp [headDigits]), rfl⟩
    · have hz1 : m' ≤ -1 := by omega
      have hadd := run_add [digB (m'.natAbs % 10)] o (by simp; omega)
      obtain ⟨u, hu⟩ : ∃ u : Nat, m' = -(u : Int) := ⟨m'.natAbs, by omega⟩
      have HM := Lib.hid (show m'.tmod 10 = -((m'.natAbs % 10 : Nat) : Int) by rw [hu, neg_tmod]; simp)
      have HQ := Lib.hid (show m'.tdiv 10 = -((m'.natAbs / 10 : Nat) : Int) by rw [hu, neg_tdiv]; simp)
      clear hu
      have hq1 : -1000000000000000000 ≤ m'.tdiv 10 := by rw [HQ.out]; omega
      have hq2 : m'.tdiv 10 ≤ 0 := by rw [HQ.out]; omega
      by_cases hd : m'.tmod 10 < 0
      · have hd9 : -9 ≤ m'.tmod 10 := by rw [HM.out]; omega
        have hsl := run_dig (m'.natAbs % 10) (by omega) (-m'.tmod 10) (by rw [HM.out]; omega)
        go_wp2
        go_round
        case rel => exact ⟨m'.tdiv 10, _, by have := HQ.out; omega, by omega, by go_num, rfl, by rw [HO.out, headDigits_step m'.natAbs (by omega), show (m'.tdiv 10).natAbs = m'.natAbs / 10 by rw [HQ.out]; omega]; simp⟩
        case measure => have hq := HQ.out; have hlt : (m'.tdiv 10).natAbs < m'.natAbs := by omega
                        simpa [intOf] using hlt
      · have hd0 : m'.tmod 10 = 0 := by have := HM.out; omega
        have hsl := run_dig (m'.natAbs % 10) (by omega) 0 (by have := HM.out; omega)
        rw [show (0 : Int) + 1 = 1 from rfl] at hsl
        clear hd
        go_wp2
        go_round
        case rel => exact ⟨m'.tdiv 10, _, by have := HQ.out; omega, by omega, by go_num, rfl, by rw [HO.out, headDigits_step m'.natAbs (by omega), show (m'.tdiv 10).natAbs = m'.natAbs / 10 by rw [HQ.out]; omega]; simp⟩
        case measure => have hq := HQ.out; have hlt : (m'.tdiv 10).natAbs < m'.natAbs := by omega
                        simpa [intOf] using hlt

theorem specDecText_zero (w : World) :
    Calls Tryz.prog 138 #[.int .i64 0] w fun e w' => e = .returned (.string (strOf (Lib.itoa 0))) ∧ w = w' := by
  go_enter Tryz.func138, Tryz.ntmps138
  go_wp2
  go_ret
  exact ⟨ret_str (by rw [show Lib.itoa 0 = [48] by unfold Lib.itoa; rw [if_neg (by decide), Lib.decDigits, dif_pos (by decide)]; rfl]; rfl), rfl⟩

theorem specDecText (n : Int) (w : World) (h1 : -9223372036854775808 ≤ n) (h2 : n ≤ 9223372036854775807) :
    Calls Tryz.prog 138 #[.int .i64 n] w fun e w' => e = .returned (.string (strOf (Lib.itoa n))) ∧ w = w' := by
  by_cases h0 : n = 0
  · subst h0; exact specDecText_zero w
  · by_cases hp : 0 ≤ n
    · obtain ⟨u, rfl⟩ : ∃ u : Nat, n = u := ⟨n.toNat, by omega⟩
      rw [Lib.itoa_nonneg]
      exact specDecText_pos u w (by omega) (by omega)
    · obtain ⟨u, rfl⟩ : ∃ u : Nat, n = -(u : Int) := ⟨n.natAbs, by omega⟩
      rw [Lib.itoa_neg u (by omega)]
      exact specDecText_neg u w (by omega) (by omega)
end Go.Proofs.YtipedabppgbfcaaGreatDoor
