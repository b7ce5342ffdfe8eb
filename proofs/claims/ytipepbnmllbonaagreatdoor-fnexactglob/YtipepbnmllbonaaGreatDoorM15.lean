/- Patterns as plain lists: their signs, sets, pieces. Contracts of impl.cutSign and impl.cutRange. -/
import Derived.Test.YtipepbnmllbonaaGreatDoorM9
import Derived.Test.YtipepbnmllbonaaGreatDoorM3
import Derived.Test.YtipepbnmllbonaaGreatDoorShelf
import Derived.OwnWalk
import Derived.Laws.Rows
namespace Go.Proofs.YtipepbnmllbonaaGreatDoor
open Go.RowKit

def headIs (c : UInt8) : List UInt8 → Bool
  | [] => false
  | d :: _ => d == c
theorem headIs_t {c : UInt8} {l : List UInt8} (h : headIs c l = true) : ∃ r, l = c :: r := by
  cases l with
  | nil => cases h
  | cons d r => exact ⟨r, by simp [headIs] at h; rw [h]⟩
/-- The sign that a text begins with, and what stands behind it. -/
def signL : List UInt8 → Option (UInt8 × List UInt8)
  | [] => none
  | c :: r => if c = 92 then (match r with | [] => none | d :: r2 => some (d, r2)) else some (c, r)
theorem signL_esc (d : UInt8) (r : List UInt8) : signL (92 :: d :: r) = some (d, r) := rfl
theorem signL_last : signL [92] = none := rfl
theorem signL_plain {c : UInt8} (r : List UInt8) (h : c ≠ 92) : signL (c :: r) = some (c, r) := by simp [signL, h]
theorem signL_cases {l : List UInt8} {b : UInt8} {r : List UInt8} (h : signL l = some (b, r)) : (l = 92 :: b :: r) ∨ (b ≠ 92 ∧ l = b :: r) := by
  cases l with
  | nil => cases h
  | cons c t =>
    by_cases hc : c = 92
    · subst hc
      cases t with
      | nil => cases h
      | cons d t2 => rw [signL_esc] at h; cases h; exact .inl rfl
    · rw [signL_plain t hc] at h; cases h; exact .inr ⟨hc, rfl⟩
theorem signL_none {l : List UInt8} (h : signL l = none) : l = [] ∨ l = [92] := by
  cases l with
  | nil => exact .inl rfl
  | cons c t =>
    by_cases hc : c = 92
    · subst hc
      cases t with
      | nil => exact .inr rfl
      | cons d t2 => cases h
    · rw [signL_plain t hc] at h; cases h
theorem signL_app {l : List UInt8} {b : UInt8} {r : List UInt8} (h : signL l = some (b, r)) : ∃ a, l = a ++ r ∧ 1 ≤ a.length ∧ ∀ s, signL (a ++ s) = some (b, s) := by
  rcases signL_cases h with rfl | ⟨hb, rfl⟩
  · exact ⟨[92, b], rfl, by simp, fun s => rfl⟩
  · exact ⟨[b], rfl, by simp, fun s => signL_plain s hb⟩
/-- Where the ] that ends a set stands; the first sign doesn't end it. -/
def endL : Bool → List UInt8 → Option Nat
  | _, [] => none
  | f, c :: r =>
    if c = 93 ∧ f = false then some 0
    else if c = 92 then (match r with | [] => none | _ :: r2 => (endL false r2).map (· + 2))
    else (endL false r).map (· + 1)
theorem endL_cons (f : Bool) (c : UInt8) (r : List UInt8) : endL f (c :: r) = if c = 93 ∧ f = false then some 0 else if c = 92 then (match r with | [] => none | _ :: r2 => (endL false r2).map (· + 2)) else (endL false r).map (· + 1) := by cases r <;> rfl
theorem endL_stop (r : List UInt8) : endL false (93 :: r) = some 0 := by rw [endL_cons, if_pos ⟨rfl, rfl⟩]
theorem endL_esc (f : Bool) (r : List UInt8) : endL f (92 :: r) = (endL false (r.drop 1)).map (· + 2) := by
  rw [endL_cons, if_neg (by rintro ⟨h, -⟩; cases h), if_pos rfl]
  cases r <;> rfl
theorem endL_go (f : Bool) {c : UInt8} (r : List UInt8) (h : ¬ (c = 93 ∧ f = false)) (h2 : c ≠ 92) : endL f (c :: r) = (endL false r).map (· + 1) := by
  rw [endL_cons, if_neg h, if_neg h2]
theorem endL_sign {f : Bool} {l : List UInt8} {b : UInt8} {r : List UInt8} (h : signL l = some (b, r)) (hf : f = true ∨ headIs 93 l = false) : endL f l = (endL false r).map (· + (l.length - r.length)) := by
  rcases signL_cases h with rfl | ⟨hb, rfl⟩
  · rw [endL_esc]; simp; congr 1; funext x; omega
  · rw [endL_go f r _ hb]
    · simp
    · rintro ⟨e, e2⟩
      rcases hf with hf | hf
      · rw [hf] at e2; cases e2
      · simp [headIs, e] at hf
theorem endL_none_sign {f : Bool} {l : List UInt8} (h : signL l = none) : endL f l = none := by
  rcases signL_none h with rfl | rfl
  · rfl
  · rw [endL_esc]; rfl
inductive Signs : List UInt8 → Prop
  | nil : Signs []
  | cons {l : List UInt8} {b : UInt8} {r : List UInt8} (h : signL l = some (b, r)) (hr : Signs r) : Signs l
theorem endL_facts : ∀ (n : Nat) (l : List UInt8) (f : Bool) (m : Nat), l.length ≤ n → endL f l = some m → m < l.length ∧ l[m]? = some 93 ∧ Signs (l.take m)
  | n, [], f, m, _, h => by cases h
  | 0, c :: r, f, m, hn, h => by simp at hn
  | n + 1, c :: r, f, m, hn, h => by
    by_cases h1 : c = 93 ∧ f = false
    · rw [endL_cons, if_pos h1] at h
      cases h
      exact ⟨by simp, by simp [h1.1], Signs.nil⟩
    · by_cases h2 : c = 92
      · subst h2
        cases r with
        | nil => rw [endL_esc] at h; cases h
        | cons d t =>
          rw [endL_esc] at h
          cases he : endL false t with
          | none => simp [he] at h
          | some k =>
            simp [he] at h
            subst h
            obtain ⟨i1, i2, i3⟩ := endL_facts n t false k (by simp at hn; omega) he
            refine ⟨by simp; omega, by simpa using i2, ?_⟩
            exact Signs.cons (signL_esc d (t.take k)) i3
      · rw [endL_go f r h1 h2] at h
        cases he : endL false r with
        | none => simp [he] at h
        | some k =>
          simp [he] at h
          subst h
          obtain ⟨i1, i2, i3⟩ := endL_facts n r false k (by simp at hn; omega) he
          refine ⟨by simp; omega, by simpa using i2, ?_⟩
          exact Signs.cons (signL_plain (r.take k) h2) i3
theorem endL_take : ∀ (n : Nat) (l : List UInt8) (f : Bool) (m : Nat), l.length ≤ n → endL f l = some m → endL f (l.take (m + 1)) = some m
  | n, [], f, m, _, h => by cases h
  | 0, c :: r, f, m, hn, h => by simp at hn
  | n + 1, c :: r, f, m, hn, h => by
    by_cases h1 : c = 93 ∧ f = false
    · rw [endL_cons, if_pos h1] at h
      cases h
      rw [List.take_succ_cons, endL_cons, if_pos h1]
    · by_cases h2 : c = 92
      · subst h2
        cases r with
        | nil => rw [endL_esc] at h; cases h
        | cons d t =>
          rw [endL_esc] at h
          cases he : endL false t with
          | none => simp [he] at h
          | some k =>
            simp [he] at h
            subst h
            rw [List.take_succ_cons, List.take_succ_cons, endL_esc]
            simp [endL_take n t false k (by simp at hn; omega) he]
      · rw [endL_go f r h1 h2] at h
        cases he : endL false r with
        | none => simp [he] at h
        | some k =>
          simp [he] at h
          subst h
          rw [List.take_succ_cons, endL_go f _ h1 h2, endL_take n r false k (by simp at hn; omega) he]
          rfl

/-- The ranges of a set's body: a sign alone, or a sign, a hyphen and a sign. -/
def bodyF : Nat → List UInt8 → List (UInt8 × UInt8)
  | 0, _ => []
  | n + 1, l =>
    match signL l with
    | none => []
    | some (lo, rest) =>
      if headIs 45 rest = true ∧ rest.drop 1 ≠ [] then
        (match signL (rest.drop 1) with
        | none => []
        | some (hi, r) => (lo, hi) :: bodyF n r)
      else (lo, lo) :: bodyF n rest
theorem bodyF_nil (n : Nat) : bodyF n [] = [] := by cases n <;> rfl
theorem bodyF_one {n : Nat} {l : List UInt8} {lo : UInt8} {rest : List UInt8} (h : signL l = some (lo, rest)) (h2 : ¬ (headIs 45 rest = true ∧ rest.drop 1 ≠ [])) : bodyF (n + 1) l = (lo, lo) :: bodyF n rest := by
  rw [bodyF, h]; simp only [if_neg h2]
theorem bodyF_two {n : Nat} {l : List UInt8} {lo hi : UInt8} {tl r : List UInt8} (h : signL l = some (lo, 45 :: tl)) (h2 : tl ≠ []) (h3 : signL tl = some (hi, r)) : bodyF (n + 1) l = (lo, hi) :: bodyF n r := by
  rw [bodyF, h]
  simp only []
  rw [if_pos ⟨rfl, by simpa using h2⟩]
  simp only [List.drop_succ_cons, List.drop_zero, h3]
theorem signL_len {l : List UInt8} {b : UInt8} {r : List UInt8} (h : signL l = some (b, r)) : r.length < l.length := by
  rcases signL_cases h with rfl | ⟨hb, rfl⟩ <;> simp <;> omega
theorem bodyF_fuel : ∀ (n m : Nat) (l : List UInt8), l.length ≤ n → l.length ≤ m → bodyF n l = bodyF m l
  | 0, m, l, h, _ => by rw [List.eq_nil_of_length_eq_zero (by omega : l.length = 0), bodyF_nil, bodyF_nil]
  | n + 1, 0, l, _, h => by rw [List.eq_nil_of_length_eq_zero (by omega : l.length = 0), bodyF_nil, bodyF_nil]
  | n + 1, m + 1, l, h1, h2 => by
    rw [bodyF, bodyF]
    cases hs : signL l with
    | none => rfl
    | some x =>
      obtain ⟨lo, rest⟩ := x
      have hl := signL_len hs
      simp only []
      by_cases hc : headIs 45 rest = true ∧ rest.drop 1 ≠ []
      · rw [if_pos hc, if_pos hc]
        cases hs2 : signL (rest.drop 1) with
        | none => rfl
        | some y =>
          obtain ⟨hi, r⟩ := y
          have hl2 := signL_len hs2
          simp only [List.length_drop] at hl2
          simp only []
          rw [bodyF_fuel n m r (by omega) (by omega)]
      · rw [if_neg hc, if_neg hc, bodyF_fuel n m rest (by omega) (by omega)]
def bodyL (l : List UInt8) : List (UInt8 × UInt8) := bodyF l.length l
theorem bodyL_nil : bodyL [] = [] := rfl
theorem bodyL_one {l : List UInt8} {lo : UInt8} {rest : List UInt8} (h : signL l = some (lo, rest)) (h2 : ¬ (headIs 45 rest = true ∧ rest.drop 1 ≠ [])) : bodyL l = (lo, lo) :: bodyL rest := by
  have hl := signL_len h
  obtain ⟨k, hk⟩ : ∃ k, l.length = k + 1 := ⟨l.length - 1, by omega⟩
  unfold bodyL
  rw [hk, bodyF_one h h2, bodyF_fuel k rest.length rest (by omega) (Nat.le_refl _)]
theorem bodyL_two {l : List UInt8} {lo hi : UInt8} {tl r : List UInt8} (h : signL l = some (lo, 45 :: tl)) (h2 : tl ≠ []) (h3 : signL tl = some (hi, r)) : bodyL l = (lo, hi) :: bodyL r := by
  have hl := signL_len h
  have hl3 := signL_len h3
  simp at hl
  obtain ⟨k, hk⟩ : ∃ k, l.length = k + 1 := ⟨l.length - 1, by omega⟩
  unfold bodyL
  rw [hk, bodyF_two h h2 h3, bodyF_fuel k r.length r (by omega) (Nat.le_refl _)]

/-- A range as impl cuts it: it looks for the set's end itself. -/
def rangeL (l : List UInt8) : Option ((UInt8 × UInt8) × List UInt8) :=
  match signL l with
  | none => none
  | some (lo, rest) =>
    if headIs 45 rest = true ∧ headIs 93 (rest.drop 1) = false then
      (match signL (rest.drop 1) with
      | none => none
      | some (hi, r) => some ((lo, hi), r))
    else some ((lo, lo), rest)
theorem rangeL_none {l : List UInt8} (h : signL l = none) : rangeL l = none := by unfold rangeL; rw [h]
theorem rangeL_one {l : List UInt8} {lo : UInt8} {rest : List UInt8} (h : signL l = some (lo, rest)) (h2 : ¬ (headIs 45 rest = true ∧ headIs 93 (rest.drop 1) = false)) : rangeL l = some ((lo, lo), rest) := by
  unfold rangeL; rw [h]; simp only [if_neg h2]
theorem rangeL_two {l : List UInt8} {lo : UInt8} {tl : List UInt8} (h : signL l = some (lo, 45 :: tl)) (h2 : headIs 93 tl = false) : rangeL l = (signL tl).map fun x => ((lo, x.1), x.2) := by
  unfold rangeL; rw [h]
  simp only [List.drop_succ_cons, List.drop_zero]
  rw [if_pos ⟨rfl, h2⟩]
  cases signL tl <;> rfl
def rangesL : Nat → List UInt8 → Option (List (UInt8 × UInt8) × List UInt8)
  | 0, _ => none
  | n + 1, l =>
    match rangeL l with
    | none => none
    | some (x, r) => if headIs 93 r = true then some ([x], r.drop 1) else (rangesL n r).map fun y => (x :: y.1, y.2)
theorem headIs_take {c : UInt8} {l : List UInt8} (m : Nat) (h : headIs c l = false) : headIs c (l.take m) = false := by
  cases l with
  | nil => simp [headIs]
  | cons d r =>
    cases m with
    | zero => rfl
    | succ m => exact h
theorem take_app (a x : List UInt8) (k : Nat) : (a ++ x).take (a.length + k) = a ++ x.take k := by
  rw [List.take_append, List.take_of_length_le (by omega), Nat.add_sub_cancel_left]
theorem drop_app (a x : List UInt8) (k : Nat) : (a ++ x).drop (a.length + k) = x.drop k := by
  rw [List.drop_append, List.drop_eq_nil_of_le (by omega), Nat.add_sub_cancel_left]; rfl
/-- A range, as both see it. -/
theorem rangeL_facts {l : List UInt8} {x : UInt8 × UInt8} {r : List UInt8} (f : Bool) (hf : f = true ∨ headIs 93 l = false) (h : rangeL l = some (x, r)) :
    r.length < l.length ∧ endL f l = (endL false r).map (· + (l.length - r.length)) ∧ ∀ m, endL false r = some m → bodyL (l.take (m + (l.length - r.length))) = x :: bodyL (r.take m) ∧ l.drop (m + (l.length - r.length)) = r.drop m := by
  cases hs : signL l with
  | none => rw [rangeL_none hs] at h; cases h
  | some y =>
    obtain ⟨lo, rest⟩ := y
    have hl := signL_len hs
    have he := endL_sign hs hf
    obtain ⟨a, ha, ha1, ha2⟩ := signL_app hs
    by_cases hc : headIs 45 rest = true ∧ headIs 93 (rest.drop 1) = false
    · obtain ⟨tl, rfl⟩ := headIs_t hc.1
      have h93 : headIs 93 tl = false := hc.2
      rw [rangeL_two hs h93] at h
      cases hs2 : signL tl with
      | none => simp [hs2] at h
      | some z =>
        obtain ⟨hi, r'⟩ := z
        simp [hs2] at h
        obtain ⟨rfl, rfl⟩ := h
        have hl2 := signL_len hs2
        obtain ⟨b, hb, hb1, hb2⟩ := signL_app hs2
        have e2 : endL false (45 :: tl) = (endL false tl).map (· + 1) := endL_go false tl (by decide) (by decide)
        have e3 := endL_sign (f := false) hs2 (.inr h93)
        have hll : l.length = a.length + 1 + b.length + r'.length := by rw [ha, hb]; simp; omega
        refine ⟨by omega, ?_, fun m hm => ?_⟩
        · rw [he, e2, e3]
          simp [Option.map_map]
          congr 1
          funext q
          simp
          simp at hl
          omega
        · have ht : l.take (m + (l.length - r'.length)) = a ++ 45 :: (b ++ r'.take m) := by
            rw [show m + (l.length - r'.length) = a.length + (1 + (b.length + m)) by omega, ha, hb]
            rw [take_app, Nat.add_comm 1, List.take_succ_cons, take_app]
          constructor
          · rw [ht]
            exact bodyL_two (ha2 _) (by intro e; have := congrArg List.length e; rw [List.length_append, List.length_nil] at this; omega) (hb2 _)
          · rw [show m + (l.length - r'.length) = a.length + (1 + (b.length + m)) by omega, ha, hb]
            rw [drop_app, Nat.add_comm 1, List.drop_succ_cons, drop_app]
    · rw [rangeL_one hs hc] at h
      cases h
      refine ⟨hl, he, fun m hm => ?_⟩
      have hll : l.length = a.length + r.length := by rw [ha]; simp
      have ht : l.take (m + (l.length - r.length)) = a ++ r.take m := by
        rw [show m + (l.length - r.length) = a.length + m by omega, ha]
        rw [take_app]
      constructor
      · rw [ht]
        refine bodyL_one (ha2 _) ?_
        rintro ⟨g1, g2⟩
        cases h45 : headIs 45 r with
        | false => rw [headIs_take m h45] at g1; cases g1
        | true =>
          obtain ⟨tl, rfl⟩ := headIs_t h45
          have h93 : headIs 93 tl = true := by
            cases hh : headIs 93 tl with
            | true => rfl
            | false => exact (hc ⟨rfl, hh⟩).elim
          obtain ⟨t2, rfl⟩ := headIs_t h93
          rw [endL_go false _ (by decide) (by decide), endL_stop] at hm
          cases hm
          simp at g2
      · rw [show m + (l.length - r.length) = a.length + m by omega, ha]
        rw [drop_app]
theorem rangeL_stuck {l : List UInt8} (f : Bool) (hf : f = true ∨ headIs 93 l = false) (h : rangeL l = none) : endL f l = none := by
  cases hs : signL l with
  | none => exact endL_none_sign hs
  | some y =>
    obtain ⟨lo, rest⟩ := y
    by_cases hc : headIs 45 rest = true ∧ headIs 93 (rest.drop 1) = false
    · obtain ⟨tl, rfl⟩ := headIs_t hc.1
      have h93 : headIs 93 tl = false := hc.2
      rw [rangeL_two hs h93] at h
      cases hs2 : signL tl with
      | none =>
        rw [endL_sign hs hf, endL_go false tl (by decide) (by decide), endL_none_sign hs2]
        rfl
      | some z => simp [hs2] at h
    · rw [rangeL_one hs hc] at h; cases h
theorem rangesL_eq : ∀ (n : Nat) (l : List UInt8) (f : Bool), l.length ≤ n → (f = true ∨ headIs 93 l = false) → rangesL n l = (endL f l).map fun m => (bodyL (l.take m), l.drop (m + 1))
  | 0, l, f, hn, _ => by
    rw [List.eq_nil_of_length_eq_zero (by omega : l.length = 0)]; rfl
  | n + 1, l, f, hn, hf => by
    rw [rangesL]
    cases hr : rangeL l with
    | none => rw [rangeL_stuck f hf hr]; rfl
    | some y =>
      obtain ⟨x, r⟩ := y
      obtain ⟨h1, h2, h3⟩ := rangeL_facts f hf hr
      simp only []
      rw [h2]
      cases h93 : headIs 93 r with
      | true =>
        obtain ⟨t, rfl⟩ := headIs_t h93
        obtain ⟨g1, g2⟩ := h3 0 (endL_stop t)
        rw [endL_stop]
        simp only [Option.map_some, if_true]
        rw [g1, ← List.drop_drop, g2]
        rfl
      | false =>
        rw [rangesL_eq n r false (by omega) (.inr h93)]
        simp only [Bool.false_eq_true, if_false]
        cases he : endL false r with
        | none => rfl
        | some m =>
          obtain ⟨g1, g2⟩ := h3 m he
          simp only [Option.map_some]
          have g3 : l.drop (m + (l.length - r.length) + 1) = r.drop (m + 1) := by rw [← List.drop_drop, g2, List.drop_drop]
          rw [g1, g3]

inductive Pc where
  | star
  | any
  | sign (b : UInt8)
  | set (t : Bool) (rs : List (UInt8 × UInt8))
def inR (c : UInt8) (x : UInt8 × UInt8) : Bool := decide (x.1.toNat ≤ c.toNat) && decide (c.toNat ≤ x.2.toNat)
/-- Whether a piece stands for a byte. -/
def Pc.has (c : UInt8) : Pc → Bool
  | .star => true
  | .any => true
  | .sign b => c == b
  | .set t rs => (rs.any (inR c)) != t
def Pc.isStar : Pc → Bool
  | .star => true
  | _ => false
def setB (l : List UInt8) : List UInt8 := if headIs 33 l then l.drop 1 else l
def setN (l : List UInt8) : Nat := if headIs 33 l then 1 else 0
theorem setB_eq (l : List UInt8) : setB l = l.drop (setN l) := by unfold setB setN; split <;> rfl
theorem setN_le (l : List UInt8) : setN l ≤ l.length := by
  unfold setN
  cases l with
  | nil => simp [headIs]
  | cons => split <;> simp
/-- The first piece of a pattern, and how many bytes it takes. -/
def pieceL : List UInt8 → Option (Pc × Nat)
  | [] => none
  | c :: r =>
    if c = 42 then some (.star, 1)
    else if c = 63 then some (.any, 1)
    else if c = 91 then (endL true (setB r)).map fun m => (.set (headIs 33 r) (bodyL ((setB r).take m)), m + setN r + 2)
    else if c = 92 then (match r with | [] => none | d :: _ => some (.sign d, 2))
    else some (.sign c, 1)
theorem pieceL_star (r : List UInt8) : pieceL (42 :: r) = some (.star, 1) := rfl
theorem pieceL_any (r : List UInt8) : pieceL (63 :: r) = some (.any, 1) := rfl
theorem pieceL_set (r : List UInt8) : pieceL (91 :: r) = (endL true (setB r)).map fun m => (.set (headIs 33 r) (bodyL ((setB r).take m)), m + setN r + 2) := rfl
theorem pieceL_esc (d : UInt8) (r : List UInt8) : pieceL (92 :: d :: r) = some (.sign d, 2) := rfl
theorem pieceL_last : pieceL [92] = none := rfl
theorem pieceL_sign {c : UInt8} (r : List UInt8) (h1 : c ≠ 42) (h2 : c ≠ 63) (h3 : c ≠ 91) (h4 : c ≠ 92) : pieceL (c :: r) = some (.sign c, 1) := by
  simp [pieceL, h1, h2, h3, h4]
theorem pieceL_pos {l : List UInt8} {p : Pc} {n : Nat} (h : pieceL l = some (p, n)) : 1 ≤ n ∧ n ≤ l.length := by
  cases l with
  | nil => cases h
  | cons c r =>
    by_cases h1 : c = 42
    · subst h1; cases h; simp
    by_cases h2 : c = 63
    · subst h2; cases h; simp
    by_cases h3 : c = 91
    · subst h3
      rw [pieceL_set] at h
      cases he : endL true (setB r) with
      | none => simp [he] at h
      | some m =>
        simp [he] at h
        obtain ⟨-, rfl⟩ := h
        have := (endL_facts _ _ _ _ (Nat.le_refl _) he).1
        have h5 := setN_le r
        rw [setB_eq] at this
        simp at this ⊢
        omega
    by_cases h4 : c = 92
    · subst h4
      cases r with
      | nil => cases h
      | cons d t => cases h; simp
    · rw [pieceL_sign r h1 h2 h3 h4] at h; cases h; simp
/-- All pieces of a pattern. -/
def piecesF : Nat → List UInt8 → Option (List Pc)
  | _, [] => some []
  | 0, _ :: _ => none
  | n + 1, c :: r =>
    match pieceL (c :: r) with
    | none => none
    | some (p, k) => (piecesF n ((c :: r).drop k)).map (p :: ·)
theorem piecesF_fuel : ∀ (n m : Nat) (l : List UInt8), l.length ≤ n → l.length ≤ m → piecesF n l = piecesF m l
  | n, m, [], _, _ => by cases n <;> cases m <;> rfl
  | 0, m, c :: r, h, _ => by simp at h
  | n + 1, 0, c :: r, _, h => by simp at h
  | n + 1, m + 1, c :: r, h1, h2 => by
    rw [piecesF, piecesF]
    cases hp : pieceL (c :: r) with
    | none => rfl
    | some x =>
      obtain ⟨p, k⟩ := x
      obtain ⟨g1, g2⟩ := pieceL_pos hp
      simp only []
      rw [piecesF_fuel n m _ (by simp at h1 ⊢; omega) (by simp at h2 ⊢; omega)]
def piecesL (l : List UInt8) : Option (List Pc) := piecesF l.length l
theorem piecesL_nil : piecesL [] = some [] := rfl
theorem piecesL_none {l : List UInt8} (h : l ≠ []) (hp : pieceL l = none) : piecesL l = none := by
  cases l with
  | nil => exact (h rfl).elim
  | cons c r => unfold piecesL; rw [List.length_cons, piecesF, hp]
theorem piecesL_some {l : List UInt8} {p : Pc} {k : Nat} (hp : pieceL l = some (p, k)) : piecesL l = (piecesL (l.drop k)).map (p :: ·) := by
  cases l with
  | nil => cases hp
  | cons c r =>
    obtain ⟨g1, g2⟩ := pieceL_pos hp
    unfold piecesL
    rw [List.length_cons, piecesF, hp]
    simp only []
    rw [piecesF_fuel r.length _ _ (by simp at g2 ⊢; omega) (Nat.le_refl _)]
def okP (c : UInt8) : Bool := !(c == 47 || c == 10)
/-- PatternOk. -/
def patB (l : List UInt8) : Bool := decide (l.length ≤ 60) && l.all okP && (piecesL l).isSome
end Go.Proofs.YtipepbnmllbonaaGreatDoor
namespace Go.Proofs.YtipepbnmllbonaaGreatDoor
open Go.RowKit

theorem slice1 {q : ByteArray} {c : UInt8} {r : List UInt8} (h : q.data.toList = c :: r) (W : World) :
    (Instr.slice 9 (.string q) (some (.int .i64 1)) none none).run Tryz.prog W = .ok (.string (strOf r)) W := by
  have hs : 1 ≤ q.size := by have := congrArg List.length h; simp at this; omega
  rw [run_slice_string_l (w := W) (t := 9) (s := q) (kl := .i64) (l := 1) (ht := Tryz.underlying9) (h0 := by omega) (h1 := by omega)]
  have e : (q.extract 1 q.size).data.toList = r := by
    rw [Lib.extract_data, h]
    have := congrArg List.length h
    simp at this
    rw [List.take_of_length_le (by simp; omega)]; rfl
  have e3 : q.extract 1 q.size = strOf r := by
    have e2 : strOf ((q.extract 1 q.size).data.toList) = q.extract 1 q.size := by simp only [strOf, Array.toArray_toList]
    rw [← e2, e]
  rw [show (1 : Int).toNat = 1 from rfl, e3]
theorem index0 {q : ByteArray} {c : UInt8} {r : List UInt8} (h : q.data.toList = c :: r) : ∃ h : 0 < q.size, q[0]'h = c := by
  have hs : 0 < q.size := by have := congrArg List.length h; simp at this; omega
  refine ⟨hs, ?_⟩
  have := at_byte q 0 hs
  rw [h] at this
  simpa using this.symm
theorem empty_f {q : ByteArray} {c : UInt8} {r : List UInt8} (h : q.data.toList = c :: r) : q.toList.isEmpty = false := by
  rw [Lib.toList_data, h]; rfl
theorem sign_trim (l : List UInt8) : signL l = match Lib.trimPrefix l [92] with | [] => none | c :: r => some (c, r) := by
  cases l with
  | nil => rfl
  | cons c r =>
    by_cases h : c = 92
    · subst h
      have : Lib.trimPrefix (92 :: r) [92] = r := by simp [Lib.trimPrefix, Lib.hasPrefix]
      rw [this]
      cases r <;> rfl
    · have : Lib.trimPrefix (c :: r) [92] = c :: r := by
        have h2 : ([92] : List UInt8).isPrefixOf (c :: r) = false := by simp [List.isPrefixOf]; exact fun e => h e.symm
        unfold Lib.trimPrefix Lib.hasPrefix; rw [h2]; rfl
      rw [this, signL_plain r h]
theorem trim_is (l : List UInt8) (c : UInt8) : Lib.trimPrefix l [c] = if headIs c l then l.drop 1 else l := by
  cases l with
  | nil => rfl
  | cons d r =>
    by_cases h : d = c
    · subst h; simp [Lib.trimPrefix, Lib.hasPrefix, headIs]
    · have h2 : ([c] : List UInt8).isPrefixOf (d :: r) = false := by simp [List.isPrefixOf]; exact fun e => h e.symm
      unfold Lib.trimPrefix Lib.hasPrefix
      rw [h2]
      simp [headIs, h]
theorem has_is (l : List UInt8) (c : UInt8) : Lib.hasPrefix l [c] = headIs c l := by
  cases l with
  | nil => rfl
  | cons d r =>
    simp only [Lib.hasPrefix, List.isPrefixOf, headIs, Bool.and_true]
    rw [Bool.eq_iff_iff]; simp; exact eq_comm

set_option maxRecDepth 100000 in
set_option maxHeartbeats 4000000 in
theorem cutSign_none (s : ByteArray) (w : World) (h : signL s.data.toList = none) :
    Calls Tryz.prog 186 #[.string s] w fun e w' => e = .returned (.tuple #[.int .u8 0, .string (strOf []), .bool false]) ∧ Below w.heap.size w w' := by
  have CT := Lib.hid (fun W => Tryz.strings_TrimPrefix s ⟨#[92]⟩ W)
  rw [sign_trim] at h
  have ht : Lib.trimPrefix s.data.toList [92] = [] := by
    cases hh : Lib.trimPrefix s.data.toList [92] with
    | nil => rfl
    | cons c r => rw [hh] at h; cases h
  have CT2 := Lib.hid (show ∀ W : World, Calls Tryz.prog 175 #[.string s, .string ⟨#[92]⟩] W fun e w' => e = .returned (.string ⟨#[]⟩) ∧ w' = W from fun W => (CT.out W).mono fun e w' he => by
    rw [show (⟨#[92]⟩ : ByteArray).data.toList = [92] from rfl, ht] at he
    exact he)
  clear CT h ht
  go_enter Tryz.func186, Tryz.ntmps186
  go_wp2_with fail
  refine (CT2.out _).mono ?_
  rintro e W1 ⟨rfl, rfl⟩
  go_wp2
  go_ret3
  exact ⟨rfl, Below.refl _ _⟩
set_option maxRecDepth 100000 in
set_option maxHeartbeats 4000000 in
theorem cutSign_some (s : ByteArray) (w : World) (b : UInt8) (r : List UInt8) (h : signL s.data.toList = some (b, r)) :
    Calls Tryz.prog 186 #[.string s] w fun e w' => e = .returned (.tuple #[.int .u8 (b.toNat : Int), .string (strOf r), .bool true]) ∧ Below w.heap.size w w' := by
  have CT := Lib.hid (fun W => Tryz.strings_TrimPrefix s ⟨#[92]⟩ W)
  rw [sign_trim] at h
  have ht : Lib.trimPrefix s.data.toList [92] = b :: r := by
    cases hh : Lib.trimPrefix s.data.toList [92] with
    | nil => rw [hh] at h; cases h
    | cons c r2 => rw [hh] at h; cases h; rfl
  obtain ⟨q, hq⟩ : ∃ q, strOf (b :: r) = q := ⟨_, rfl⟩
  have hqd : q.data.toList = b :: r := by rw [← hq, strOf_data]
  have CT2 := Lib.hid (show ∀ W : World, Calls Tryz.prog 175 #[.string s, .string ⟨#[92]⟩] W fun e w' => e = .returned (.string q) ∧ w' = W from fun W => (CT.out W).mono fun e w' he => by
    rw [show (⟨#[92]⟩ : ByteArray).data.toList = [92] from rfl, ht] at he
    rw [← hq]
    exact he)
  have he := empty_f hqd
  obtain ⟨hx1, hx2⟩ := index0 hqd
  have hsl := fun W => slice1 hqd W
  clear CT h ht hq hqd
  go_enter Tryz.func186, Tryz.ntmps186
  go_wp2_with fail
  refine (CT2.out _).mono ?_
  rintro e W1 ⟨rfl, rfl⟩
  go_wp2
  go_quiet (fail)
  go_wp2
  go_ret3
  exact ⟨rfl, ⟨rfl, rfl, rfl, Nat.le_refl _, fun _ _ => rfl⟩⟩

/-- Two cells of a struct of the call's own. -/
def Two (W : World) (b : Nat) (v0 v1 : Value) : Prop := W.heap[b]? = some (.cells #[v0, v1] 225 (0, 0))
theorem Two.cell {W : World} {b : Nat} {v0 v1 : Value} (h : Two W b v0 v1) : W.cell? ⟨b, 0, none⟩ = some v0 ∧ W.cell? ⟨b, 1, none⟩ = some v1 ∧ W.frozen? ⟨b, 0, none⟩ = false ∧ W.frozen? ⟨b, 1, none⟩ = false := by
  unfold Two at h
  exact ⟨by simp [World.cell?, h], by simp [World.cell?, h], frozen_of_row W b 0 _ _ h, frozen_of_row W b 1 _ _ h⟩
theorem Two.set {W : World} {b : Nat} {v0 v1 : Value} (h : Two W b v0 v1) (u0 u1 : Value) : Two ((W.setCell ⟨b, 0, none⟩ u0).setCell ⟨b, 1, none⟩ u1) b u0 u1 := by
  unfold Two at *
  have h1 := heap_setCell_same W b 0 _ _ u0 h
  have h2 := heap_setCell_same _ b 1 _ _ u1 h1
  rw [h2]; rfl
theorem Two.new (w : World) (v0 v1 : Value) : Two (w.alloc (.cells #[v0, v1] 225)) w.heap.size v0 v1 := heap_alloc_new w _
theorem Two.on {W W' : World} {b : Nat} {v0 v1 : Value} {B : Nat} (h : Two W b v0 v1) (hb : Below B W W') (hB : b < B) : Two W' b v0 v1 := (hb.block b hB).trans h
theorem Two.drew {W : World} {b : Nat} {v0 v1 : Value} (h : Two W b v0 v1) : Two W.drew b v0 v1 := h

set_option maxRecDepth 100000 in
set_option maxHeartbeats 4000000 in
theorem cutRange_lone (s : ByteArray) (w : World) (h : signL s.data.toList = none) :
    Calls Tryz.prog 215 #[.string s] w fun e w' => e = .returned (.tuple #[.agg #[.int .u8 0, .int .u8 0], .string (strOf []), .bool false]) ∧ Below w.heap.size w w' := by
  have CS := Lib.hid (fun W => cutSign_none s W h)
  have CP := Lib.hid (show ∀ W : World, Calls Tryz.prog 76 #[.string (strOf []), .string ⟨#[45]⟩] W fun e w' => e = .returned (.tuple #[.string (strOf []), .bool false]) ∧ w' = W from fun W => Tryz.strings_CutPrefix (strOf []) ⟨#[45]⟩ W)
  clear h
  generalize hz : strOf [] = z at CS CP
  clear hz
  go_enter Tryz.func215, Tryz.ntmps215
  go_wp2_with fail
  refine (CS.out _).mono ?_
  rintro e W1 ⟨rfl, hb1⟩
  have hT := (Two.new w (.int .u8 0) (.int .u8 0)).on hb1 (by simp)
  obtain ⟨k0, k1, k2, k3⟩ := hT.cell
  obtain ⟨m0, m1, m2, m3⟩ := (hT.set (.int .u8 0) (.int .u8 0)).cell
  have HB := Lib.hid (((Below.refl w.heap.size w).alloc (Nat.le_refl _) (.cells #[.int .u8 0, .int .u8 0] 225)).trans (hb1.mono (by simp)))
  clear hT hb1
  go_wp2_with fail
  refine (CP.out _).mono ?_
  rintro e W2 ⟨rfl, rfl⟩
  go_wp2
  refine bodyPost_ret (v := .tuple #[.agg #[.int .u8 0, .int .u8 0], .string z, .bool false]) (by simp [results, Tryz.results215, go_sem, m0, m1]) rfl ⟨rfl, ?_⟩
  exact (HB.out.setCell (p := ⟨w.heap.size, 0, none⟩) (Nat.le_refl _) _).setCell (p := ⟨w.heap.size, 1, none⟩) (Nat.le_refl _) _
end Go.Proofs.YtipepbnmllbonaaGreatDoor
