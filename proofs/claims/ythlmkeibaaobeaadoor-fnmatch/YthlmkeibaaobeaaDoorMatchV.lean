/- What a pattern stands for, as a plain function; a piece of a pattern cut short. -/
import Derived.Test.YthlmkeibaaobeaaDoorGlobs
namespace Go.Proofs.YthlmkeibaaobeaaDoor
open Go.RowKit

/-- From some place so far on. -/
def starF (f : Nat → Bool) : Nat → Bool
  | 0 => f 0
  | k + 1 => f (k + 1) || starF f k
def hasAt (name : List UInt8) (p : Pc) (k : Nat) : Bool :=
  match name[k]? with
  | some c => p.has c
  | none => false
/-- The places that a piece leads to. -/
def stepF (name : List UInt8) (p : Pc) (f : Nat → Bool) : Nat → Bool :=
  if p.isStar then starF f else fun k => match k with | 0 => false | k + 1 => f k && hasAt name p k
def runF (name : List UInt8) (ps : List Pc) (f : Nat → Bool) : Nat → Bool := ps.foldl (fun g p => stepF name p g) f
def matchV (l name : List UInt8) : Bool :=
  match piecesL l with
  | some ps => runF name ps (fun k => k == 0) name.length
  | none => false
theorem stepF_zero {name : List UInt8} {p : Pc} (f : Nat → Bool) (h : p.isStar = false) : stepF name p f 0 = false := by unfold stepF; rw [h]; rfl
theorem stepF_succ {name : List UInt8} {p : Pc} (f : Nat → Bool) (k : Nat) (h : p.isStar = false) : stepF name p f (k + 1) = (f k && hasAt name p k) := by unfold stepF; rw [h]; rfl
theorem stepF_star {name : List UInt8} (f : Nat → Bool) : stepF name .star f = starF f := rfl
theorem hasAt_some {name : List UInt8} {p : Pc} {k : Nat} {c : UInt8} (h : name[k]? = some c) : hasAt name p k = p.has c := by unfold hasAt; rw [h]
/-- The first place that is reached decides. -/
theorem starF_first {f : Nat → Bool} {j : Nat} (h : f j = true) (hb : ∀ i, i < j → f i = false) : ∀ k, starF f k = decide (j ≤ k)
  | 0 => by
    unfold starF
    cases j with
    | zero => simpa using h
    | succ j => rw [hb 0 (by omega)]; simp
  | k + 1 => by
    unfold starF
    rw [starF_first h hb k]
    by_cases h1 : j ≤ k
    · simp [h1, show j ≤ k + 1 by omega]
    · by_cases h2 : j = k + 1
      · subst h2; simp [h]
      · rw [hb (k + 1) (by omega)]; simp [h1, show ¬ j ≤ k + 1 by omega]
theorem starF_none {f : Nat → Bool} {n : Nat} (hb : ∀ i, i < n → f i = false) : ∀ k, k < n → starF f k = false
  | 0, h => hb 0 h
  | k + 1, h => by unfold starF; rw [hb (k + 1) h, starF_none hb k (by omega)]; rfl
theorem starF_congr {f g : Nat → Bool} {n : Nat} (h : ∀ i, i < n → f i = g i) : ∀ k, k < n → starF f k = starF g k
  | 0, hk => h 0 hk
  | k + 1, hk => by unfold starF; rw [h (k + 1) hk, starF_congr h k (by omega)]
theorem headIs_take1 {c : UInt8} {l : List UInt8} {m : Nat} (h : 1 ≤ m) : headIs c (l.take m) = headIs c l := by
  cases l with
  | nil => simp
  | cons d r =>
    cases m with
    | zero => omega
    | succ m => rfl
theorem pieceL_take {l : List UInt8} {p : Pc} {n : Nat} (h : pieceL l = some (p, n)) : pieceL (l.take n) = some (p, n) := by
  cases l with
  | nil => cases h
  | cons c r =>
    by_cases h1 : c = 42
    · subst h1; cases h; rfl
    by_cases h2 : c = 63
    · subst h2; cases h; rfl
    by_cases h3 : c = 91
    · subst h3
      rw [pieceL_set] at h
      obtain ⟨m, hm, he⟩ := Option.map_eq_some_iff.1 h
      simp only [Prod.mk.injEq] at he
      obtain ⟨rfl, rfl⟩ := he
      have h4 := setN_le r
      have hN : setN (r.take (m + setN r + 1)) = setN r := by unfold setN; rw [headIs_take1 (by omega)]
      have hH : headIs 33 (r.take (m + setN r + 1)) = headIs 33 r := headIs_take1 (by omega)
      have hB : setB (r.take (m + setN r + 1)) = (setB r).take (m + 1) := by
        rw [setB_eq, hN, setB_eq, List.drop_take]; congr 1; omega
      rw [List.take_succ_cons, pieceL_set, hN, hH, hB, endL_take _ _ _ _ (Nat.le_refl _) hm]
      simp only [Option.map_some]
      rw [List.take_take, Nat.min_eq_left (by omega)]
    by_cases h4 : c = 92
    · subst h4
      cases r with
      | nil => cases h
      | cons d t => cases h; rfl
    · rw [pieceL_sign r h1 h2 h3 h4] at h
      cases h
      exact pieceL_sign _ h1 h2 h3 h4
end Go.Proofs.YthlmkeibaaobeaaDoor
