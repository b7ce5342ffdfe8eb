/- Patterns with more behind them, and with a star ahead or behind. -/
import Derived.Test.YthlmkeibaaobeaaDoorSpecMatch3
namespace Go.Proofs.YthlmkeibaaobeaaDoor
open Go.RowKit

theorem endL_more (t : List UInt8) : ∀ (n : Nat) (l : List UInt8) (f : Bool) (m : Nat), l.length ≤ n → endL f l = some m → endL f (l ++ t) = some m
  | n, [], f, m, _, h => by cases h
  | 0, c :: r, f, m, hn, h => by simp at hn
  | n + 1, c :: r, f, m, hn, h => by
    by_cases h1 : c = 93 ∧ f = false
    · rw [endL_cons, if_pos h1] at h
      rw [List.cons_append, endL_cons, if_pos h1, h]
    · by_cases h2 : c = 92
      · subst h2
        cases r with
        | nil => rw [endL_esc] at h; cases h
        | cons d q =>
          rw [endL_esc] at h
          cases he : endL false q with
          | none => simp [he] at h
          | some k =>
            simp [he] at h
            subst h
            rw [List.cons_append, List.cons_append, endL_esc]
            simp [endL_more t n q false k (by simp at hn; omega) he]
      · rw [endL_go f r h1 h2] at h
        cases he : endL false r with
        | none => simp [he] at h
        | some k =>
          simp [he] at h
          subst h
          rw [List.cons_append, endL_go f _ h1 h2, endL_more t n r false k (by simp at hn; omega) he]
          rfl
theorem pieceL_more {l : List UInt8} {p : Pc} {n : Nat} (t : List UInt8) (h : pieceL l = some (p, n)) : pieceL (l ++ t) = some (p, n) := by
  cases l with
  | nil => cases h
  | cons c r =>
    by_cases h1 : c = 42
    · subst h1; cases h; rfl
    by_cases h2 : c = 63
    · subst h2; cases h; rfl
    by_cases h3 : c = 91
    · subst h3
      rw [pieceL_set] at h
      obtain ⟨m, hm, he⟩ := Option.map_eq_some_iff.1 h
      simp only [Prod.mk.injEq] at he
      obtain ⟨rfl, rfl⟩ := he
      have hr : 1 ≤ r.length := by
        cases r with
        | nil => cases hm
        | cons => simp
      have hH : headIs 33 (r ++ t) = headIs 33 r := by
        cases r with
        | nil => simp at hr
        | cons => rfl
      have hN : setN (r ++ t) = setN r := by unfold setN; rw [hH]
      have hB : setB (r ++ t) = setB r ++ t := by
        rw [setB_eq, hN, setB_eq, List.drop_append_of_le_length (setN_le r)]
      have hlt := (endL_facts _ _ _ _ (Nat.le_refl _) hm).1
      rw [List.cons_append, pieceL_set, hN, hH, hB, endL_more t _ _ _ _ (Nat.le_refl _) hm]
      simp only [Option.map_some]
      rw [List.take_append_of_le_length (by omega)]
    by_cases h4 : c = 92
    · subst h4
      cases r with
      | nil => cases h
      | cons d t => cases h; rfl
    · rw [pieceL_sign r h1 h2 h3 h4] at h
      cases h
      exact pieceL_sign _ h1 h2 h3 h4
theorem piecesL_more (t : List UInt8) : ∀ (n : Nat) (l : List UInt8) (ps : List Pc), l.length ≤ n → piecesL l = some ps → piecesL (l ++ t) = (piecesL t).map (ps ++ ·)
  | n, [], ps, _, h => by rw [piecesL_nil] at h; cases h; simp
  | 0, c :: r, ps, hn, h => by simp at hn
  | n + 1, c :: r, ps, hn, h => by
    cases hp : pieceL (c :: r) with
    | none => rw [piecesL_none (by simp) hp] at h; cases h
    | some x =>
      obtain ⟨p, k⟩ := x
      have hpos := pieceL_pos hp
      rw [piecesL_some hp] at h
      obtain ⟨qs, hq, rfl⟩ := Option.map_eq_some_iff.1 h
      rw [piecesL_some (pieceL_more t hp), List.drop_append_of_le_length hpos.2, piecesL_more t n _ qs (by simp at hn ⊢; omega) hq]
      cases piecesL t <;> rfl
theorem piecesL_behind {l : List UInt8} {ps : List Pc} (h : piecesL l = some ps) : piecesL (l ++ [42]) = some (ps ++ [.star]) := by
  rw [piecesL_more [42] _ _ _ (Nat.le_refl _) h, piecesL_some (pieceL_star [])]; rfl
theorem piecesL_ahead {l : List UInt8} {ps : List Pc} (h : piecesL l = some ps) : piecesL (42 :: l) = some (.star :: ps) := by
  rw [piecesL_some (pieceL_star l)]; simp [h]

theorem starF_up (f : Nat → Bool) : ∀ k, f k = true → starF f k = true
  | 0, h => h
  | k + 1, h => by unfold starF; rw [h]; rfl
theorem starF_mono {f g : Nat → Bool} (h : ∀ k, f k = true → g k = true) : ∀ k, starF f k = true → starF g k = true
  | 0, hk => h 0 hk
  | k + 1, hk => by
    unfold starF at hk ⊢
    rw [Bool.or_eq_true] at hk ⊢
    exact hk.imp (h _) (starF_mono h k)
theorem stepF_mono {m : List UInt8} {p : Pc} {f g : Nat → Bool} (h : ∀ k, f k = true → g k = true) (k : Nat) (hk : stepF m p f k = true) : stepF m p g k = true := by
  unfold stepF at hk ⊢
  split
  · rename_i hs; rw [if_pos hs] at hk; exact starF_mono h k hk
  · rename_i hs
    rw [if_neg hs] at hk
    cases k with
    | zero => exact hk
    | succ k =>
      simp only [Bool.and_eq_true] at hk ⊢
      exact ⟨h _ hk.1, hk.2⟩
theorem runF_mono {m : List UInt8} : ∀ (ps : List Pc) {f g : Nat → Bool}, (∀ k, f k = true → g k = true) → ∀ k, runF m ps f k = true → runF m ps g k = true
  | [], f, g, h, k, hk => h k hk
  | p :: ps, f, g, h, k, hk => runF_mono ps (f := stepF m p f) (g := stepF m p g) (fun k => stepF_mono h k) k hk
theorem matB_parts {l n : List UInt8} : matB l n = true ↔ patB l = true ∧ nameB n = true ∧ matchV l n = true := by
  unfold matB; simp [Bool.and_eq_true, and_assoc]
theorem patB_parts {l : List UInt8} : patB l = true ↔ l.length ≤ 60 ∧ l.all okP = true ∧ ∃ ps, piecesL l = some ps := by
  unfold patB; simp only [Bool.and_eq_true, decide_eq_true_eq, Option.isSome_iff_exists, and_assoc]
theorem matB_behind {l n : List UInt8} (h : matB l n = true) (hl : l.length < 60) : matB (l ++ [42]) n = true := by
  obtain ⟨h1, h2, h3⟩ := matB_parts.1 h
  obtain ⟨g1, g2, ps, g3⟩ := patB_parts.1 h1
  rw [matchV_some g3] at h3
  refine matB_parts.2 ⟨patB_parts.2 ⟨by simp; omega, by rw [List.all_append, g2]; rfl, _, piecesL_behind g3⟩, h2, ?_⟩
  rw [matchV_some (piecesL_behind g3)]
  unfold runF at h3 ⊢
  rw [List.foldl_append]
  exact starF_up _ _ h3
theorem matB_ahead {l n : List UInt8} (h : matB l n = true) (hl : l.length < 60) : matB (42 :: l) n = true := by
  obtain ⟨h1, h2, h3⟩ := matB_parts.1 h
  obtain ⟨g1, g2, ps, g3⟩ := patB_parts.1 h1
  rw [matchV_some g3] at h3
  refine matB_parts.2 ⟨patB_parts.2 ⟨by simp; omega, by rw [List.all_cons, g2]; rfl, _, piecesL_ahead g3⟩, h2, ?_⟩
  rw [matchV_some (piecesL_ahead g3)]
  exact runF_mono ps (starF_up _) _ h3
end Go.Proofs.YthlmkeibaaobeaaDoor
