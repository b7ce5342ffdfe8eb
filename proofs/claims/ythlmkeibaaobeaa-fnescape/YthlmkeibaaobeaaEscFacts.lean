/- What an escaped name stands for; patterns with a star ahead or behind. -/
import Derived.Test.YthlmkeibaaobeaaSpecMatch3
import Derived.Test.YthlmkeibaaobeaaEscape
import Derived.Test.YthlmkeibaaobeaaPlainFns
namespace Go.Proofs.Ythlmkeibaaobeaa
open Go.RowKit

theorem endL_more (t : List UInt8) : ∀ (n : Nat) (l : List UInt8) (f : Bool) (m : Nat), l.length ≤ n → endL f l = some m → endL f (l ++ t) = some m
  | n, [], f, m, _, h => by cases h
  | 0, c :: r, f, m, hn, h => by simp at hn
  | n + 1, c :: r, f, m, hn, h => by
    by_cases h1 : c = 93 ∧ f = false
    · rw [endL_cons, if_pos h1] at h
      rw [List.cons_append, endL_cons, if_pos h1, h]
    · by_cases h2 : c = 92
      · subst h2
        cases r with
        | nil => rw [endL_esc] at h; cases h
        | cons d q =>
          rw [endL_esc] at h
          cases he : endL false q with
          | none => simp [he] at h
          | some k =>
            simp [he] at h
            subst h
            rw [List.cons_append, List.cons_append, endL_esc]
            simp [endL_more t n q false k (by simp at hn; omega) he]
      · rw [endL_go f r h1 h2] at h
        cases he : endL false r with
        | none => simp [he] at h
        | some k =>
          simp [he] at h
          subst h
          rw [List.cons_append, endL_go f _ h1 h2, endL_more t n r false k (by simp at hn; omega) he]
          rfl
theorem pieceL_more {l : List UInt8} {p : Pc} {n : Nat} (t : List UInt8) (h : pieceL l = some (p, n)) : pieceL (l ++ t) = some (p, n) := by
  cases l with
  | nil => cases h
  | cons c r =>
    by_cases h1 : c = 42
    · subst h1; cases h; rfl
    by_cases h2 : c = 63
    · subst h2; cases h; rfl
    by_cases h3 : c = 91
    · subst h3
      rw [pieceL_set] at h
      obtain ⟨m, hm, he⟩ := Option.map_eq_some_iff.1 h
      simp only [Prod.mk.injEq] at he
      obtain ⟨rfl, rfl⟩ := he
      have hr : 1 ≤ r.length := by
        cases r with
        | nil => cases hm
        | cons => simp
      have hH : headIs 33 (r ++ t) = headIs 33 r := by
        cases r with
        | nil => simp at hr
        | cons => rfl
      have hN : setN (r ++ t) = setN r := by unfold setN; rw [hH]
      have hB : setB (r ++ t) = setB r ++ t := by
        rw [setB_eq, hN, setB_eq, List.drop_append_of_le_length (setN_le r)]
      have hlt := (endL_facts _ _ _ _ (Nat.le_refl _) hm).1
      rw [List.cons_append, pieceL_set, hN, hH, hB, endL_more t _ _ _ _ (Nat.le_refl _) hm]
      simp only [Option.map_some]
      rw [List.take_append_of_le_length (by omega)]
    by_cases h4 : c = 92
    · subst h4
      cases r with
      | nil => cases h
      | cons d t => cases h; rfl
    · rw [pieceL_sign r h1 h2 h3 h4] at h
      cases h
      exact pieceL_sign _ h1 h2 h3 h4
theorem piecesL_more (t : List UInt8) : ∀ (n : Nat) (l : List UInt8) (ps : List Pc), l.length ≤ n → piecesL l = some ps → piecesL (l ++ t) = (piecesL t).map (ps ++ ·)
  | n, [], ps, _, h => by rw [piecesL_nil] at h; cases h; simp
  | 0, c :: r, ps, hn, h => by simp at hn
  | n + 1, c :: r, ps, hn, h => by
    cases hp : pieceL (c :: r) with
    | none => rw [piecesL_none (by simp) hp] at h; cases h
    | some x =>
      obtain ⟨p, k⟩ := x
      have hpos := pieceL_pos hp
      rw [piecesL_some hp] at h
      obtain ⟨qs, hq, rfl⟩ := Option.map_eq_some_iff.1 h
      rw [piecesL_some (pieceL_more t hp), List.drop_append_of_le_length hpos.2, piecesL_more t n _ qs (by simp at hn ⊢; omega) hq]
      cases piecesL t <;> rfl
theorem piecesL_behind {l : List UInt8} {ps : List Pc} (h : piecesL l = some ps) : piecesL (l ++ [42]) = some (ps ++ [.star]) := by
  rw [piecesL_more [42] _ _ _ (Nat.le_refl _) h, piecesL_some (pieceL_star [])]; rfl
theorem piecesL_ahead {l : List UInt8} {ps : List Pc} (h : piecesL l = some ps) : piecesL (42 :: l) = some (.star :: ps) := by
  rw [piecesL_some (pieceL_star l)]; simp [h]

theorem starF_up (f : Nat → Bool) : ∀ k, f k = true → starF f k = true
  | 0, h => h
  | k + 1, h => by unfold starF; rw [h]; rfl
theorem starF_mono {f g : Nat → Bool} (h : ∀ k, f k = true → g k = true) : ∀ k, starF f k = true → starF g k = true
  | 0, hk => h 0 hk
  | k + 1, hk => by
    unfold starF at hk ⊢
    rw [Bool.or_eq_true] at hk ⊢
    exact hk.imp (h _) (starF_mono h k)
theorem stepF_mono {m : List UInt8} {p : Pc} {f g : Nat → Bool} (h : ∀ k, f k = true → g k = true) (k : Nat) (hk : stepF m p f k = true) : stepF m p g k = true := by
  unfold stepF at hk ⊢
  split
  · rename_i hs; rw [if_pos hs] at hk; exact starF_mono h k hk
  · rename_i hs
    rw [if_neg hs] at hk
    cases k with
    | zero => exact hk
    | succ k =>
      simp only [Bool.and_eq_true] at hk ⊢
      exact ⟨h _ hk.1, hk.2⟩
theorem runF_mono {m : List UInt8} : ∀ (ps : List Pc) {f g : Nat → Bool}, (∀ k, f k = true → g k = true) → ∀ k, runF m ps f k = true → runF m ps g k = true
  | [], f, g, h, k, hk => h k hk
  | p :: ps, f, g, h, k, hk => runF_mono ps (f := stepF m p f) (g := stepF m p g) (fun k => stepF_mono h k) k hk
theorem matB_parts {l n : List UInt8} : matB l n = true ↔ patB l = true ∧ nameB n = true ∧ matchV l n = true := by
  unfold matB; simp [Bool.and_eq_true, and_assoc]
theorem patB_parts {l : List UInt8} : patB l = true ↔ l.length ≤ 60 ∧ l.all okP = true ∧ ∃ ps, piecesL l = some ps := by
  unfold patB; simp only [Bool.and_eq_true, decide_eq_true_eq, Option.isSome_iff_exists, and_assoc]
theorem matB_behind {l n : List UInt8} (h : matB l n = true) (hl : l.length < 60) : matB (l ++ [42]) n = true := by
  obtain ⟨h1, h2, h3⟩ := matB_parts.1 h
  obtain ⟨g1, g2, ps, g3⟩ := patB_parts.1 h1
  rw [matchV_some g3] at h3
  refine matB_parts.2 ⟨patB_parts.2 ⟨by simp; omega, by rw [List.all_append, g2]; rfl, _, piecesL_behind g3⟩, h2, ?_⟩
  rw [matchV_some (piecesL_behind g3)]
  unfold runF at h3 ⊢
  rw [List.foldl_append]
  exact starF_up _ _ h3
theorem matB_ahead {l n : List UInt8} (h : matB l n = true) (hl : l.length < 60) : matB (42 :: l) n = true := by
  obtain ⟨h1, h2, h3⟩ := matB_parts.1 h
  obtain ⟨g1, g2, ps, g3⟩ := patB_parts.1 h1
  rw [matchV_some g3] at h3
  refine matB_parts.2 ⟨patB_parts.2 ⟨by simp; omega, by rw [List.all_cons, g2]; rfl, _, piecesL_ahead g3⟩, h2, ?_⟩
  rw [matchV_some (piecesL_ahead g3)]
  exact runF_mono ps (starF_up _) _ h3

theorem piecesL_sign1 (c : UInt8) (t : List UInt8) : piecesL (esc1 c ++ t) = (piecesL t).map (.sign c :: ·) := by
  cases h : escB c with
  | true => rw [esc1_t h]; exact piecesL_some (pieceL_esc c t)
  | false =>
    rw [esc1_f h]
    have hn : ¬ (c.toNat = 42 ∨ c.toNat = 63 ∨ c.toNat = 91 ∨ c.toNat = 92 ∨ c.toNat = 93) := fun e => by rw [(escB_iff c).2 e] at h; cases h
    refine piecesL_some (pieceL_sign t ?_ ?_ ?_ ?_) <;> (rintro rfl; exact hn (by decide))
theorem piecesL_esc (t : List UInt8) : ∀ n : List UInt8, piecesL (escV n ++ t) = (piecesL t).map (n.map Pc.sign ++ ·)
  | [] => by simp [escV]
  | c :: r => by
    rw [escV_cons, List.append_assoc, piecesL_sign1, piecesL_esc t r]
    cases piecesL t <;> rfl
/-- Signs alone lead from a place on, as far as the name goes along. -/
theorem runF_signs (m : List UInt8) : ∀ (n : List UInt8) (f : Nat → Bool) (k : Nat), runF m (n.map Pc.sign) f k = true ↔ ∃ j, k = j + n.length ∧ f j = true ∧ ∀ (i : Nat) (c : UInt8), n[i]? = some c → m[j + i]? = some c
  | [], f, k => by
    constructor
    · intro h; exact ⟨k, rfl, h, fun i c h => by simp at h⟩
    · rintro ⟨j, rfl, h, -⟩; exact h
  | c :: r, f, k => by
    have ih := runF_signs m r (stepF m (.sign c) f) k
    rw [List.map_cons, show runF m (Pc.sign c :: r.map Pc.sign) f k = runF m (r.map Pc.sign) (stepF m (.sign c) f) k from rfl, ih]
    constructor
    · rintro ⟨j, rfl, h, hr⟩
      cases j with
      | zero => rw [stepF_zero _ rfl] at h; cases h
      | succ j =>
        rw [stepF_succ _ _ rfl, Bool.and_eq_true] at h
        obtain ⟨h1, h2⟩ := h
        have hm : m[j]? = some c := by
          unfold hasAt at h2
          cases hg : m[j]? with
          | none => rw [hg] at h2; cases h2
          | some d => rw [hg] at h2; simp [Pc.has] at h2; rw [h2]
        refine ⟨j, by simp; omega, h1, fun i d hd => ?_⟩
        cases i with
        | zero => simp at hd; subst hd; exact hm
        | succ i => rw [show j + (i + 1) = j + 1 + i by omega]; exact hr i d (by simpa using hd)
    · rintro ⟨j, rfl, h, hr⟩
      refine ⟨j + 1, by simp; omega, ?_, fun i d hd => ?_⟩
      · rw [stepF_succ _ _ rfl, h, hasAt_some (by simpa using hr 0 c rfl)]; simp [Pc.has]
      · rw [show j + 1 + i = j + (i + 1) by omega]; exact hr (i + 1) d (by simpa using hd)
theorem matchV_esc (n t m : List UInt8) (ht : piecesL t = some (t.map Pc.sign)) : matchV (escV n ++ t) m = decide (n ++ t = m) := by
  rw [matchV_some (ps := (n ++ t).map Pc.sign) (by rw [piecesL_esc, ht]; simp)]
  rw [Bool.eq_iff_iff, runF_signs, decide_eq_true_eq]
  constructor
  · rintro ⟨j, h1, h2, h3⟩
    have hj : j = 0 := by simpa using h2
    subst hj
    refine List.ext_getElem? fun i => ?_
    cases hi : (n ++ t)[i]? with
    | some c => have := h3 i c hi; rw [Nat.zero_add] at this; exact this.symm
    | none =>
      have hi2 := List.getElem?_eq_none_iff.1 hi
      exact (List.getElem?_eq_none_iff.2 (by omega)).symm
  · rintro rfl
    exact ⟨0, by omega, rfl, fun i c h => by rw [Nat.zero_add]; exact h⟩
theorem okP_esc1 (c : UInt8) (h : okP c = true) : (esc1 c).all okP = true := by
  cases he : escB c with
  | true => rw [esc1_t he]; simp [h]; decide
  | false => rw [esc1_f he]; simp [h]
theorem okP_esc : ∀ n : List UInt8, n.all okP = true → (escV n).all okP = true
  | [], _ => rfl
  | c :: r, h => by
    rw [List.all_cons, Bool.and_eq_true] at h
    rw [escV_cons, List.all_append, okP_esc1 c h.1, okP_esc r h.2]; rfl
theorem okB_okP (c : UInt8) (h : okB c = true) : okP c = true := by
  unfold okB at h
  unfold okP
  revert h
  cases c == 47 <;> cases c == 10 <;> simp
theorem nameB_okP {n : List UInt8} (h : nameB n = true) : n.all okP = true := by
  unfold nameB at h
  rw [Bool.and_eq_true] at h
  rw [List.all_eq_true] at h ⊢
  exact fun x hx => okB_okP x (h.2 x hx)
theorem patB_esc {n t : List UInt8} (h : nameB n = true) (hl : (escV n ++ t).length ≤ 60) (hk : t.all okP = true) (ht : piecesL t = some (t.map Pc.sign)) : patB (escV n ++ t) = true :=
  patB_parts.2 ⟨hl, by rw [List.all_append, okP_esc n (nameB_okP h), hk]; rfl, _, by rw [piecesL_esc, ht]; rfl⟩
theorem esc_self {n : List UInt8} (h : nameB n = true) (hl : (escV n).length ≤ 60) : matB (escV n) n = true := by
  have h1 := patB_esc (t := []) h (by simpa using hl) rfl rfl
  have h2 := matchV_esc n [] n rfl
  rw [List.append_nil] at h1 h2
  exact matB_parts.2 ⟨h1, h, by rw [h2]; simp⟩
theorem esc_more {n : List UInt8} : matB (escV n) (n ++ [120]) = false := by
  have h2 := matchV_esc n [] (n ++ [120]) rfl
  rw [List.append_nil] at h2
  unfold matB
  rw [h2]; simp
theorem esc_less {n : List UInt8} : matB (escV n ++ [120]) n = false := by
  have h2 := matchV_esc n [120] n rfl
  unfold matB
  rw [h2]; simp
theorem star_all {n : List UInt8} (h : nameB n = true) : matB [42] n = true := by
  refine matB_parts.2 ⟨rfl, h, ?_⟩
  rw [matchV_some (ps := [.star]) rfl]
  show starF (fun k => k == 0) n.length = true
  rw [starF_first (j := 0) rfl (fun i hi => by omega)]; simp
theorem escV_ge : ∀ n : List UInt8, n.length ≤ (escV n).length
  | [] => Nat.le_refl _
  | c :: r => by
    have := escV_ge r
    rw [escV_cons, List.length_append, List.length_cons]
    cases he : escB c with
    | true => rw [esc1_t he]; simp; omega
    | false => rw [esc1_f he]; simp; omega
theorem escV_le : ∀ n : List UInt8, (escV n).length ≤ 2 * n.length
  | [] => Nat.le_refl _
  | c :: r => by
    have := escV_le r
    rw [escV_cons, List.length_append, List.length_cons]
    cases he : escB c with
    | true => rw [esc1_t he]; simp; omega
    | false => rw [esc1_f he]; simp; omega
theorem escV_same : ∀ n : List UInt8, (escV n).length ≤ n.length → n.all noSign = true
  | [], _ => rfl
  | c :: r, h => by
    have hg := escV_ge r
    rw [escV_cons, List.length_append, List.length_cons] at h
    cases he : escB c with
    | true => rw [esc1_t he] at h; simp at h; omega
    | false =>
      rw [esc1_f he] at h
      have hn : ¬ (c.toNat = 42 ∨ c.toNat = 63 ∨ c.toNat = 91 ∨ c.toNat = 92 ∨ c.toNat = 93) := fun e => by rw [(escB_iff c).2 e] at he; cases he
      rw [List.all_cons, (noSign_iff c).2 (by omega), escV_same r (by simp at h; omega)]; rfl
theorem esc_plain {n : List UInt8} (h : nameB n = true) (hl : (escV n).length ≤ 60) (he : escV n = n) : plainV n = true := by
  have h1 := (matB_parts.1 (esc_self h hl)).1
  rw [he] at h1
  unfold plainV
  rw [h1, escV_same n (by rw [he]; exact Nat.le_refl _)]; rfl
end Go.Proofs.Ythlmkeibaaobeaa
