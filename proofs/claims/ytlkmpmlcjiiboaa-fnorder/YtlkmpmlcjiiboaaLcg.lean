/- The cursor's mixed numbers go through all of the 2^64 there are: so a number whose draw adds a byte comes, whatever came ahead. -/
import Derived.Test.YtlkmpmlcjiiboaaCur
namespace Go.Proofs.Ytlkmpmlcjiiboaa
open Go.RowKit

def lcg (x : Int) : Int := 6364136223846793005 * x + 1442695040888963407
def lcgN : Nat → Int → Int
  | 0, x => x
  | T + 1, x => lcgN T (lcg x)
theorem lcgN_add (s t : Nat) (x : Int) : lcgN (s + t) x = lcgN t (lcgN s x) := by
  induction s generalizing x with
  | zero => rw [Nat.zero_add]; rfl
  | succ s ih => rw [Nat.succ_add]; exact ih (lcg x)

/-- 2^n steps at once. -/
theorem lcg_pow (n : Nat) : ∃ a b : Int, ∀ x, lcgN (2 ^ n) x = (1 + 4 * 2 ^ n * a) * x + 2 ^ n * (2 * b + 1) := by
  induction n with
  | zero => exact ⟨1591034055961698251, 721347520444481703, fun x => by show lcg x = _; unfold lcg; omega⟩
  | succ n ih =>
    obtain ⟨a, b, h⟩ := ih
    refine ⟨a + 2 * 2 ^ n * a * a, b + 2 ^ n * a * (2 * b + 1), fun x => ?_⟩
    rw [Nat.pow_succ, Nat.mul_two, lcgN_add, h, h, Int.pow_succ]
    generalize (2 : Int) ^ n = p
    simp only [Int.add_mul, Int.mul_add, Int.mul_one, Int.one_mul, Int.mul_assoc, Int.mul_comm, Int.mul_left_comm]
    simp only [← Int.mul_assoc]
    omega

theorem lcg_reach (t x : Int) (n : Nat) : ∃ T, T < 2 ^ n ∧ ∃ q : Int, lcgN T x = t + 2 ^ n * q := by
  induction n with
  | zero => exact ⟨0, by decide, x - t, by show x = _; simp; omega⟩
  | succ n ih =>
    obtain ⟨T, hT, q, hq⟩ := ih
    rcases Int.emod_two_eq q with h | h
    · exact ⟨T, by rw [Nat.pow_succ]; omega, q / 2, by rw [hq, Int.pow_succ, Int.mul_assoc, show 2 * (q / 2) = q by omega]⟩
    · obtain ⟨a, b, hp⟩ := lcg_pow n
      obtain ⟨r, rfl⟩ : ∃ r, q = 2 * r + 1 := ⟨q / 2, by omega⟩
      refine ⟨T + 2 ^ n, by rw [Nat.pow_succ]; omega, r + 1 + b + 2 * a * (t + 2 ^ n * (2 * r + 1)), ?_⟩
      rw [lcgN_add, hq, hp, Int.pow_succ]
      generalize (2 : Int) ^ n = p
      simp only [Int.add_mul, Int.mul_add, Int.mul_one, Int.one_mul, Int.mul_assoc, Int.mul_comm, Int.mul_left_comm]
      simp only [← Int.mul_assoc]
      omega

/-- Same but for a multiple of 2^64. -/
def Same (x y : Int) : Prop := (x - y) % 18446744073709551616 = 0
theorem Same.refl (x : Int) : Same x x := by unfold Same; omega
theorem Same.trans {x y z : Int} (h : Same x y) (k : Same y z) : Same x z := by unfold Same at *; omega
theorem Same.symm {x y : Int} (h : Same x y) : Same y x := by unfold Same at *; omega
theorem Same.lcg {x y : Int} (h : Same x y) : Same (lcg x) (lcg y) := by
  unfold Same Proofs.Ytlkmpmlcjiiboaa.lcg at *
  omega
theorem Same.lcgN {x y : Int} (T : Nat) (h : Same x y) : Same (lcgN T x) (lcgN T y) := by
  induction T generalizing x y with
  | zero => exact h
  | succ T ih => exact ih h.lcg
theorem byteH_lcg (h : Int) : Same (byteH h) (lcg h) := by
  unfold Same byteH wrap64 lcg; omega
theorem byteH_same {x y : Int} (h : Same x y) : byteH x = byteH y := by
  have h1 := byteH_lcg x
  have h2 := byteH_lcg y
  have h3 := (h1.trans h.lcg).trans h2.symm
  unfold Same at h3
  have b1 : -9223372036854775808 ≤ byteH x ∧ byteH x ≤ 9223372036854775807 := by unfold byteH wrap64; omega
  have b2 : -9223372036854775808 ≤ byteH y ∧ byteH y ≤ 9223372036854775807 := by unfold byteH wrap64; omega
  omega

def Hits (h : Int) (T : Nat) : Prop := Same (lcgN T h) 8
def Win (h : Int) : Prop := Same h 8 ∨ Same h (lcg 8) ∨ Same h (lcg (lcg 8))
theorem hits_some (h : Int) : ∃ T, T < 18446744073709551616 ∧ Hits h T := by
  obtain ⟨T, hT, q, hq⟩ := lcg_reach 8 h 64
  refine ⟨T, by omega, ?_⟩
  unfold Hits Same
  rw [hq]
  omega
theorem least_of {P : Nat → Prop} : ∀ T, P T → ∃ t, P t ∧ t ≤ T ∧ ∀ s, P s → t ≤ s := by
  intro T
  induction T using Nat.strongRecOn with
  | _ T ih =>
    intro hT
    by_cases h : ∃ s, P s ∧ s < T
    · obtain ⟨s, hs, hlt⟩ := h
      obtain ⟨t, ht, hle, hm⟩ := ih s hlt hs
      exact ⟨t, ht, by omega, hm⟩
    · exact ⟨T, hT, Nat.le_refl _, fun s hs => by
        rcases Nat.lt_or_ge s T with h2 | h2
        · exact absurd ⟨s, hs, h2⟩ h
        · exact h2⟩
theorem hits_least (h : Int) : ∃ t, Hits h t ∧ t < 18446744073709551616 ∧ ∀ s, Hits h s → t ≤ s := by
  obtain ⟨T, hT, hh⟩ := hits_some h
  obtain ⟨t, ht, hle, hm⟩ := least_of T hh
  exact ⟨t, ht, by omega, hm⟩
open Classical in
/-- How far the next number of the window lies. -/
noncomputable def rank (h : Int) : Nat := if Win h then 0 else Classical.choose (hits_least h) + 1
theorem rank_win {h : Int} (hw : Win h) : rank h = 0 := by unfold rank; rw [if_pos hw]
theorem rank_le {h : Int} {T : Nat} (hh : Hits h T) : rank h ≤ T + 1 := by
  unfold rank
  split
  · omega
  · have := (Classical.choose_spec (hits_least h)).2.2 T hh; omega
theorem rank_bd (h : Int) : rank h ≤ 18446744073709551616 := by
  unfold rank
  split
  · omega
  · have := (Classical.choose_spec (hits_least h)).2.1; omega
theorem hits_step {h : Int} {T : Nat} (hh : Hits h (T + 1)) : Hits (byteH h) T := ((byteH_lcg h).lcgN T).trans hh
theorem win_0 {h : Int} (hh : Hits h 0) : Win h := Or.inl hh
theorem win_1 {h : Int} (hh : Hits h 0) : Win (byteH h) := Or.inr (Or.inl ((byteH_lcg h).trans (Same.lcg (show Same h 8 from hh))))
theorem win_2 {h : Int} (hh : Hits h 0) : Win (byteH (byteH h)) :=
  Or.inr (Or.inr ((byteH_lcg _).trans (Same.lcg ((byteH_lcg h).trans (Same.lcg (show Same h 8 from hh))))))
theorem rank_steps (h : Int) (hw : ¬ Win h) : rank (byteH h) < rank h ∧ rank (byteH (byteH h)) < rank h ∧ rank (byteH (byteH (byteH h))) < rank h := by
  have e : rank h = Classical.choose (hits_least h) + 1 := by unfold rank; rw [if_neg hw]
  have hs := (Classical.choose_spec (hits_least h)).1
  rw [e]
  generalize Classical.choose (hits_least h) = T at hs ⊢
  match T, hs with
  | 0, hs => exact absurd (win_0 hs) hw
  | 1, hs =>
    have h1 := hits_step hs
    rw [rank_win (win_0 h1), rank_win (win_1 h1), rank_win (win_2 h1)]; omega
  | 2, hs =>
    have h1 := hits_step hs
    have h2 := hits_step h1
    have := rank_le h1
    rw [rank_win (win_0 h2), rank_win (win_1 h2)]; omega
  | T + 3, hs =>
    have h1 := hits_step hs
    have h2 := hits_step h1
    have h3 := hits_step h2
    have := rank_le h1
    have := rank_le h2
    have := rank_le h3
    omega
theorem win_good {h : Int} (hw : Win h) : mixH (byteH h) % 5 = 0 ∨ mixH (byteH h) % 5 = 3 ∨ mixH (byteH h) % 5 = 4 := by
  rcases hw with hw | hw | hw
  · rw [byteH_same hw]; left; kernel_rfl
  · rw [byteH_same hw]; right; right; kernel_rfl
  · rw [byteH_same hw]; right; right; kernel_rfl
end Go.Proofs.Ytlkmpmlcjiiboaa
