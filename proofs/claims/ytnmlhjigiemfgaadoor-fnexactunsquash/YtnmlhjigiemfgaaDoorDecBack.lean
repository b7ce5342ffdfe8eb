/- Numbers come back from their digits: plain facts. -/
import Derived.Test.YtnmlhjigiemfgaaDoorDecText
namespace Go.Proofs.YtnmlhjigiemfgaaDoor
open Go.RowKit

theorem digB_nat' (d : Nat) (h : d < 10) : (digB d).toNat = 48 + d := by
  unfold digB
  rw [UInt8.toNat_ofNat']; omega
theorem isDig_digB' (d : Nat) (h : d < 10) : isDig (digB d) = true := (isDig_iff _).2 (by rw [digB_nat' d h]; omega)
theorem digits_step (u : Nat) (h : ¬ u < 10) : Lib.decDigits u = Lib.decDigits (u / 10) ++ [digB (u % 10)] := by rw [Lib.decDigits, dif_neg h]; rfl
theorem digits_one (u : Nat) (h : u < 10) : Lib.decDigits u = [digB u] := by rw [Lib.decDigits, dif_pos h]; rfl
theorem digits_back (u : Nat) : allDig (Lib.decDigits u) = true ∧ dnum (Lib.decDigits u) = u := by
  induction u using Nat.strongRecOn with
  | _ u ih =>
    by_cases h : u < 10
    · rw [digits_one u h]
      refine ⟨?_, ?_⟩
      · show ([digB u].all isDig) = true
        rw [List.all_cons, isDig_digB' u h]; rfl
      · show 10 * 0 + ((digB u).toNat - 48) = u
        rw [digB_nat' u h]; omega
    · obtain ⟨h1, h2⟩ := ih (u / 10) (by omega)
      rw [digits_step u h, allDig_snoc, dnum_snoc, h1, h2, isDig_digB' _ (by omega), digB_nat' _ (by omega)]
      exact ⟨rfl, by omega⟩
theorem digits_short : ∀ (k u : Nat), u < 10 ^ (k + 1) → (Lib.decDigits u).length ≤ k + 1
  | 0, u, h => by rw [digits_one u (by simpa using h)]; simp
  | k + 1, u, h => by
    by_cases h10 : u < 10
    · rw [digits_one u h10]; simp
    · rw [digits_step u h10]
      have := digits_short k (u / 10) (by rw [Nat.pow_succ] at h; omega)
      simp; omega
theorem digits_pos (u : Nat) : 1 ≤ (Lib.decDigits u).length := by rw [Lib.decDigits_length]; exact Lib.nDigits_pos u
/-- What is known of a numeral of a number below 10^9. -/
theorem itoa_facts (n : Int) (h0 : 0 ≤ n) (h1 : n ≤ 999999999) :
    allDig (Lib.itoa n) = true ∧ (dnum (Lib.itoa n) : Int) = n ∧ 1 ≤ (Lib.itoa n).length ∧ (Lib.itoa n).length ≤ 9 := by
  obtain ⟨u, rfl⟩ : ∃ u : Nat, n = u := ⟨n.toNat, by omega⟩
  rw [Lib.itoa_nonneg]
  obtain ⟨h2, h3⟩ := digits_back u
  exact ⟨h2, by rw [h3], digits_pos u, digits_short 8 u (by omega)⟩
end Go.Proofs.YtnmlhjigiemfgaaDoor
