/- Contracts of spec.OctText and impl.OctText. -/
import Derived.Test.YtlkmpmlcjiiboaaDoorOct8
import Derived.Test.YtlkmpmlcjiiboaaDoorPad
namespace Go.Proofs.YtlkmpmlcjiiboaaDoor
open Go.RowKit

/-- A mode's text. -/
def octV (n : Int) : List UInt8 :=
  if n < 0 ∨ 511 < n then [] else [48, digB (n.toNat / 64), digB (n.toNat / 8 % 8), digB (n.toNat % 8)]

theorem pad_oct (u : Nat) (h : u < 512) : padL (octDigits u) 3 = [digB (u / 64), digB (u / 8 % 8), digB (u % 8)] := by
  have z : digB 0 = 48 := rfl
  by_cases h1 : u < 8
  · rw [octDigits_small u h1, show u / 64 = 0 by omega, show u / 8 % 8 = 0 by omega, show u % 8 = u by omega, z]; rfl
  · by_cases h2 : u < 64
    · rw [octDigits_big u h1, octDigits_small (u / 8) (by omega), show u / 64 = 0 by omega, show u / 8 % 8 = u / 8 by omega, z]; rfl
    · rw [octDigits_big u h1, octDigits_big (u / 8) (by omega), octDigits_small (u / 8 / 8) (by omega), show u / 8 / 8 = u / 64 by omega]; rfl

theorem implOctText (n : Int) (w : World) (hT : Tabs w) :
    Calls Tryd.prog 11 #[.int .i64 n] w fun e w' => e = .returned (.string (strOf (octV n))) ∧ Below w.heap.size w w' := by
  by_cases h1 : n < 0
  · rw [show octV n = [] by unfold octV; rw [if_pos (Or.inl h1)]]
    go_enter Tryd.func11, Tryd.ntmps11
    go_wp2
    go_ret
    exact ⟨rfl, Below.refl _ _⟩
  · by_cases h2 : 511 < n
    · rw [show octV n = [] by unfold octV; rw [if_pos (Or.inr h2)]]
      go_enter Tryd.func11, Tryd.ntmps11
      go_wp2
      go_ret
      exact ⟨rfl, Below.refl _ _⟩
    · obtain ⟨u, rfl⟩ : ∃ u : Nat, n = u := ⟨n.toNat, by omega⟩
      have hu : u < 512 := by omega
      have hp := pad_oct u hu
      have hlen : (octDigits u).length ≤ 100 := by
        by_cases g1 : u < 8
        · rw [octDigits_small u g1]; simp
        · by_cases g2 : u < 64
          · rw [octDigits_big u g1, octDigits_small (u / 8) (by omega)]; simp
          · rw [octDigits_big u g1, octDigits_big (u / 8) (by omega), octDigits_small (u / 8 / 8) (by omega)]; simp
      have hadd := run_add [48] (padL (octDigits u) 3) (by rw [hp]; simp)
      rw [show strOf [48] = (⟨#[48]⟩ : ByteArray) from rfl] at hadd
      have HP := Lib.hid hp
      clear hp
      go_enter Tryd.func11, Tryd.ntmps11
      go_wp2_with (first | (go_at_call 25; refine (format8 u _ hT hu).mono ?_; rintro e w1 ⟨rfl, hb⟩) | (go_at_call 24; refine (implPadZeros _ 3 _ hlen (by omega)).mono ?_; rintro e w2 ⟨rfl, hb2⟩))
      go_ret
      exact ⟨ret_str (by rw [HP.out]; unfold octV; rw [if_neg (by omega)]; rfl), hb.trans (hb2.mono hb.size)⟩

theorem itoa_dig (d : Nat) (h : d < 10) : Lib.itoa (d : Int) = [digB d] := by
  rw [Lib.itoa_nonneg, Lib.decDigits, dif_pos h]; rfl

theorem specOctText (n : Int) (w : World) :
    Calls Tryd.prog 15 #[.int .i64 n] w fun e w' => e = .returned (.string (strOf (octV n))) ∧ w = w' := by
  by_cases h : 0 ≤ n ∧ n ≤ 511
  · obtain ⟨u, rfl⟩ : ∃ u : Nat, n = u := ⟨n.toNat, by omega⟩
    have hin : inB (u : Int) 0 511 = true := inB_t h.1 h.2
    have HI1 := Lib.hid (show Lib.itoa ((u : Int) / 64) = [digB (u / 64)] by rw [show (u : Int) / 64 = ((u / 64 : Nat) : Int) by omega]; exact itoa_dig _ (by omega))
    have HI2 := Lib.hid (show Lib.itoa ((u : Int) / 8 % 8) = [digB (u / 8 % 8)] by rw [show (u : Int) / 8 % 8 = ((u / 8 % 8 : Nat) : Int) by omega]; exact itoa_dig _ (by omega))
    have HI3 := Lib.hid (show Lib.itoa ((u : Int) % 8) = [digB (u % 8)] by rw [show (u : Int) % 8 = ((u % 8 : Nat) : Int) by omega]; exact itoa_dig _ (by omega))
    have ha1 := run_add [48] [digB (u / 64)] (by simp)
    have ha2 := run_add [48, digB (u / 64)] [digB (u / 8 % 8)] (by simp)
    have ha3 := run_add [48, digB (u / 64), digB (u / 8 % 8)] [digB (u % 8)] (by simp)
    rw [show strOf [48] = (⟨#[48]⟩ : ByteArray) from rfl] at ha1
    simp only [List.cons_append, List.nil_append] at ha1 ha2 ha3
    have h0 : 0 ≤ (u : Int) := by omega
    have h5 : (u : Int) ≤ 511 := by omega
    clear h
    go_enter Tryd.func15, Tryd.ntmps15
    go_wp2_with (first | (go_at_call 26; refine (specIn _ _ _ _).mono ?_; rintro e w' ⟨rfl, rfl⟩) | (go_at_call 14; refine (specDecText _ _ (by omega) (by omega)).mono ?_; rintro e w' ⟨rfl, rfl⟩; first | rw [HI1.out] | rw [HI2.out] | rw [HI3.out]))
    go_ret
    exact ⟨ret_str (by unfold octV; rw [if_neg (by omega)]; rfl), rfl⟩
  · rw [show octV n = [] by unfold octV; rw [if_pos (by omega)]]
    have hin : inB n 0 511 = false := inB_f h
    clear h
    go_enter Tryd.func15, Tryd.ntmps15
    go_wp2_with (first | (go_at_call 26; refine (specIn _ _ _ _).mono ?_; rintro e w' ⟨rfl, rfl⟩))
    go_ret
    exact ⟨rfl, rfl⟩
end Go.Proofs.YtlkmpmlcjiiboaaDoor
