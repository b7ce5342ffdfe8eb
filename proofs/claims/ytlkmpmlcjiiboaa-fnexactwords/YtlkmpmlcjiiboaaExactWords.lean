/- Proved: laws.FnExactWords answers true at every text: impl.Words tells the words that spec.Words tells, in memory of its own, and the argument reads as before. No condition. -/
import Derived.Test.YtlkmpmlcjiiboaaImplWords
namespace Go.Proofs.Ytlkmpmlcjiiboaa
open Go.RowKit

theorem walkExactWords (s : ByteArray) (w : World) :
    Calls Try.prog 8 #[.string s] w fun e w' => e = .returned (.bool true) ∧ Below w.heap.size w w' := by
  by_cases h0 : s.size ≤ 1048576
  · have hlen : (wordsL s.data.toList).length ≤ 1048577 := by have := wGo_len s.data.toList [] false false; simp at this; unfold wordsL; omega
    obtain ⟨ls, hls⟩ : ∃ ls, ls = wordsL s.data.toList := ⟨_, rfl⟩
    have hA := fun w => specWords s w h0
    have hB := fun w => implWords s w h0
    rw [← hls] at hA hB hlen
    have HA := Lib.hid hA
    have HB := Lib.hid hB
    clear hA hB hls
    go_enter Try.func8, Try.ntmps8
    go_wp2_with fail
    refine (HA.out _).mono ?_
    rintro e w1 ⟨v1, rfl, hS1, hb1⟩
    go_wp2_with fail
    refine (HB.out _).mono ?_
    rintro e w2 ⟨v2, rfl, hS2, hb2⟩
    go_wp2_with fail
    refine (eqStringS_t _ _ _ _ _ ls hS2 (hS1.on hb2)).mono ?_
    rintro e w3 ⟨rfl, n3, rfl⟩
    have hS2' := hS2.on (below_drewN (Below.refl _ _) n3)
    have hB3 : Below w1.heap.size w1 (w2.drewN n3) := below_drewN hb2 n3
    go_wp2_with fail
    refine (markStringS1 _ _ _ ls (by omega) hS2').mono ?_
    rintro e w4 ⟨rfl, hM, hb4⟩
    have hB4 : Below w1.heap.size w1 w4 := hB3.trans hb4
    go_wp2_with fail
    refine (heldStringS1 _ _ _ ls.length (by omega) hM).mono ?_
    rintro e w5 ⟨rfl, hb5⟩
    have hB5 : Below w1.heap.size w1 w5 := hB4.trans (hb5.mono hB4.size)
    have hM5 := hM.on hb5
    go_wp2_with fail
    refine (HB.out _).mono ?_
    rintro e w6 ⟨v3, rfl, hS3, hb6⟩
    have hB6 : Below w1.heap.size w1 w6 := hB5.trans (hb6.mono hB5.size)
    have hM6 := hM5.on hb6
    go_wp2_with fail
    refine (eqStringS_t _ _ _ _ _ ls hS3 (hS1.on hB6)).mono ?_
    rintro e w7 ⟨rfl, n7, rfl⟩
    have hM7 := hM6.on (below_drewN (Below.refl _ _) n7)
    have hB7 : Below w1.heap.size w1 (w6.drewN n7) := below_drewN hB6 n7
    go_wp2_with fail
    refine (heldStringS1 _ _ _ ls.length (by omega) hM7).mono ?_
    rintro e w8 ⟨rfl, hb8⟩
    go_wp2
    go_ret
    exact ⟨rfl, hb1.trans ((hB7.trans (hb8.mono hB7.size)).mono hb1.size)⟩
  · have h0' : (1048576 : Int) < s.size := by omega
    go_enter Try.func8, Try.ntmps8
    go_wp2
    go_ret
    exact ⟨rfl, Below.refl _ _⟩
end Go.Proofs.Ytlkmpmlcjiiboaa
