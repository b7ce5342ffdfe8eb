/- Proved: laws.FnExactReadDec answers true at every text: impl.ReadDec answers as spec.ReadDec does, and the argument reads as before. No condition. -/
import Derived.Test.YtlkmpmlcjiiboaaReadDec
namespace Go.Proofs.Ytlkmpmlcjiiboaa
open Go.RowKit
theorem walkExactReadDec (a0 : ByteArray) (w0 : a0.size ≤ maxLen) (w : World) :
    Calls Try.prog 5 #[.string a0] w fun e w' => e = .returned (.bool true) ∧ Below w.heap.size w w' := by
  by_cases h0 : a0.size ≤ 1048576
  · go_enter Try.func5, Try.ntmps5
    go_wp2_with (first | (go_at_call 20; refine (specReadDec _ _).mono ?_; rintro e w' ⟨rfl, rfl⟩) | (go_at_call 21; refine (implReadDec _ _ w0).mono ?_; rintro e w' ⟨rfl, (rfl | ⟨pos, rfl⟩)⟩))
    · go_ret
      exact ⟨rfl, Below.refl _ _⟩
    · go_ret
      exact ⟨rfl, below_iter (Below.refl _ _) (Nat.le_refl _) _ _⟩
  · have h0' : (1048576 : Int) < a0.size := by omega
    go_enter Try.func5, Try.ntmps5
    go_wp2
    go_ret
    exact ⟨rfl, Below.refl _ _⟩
end Go.Proofs.Ytlkmpmlcjiiboaa
