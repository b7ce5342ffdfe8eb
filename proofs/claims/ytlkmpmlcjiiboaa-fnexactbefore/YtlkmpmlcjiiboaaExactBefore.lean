/- Proved: laws.FnExactBefore answers true at every two texts: impl.Before answers as spec.Before does, and both arguments read as before. No condition. -/
import Derived.Test.YtlkmpmlcjiiboaaBefore
namespace Go.Proofs.Ytlkmpmlcjiiboaa
open Go.RowKit
theorem walkExactBefore (a0 : ByteArray) (a1 : ByteArray) (w0 : a0.size ≤ maxLen) (w1 : a1.size ≤ maxLen) (w : World) :
    Calls Try.prog 9 #[.string a0, .string a1] w fun e w' => e = .returned (.bool true) ∧ Below w.heap.size w w' := by
  by_cases h0 : a0.size ≤ 1048576
  · by_cases h1 : a1.size ≤ 1048576
    · go_enter Try.func9, Try.ntmps9
      go_wp2_with (first | (go_at_call 19; refine (specBefore _ _ _ w0 w1).mono ?_; rintro e w' ⟨rfl, n, rfl⟩) | (go_at_call 18; refine (implBefore _ _ _).mono ?_; rintro e w' ⟨rfl, rfl⟩))
      go_ret
      exact ⟨rfl, by repeat (first | exact Below.refl _ _ | apply below_drewN)⟩
    · go_enter Try.func9, Try.ntmps9
      go_wp2
      go_ret
      exact ⟨rfl, by repeat (first | exact Below.refl _ _ | apply below_drewN)⟩
  · go_enter Try.func9, Try.ntmps9
    go_wp2
    go_ret
    exact ⟨rfl, by repeat (first | exact Below.refl _ _ | apply below_drewN)⟩
end Go.Proofs.Ytlkmpmlcjiiboaa
