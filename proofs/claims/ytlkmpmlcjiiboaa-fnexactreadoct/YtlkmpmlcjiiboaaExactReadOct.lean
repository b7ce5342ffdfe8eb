/- Proved: laws.FnExactReadOct answers true at every text: impl.ReadOct answers as spec.ReadOct does, and the argument reads as before. No condition. -/
import Derived.Test.YtlkmpmlcjiiboaaReadOct
namespace Go.Proofs.Ytlkmpmlcjiiboaa
open Go.RowKit
theorem walkExactReadOct (a0 : ByteArray) (w0 : a0.size ≤ maxLen) (w : World) :
    Calls Try.prog 6 #[.string a0] w fun e w' => e = .returned (.bool true) ∧ Below w.heap.size w w' := by
  by_cases h0 : a0.size ≤ 1048576
  · go_enter Try.func6, Try.ntmps6
    go_wp2_with (first | (go_at_call 22; refine (specReadOct _ _ w0).mono ?_; rintro e w' ⟨rfl, rfl⟩) | (go_at_call 23; refine (implReadOct _ _ w0).mono ?_; rintro e w' ⟨rfl, hb⟩))
    go_ret
    exact ⟨rfl, hb⟩
  · have h0' : (1048576 : Int) < a0.size := by omega
    go_enter Try.func6, Try.ntmps6
    go_wp2
    go_ret
    exact ⟨rfl, Below.refl _ _⟩
end Go.Proofs.Ytlkmpmlcjiiboaa
