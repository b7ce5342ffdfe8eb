/- Proved: laws.FnExactPadText answers true at every two ints: impl.PadText answers as spec.PadText does. The listed tables of the standard library are tied to the program's text; the card speaks of the pruned copy of the project that the seat holds. -/
import Derived.Test.YtlkmpmlcjiiboaaDoorPad
namespace Go.Proofs.YtlkmpmlcjiiboaaDoor
open Go.RowKit
theorem walkExactPadText (n d : Int) (h1 : -9223372036854775808 ≤ n) (h2 : n ≤ 9223372036854775807) (w : World) (hT : Tabs w) :
    Calls Tryd.prog 5 #[.int .i64 n, .int .i64 d] w fun e w' => e = .returned (.bool true) ∧ Below w.heap.size w w' := by
  go_enter Tryd.func5, Tryd.ntmps5
  go_wp2_with (first | (go_at_call 16; refine (specPadText _ _ _ h1 h2).mono ?_; rintro e w' ⟨rfl, rfl⟩) | (go_at_call 13; refine (implPadText _ _ _ h1 h2 hT).mono ?_; rintro e w' ⟨rfl, hb⟩))
  go_ret
  exact ⟨rfl, hb⟩
end Go.Proofs.YtlkmpmlcjiiboaaDoor
