/- Proved: laws.FnExactOctText answers true at every int: impl.OctText answers as spec.OctText does. The listed tables of the standard library are tied to the program's text; the card speaks of the pruned copy of the project that the seat holds. -/
import Derived.Test.YtlkmpmlcjiiboaaDoorOct
namespace Go.Proofs.YtlkmpmlcjiiboaaDoor
open Go.RowKit
theorem walkExactOctText (n : Int) (w : World) (hT : Tabs w) :
    Calls Tryd.prog 6 #[.int .i64 n] w fun e w' => e = .returned (.bool true) ∧ Below w.heap.size w w' := by
  go_enter Tryd.func6, Tryd.ntmps6
  go_wp2_with (first | (go_at_call 15; refine (specOctText _ _).mono ?_; rintro e w' ⟨rfl, rfl⟩) | (go_at_call 11; refine (implOctText _ _ hT).mono ?_; rintro e w' ⟨rfl, hb⟩))
  go_ret
  exact ⟨rfl, hb⟩
end Go.Proofs.YtlkmpmlcjiiboaaDoor
