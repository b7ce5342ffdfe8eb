/- Proved: laws.FnExactDecText answers true at every int: impl.DecText answers as spec.DecText does. The listed tables of the standard library are tied to the program's text; the card speaks of the pruned copy of the project that the seat holds. -/
import Derived.Test.YtlkmpmlcjiiboaaDoorImplDec
namespace Go.Proofs.YtlkmpmlcjiiboaaDoor
open Go.RowKit
theorem walkExactDecText (n : Int) (h1 : -9223372036854775808 ≤ n) (h2 : n ≤ 9223372036854775807) (w : World) (hT : Tabs w) :
    Calls Tryd.prog 4 #[.int .i64 n] w fun e w' => e = .returned (.bool true) ∧ Below w.heap.size w w' := by
  go_enter Tryd.func4, Tryd.ntmps4
  go_wp2_with (first | (go_at_call 14; refine (specDecText _ _ h1 h2).mono ?_; rintro e w' ⟨rfl, rfl⟩) | (go_at_call 10; refine (implDecText _ _ h1 h2 hT).mono ?_; rintro e w' ⟨rfl, hb⟩))
  go_ret
  exact ⟨rfl, hb⟩
end Go.Proofs.YtlkmpmlcjiiboaaDoor
