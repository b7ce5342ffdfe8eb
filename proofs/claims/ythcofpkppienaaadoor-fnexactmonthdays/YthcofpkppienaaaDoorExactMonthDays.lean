/- Proved: laws.FnExactMonthDays answers true at every two ints: impl.MonthDays answers as spec.MonthDays does. The listed table of the months' lengths is tied to the program's text; the card speaks of the pruned copy of the project that the seat holds. -/
import Derived.Test.YthcofpkppienaaaDoorImplMonths
namespace Go.Proofs.YthcofpkppienaaaDoor
open Go.RowKit
theorem walkExactMonthDays (y m : Int) (w : World) (hT : Tabs w) :
    Calls Tryd.prog 6 #[.int .i64 y, .int .i64 m] w fun e w' => e = .returned (.bool true) ∧ Below w.heap.size w w' := by
  go_enter Tryd.func6, Tryd.ntmps6
  go_wp2_with fail
  refine (specMonthDays _ _ _).mono ?_
  rintro e w1 ⟨rfl, hb⟩
  have hT1 := Lib.hid (hT.on hb)
  clear hT
  go_wp2_with fail
  refine (implMonthDays _ _ _ hT1.out).mono ?_
  rintro e w' ⟨rfl, rfl⟩
  go_wp2
  go_ret
  exact ⟨rfl, hb⟩
end Go.Proofs.YthcofpkppienaaaDoor
