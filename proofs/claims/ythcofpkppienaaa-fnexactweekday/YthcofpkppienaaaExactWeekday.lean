/- Proved: laws.FnExactWeekday answers true at every int: impl.Weekday answers as spec.Weekday does. No condition. -/
import Derived.Test.YthcofpkppienaaaImplYears
namespace Go.Proofs.Ythcofpkppienaaa
open Go.RowKit
theorem walkExactWeekday (t : Int) (w : World) :
    Calls Try.prog 4 #[.int .i64 t] w fun e w' => e = .returned (.bool true) ∧ Below w.heap.size w w' := by
  go_enter Try.func4, Try.ntmps4
  go_wp2_with (first | (go_at_call 9; refine (specWeekday _ _).mono ?_; rintro e w' ⟨rfl, rfl⟩) | (go_at_call 8; refine (implWeekday _ _).mono ?_; rintro e w' ⟨rfl, rfl⟩))
  go_ret
  exact ⟨rfl, Below.refl _ _⟩
end Go.Proofs.Ythcofpkppienaaa
