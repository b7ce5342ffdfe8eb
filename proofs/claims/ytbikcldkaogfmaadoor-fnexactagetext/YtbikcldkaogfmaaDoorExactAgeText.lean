/- Proved: laws.FnExactAgeText answers true at every int: impl.AgeText answers as spec.AgeText does. The listed tables (the letters of ages, those of the standard library) are tied to the program's text; the card speaks of the pruned copy of the project that the seat holds. -/
import Derived.Test.YtbikcldkaogfmaaDoorAgeTextS
import Derived.Test.YtbikcldkaogfmaaDoorAgeTextI
namespace Go.Proofs.YtbikcldkaogfmaaDoor
open Go.RowKit
theorem walkExactAgeText (n : Int) (w : World) (hT : TabsB w) :
    Calls Tryd.prog 8 #[.int .i64 n] w fun e w' => e = .returned (.bool true) ∧ Below w.heap.size w w' := by
  have CS := Lib.hid (fun W => specAgeText n W)
  have CI := Lib.hid (fun W (h : Below w.heap.size w W) => implAgeText n W (hT.on h))
  clear hT
  generalize ageTextV n = q at CS CI
  go_enter Tryd.func8, Tryd.ntmps8
  go_wp2_with fail
  refine (CS.out _).mono ?_
  rintro e W1 ⟨rfl, hb1⟩
  go_wp2_with fail
  refine (CI.out _ hb1).mono ?_
  rintro e W2 ⟨rfl, hb2⟩
  go_wp2
  go_ret
  exact ⟨rfl, hb1.trans (hb2.mono hb1.size)⟩
end Go.Proofs.YtbikcldkaogfmaaDoor
