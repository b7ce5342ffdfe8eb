/- Proved: laws.FnExactAgeOf answers true at every text: impl.AgeOf answers as spec.AgeOf does, and the argument reads as before. The listed table of the letters of ages is tied to the program's text; the card speaks of the pruned copy of the project that the seat holds. -/
import Derived.Test.YtbikcldkaogfmaaDoorImplAges
namespace Go.Proofs.YtbikcldkaogfmaaDoor
open Go.RowKit
theorem walkExactAgeOf (s : ByteArray) (hs : s.size ≤ maxLen) (w : World) (hT : TabsU w) :
    Calls Tryd.prog 7 #[.string s] w fun e w' => e = .returned (.bool true) ∧ Below w.heap.size w w' := by
  by_cases hl : s.size ≤ 1048576
  · have CS := Lib.hid (fun W => specAgeOf s W hl)
    have CI := Lib.hid (fun W (h : Below w.heap.size w W) => implAgeOf s W hl (hT.on h))
    clear hT
    generalize ageV s.data.toList = q at CS CI
    unfold maxLen at hs
    go_enter Tryd.func7, Tryd.ntmps7
    go_wp2_with fail
    refine (CS.out _).mono ?_
    rintro e W1 ⟨rfl, hb1⟩
    go_wp2_with fail
    refine (CI.out _ hb1).mono ?_
    rintro e W2 ⟨rfl, hb2⟩
    go_wp2
    go_ret
    exact ⟨rfl, hb1.trans (hb2.mono hb1.size)⟩
  · unfold maxLen at hs
    clear hT
    go_enter Tryd.func7, Tryd.ntmps7
    go_wp2
    go_ret
    exact ⟨rfl, Below.refl _ _⟩
end Go.Proofs.YtbikcldkaogfmaaDoor
