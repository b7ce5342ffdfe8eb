/- Proved: laws.FnExactJoin answers true at any two texts: impl.Join answers as spec.Join does, and the arguments read as before. The listed tables of the standard library are tied to the program's text, and are not read; the card speaks of the pruned copy of the project that the seat holds. -/
import Derived.Test.YtcknohalbamjfaaDoorPathFns3
import Derived.Test.YtcknohalbamjfaaDoorLaid4
namespace Go.Proofs.YtcknohalbamjfaaDoor
open Go.RowKit
theorem walkExactJoin (s d : ByteArray) (hs : s.size ≤ maxLen) (hd : d.size ≤ maxLen) (w : World) :
    Calls Tryd.prog 8 #[.string s, .string d] w fun e w' => e = .returned (.bool true) ∧ Below w.heap.size w w' := by
  by_cases hl : s.size ≤ 1048576
  · by_cases hl2 : d.size ≤ 1048576
    · have CS := Lib.hid (fun W => specJoin s d W (by omega) (by omega))
      have CI := Lib.hid (fun W => implJoin s d W (by omega))
      generalize strOf (joinV s.data.toList d.data.toList) = q at CS CI
      unfold maxLen at hs hd
      go_enter Tryd.func8, Tryd.ntmps8
      go_wp2_with fail
      refine (CS.out _).mono ?_
      rintro e W1 ⟨rfl, hb1⟩
      go_wp2_with fail
      refine (CI.out _).mono ?_
      rintro e W2 ⟨rfl, hb2⟩
      go_wp2
      go_ret
      exact ⟨rfl, hb1.trans (hb2.mono hb1.size)⟩
    · unfold maxLen at hs hd
      go_enter Tryd.func8, Tryd.ntmps8
      go_wp2
      go_ret
      exact ⟨rfl, Below.refl _ _⟩
  · unfold maxLen at hs hd
    go_enter Tryd.func8, Tryd.ntmps8
    go_wp2
    go_ret
    exact ⟨rfl, Below.refl _ _⟩
end Go.Proofs.YtcknohalbamjfaaDoor
