/- Proved: laws.FnExactDirOf answers true at every text: impl.DirOf answers as spec.DirOf does, and the argument reads as before. The listed tables of the standard library are tied to the program's text, and are not read; the card speaks of the pruned copy of the project that the seat holds. -/
import Derived.Test.YtcknohalbamjfaaDoorPathFns2
import Derived.Test.YtcknohalbamjfaaDoorLaid4
namespace Go.Proofs.YtcknohalbamjfaaDoor
open Go.RowKit
theorem walkExactDirOf (s : ByteArray) (hs : s.size ≤ maxLen) (w : World) :
    Calls Tryd.prog 9 #[.string s] w fun e w' => e = .returned (.bool true) ∧ Below w.heap.size w w' := by
  by_cases hl : s.size ≤ 1048576
  · have CS := Lib.hid (fun W => specDirOf s W hs)
    have CI := Lib.hid (fun W => implDirOf s W (by omega))
    generalize strOf (dirV s.data.toList) = q at CS CI
    unfold maxLen at hs
    go_enter Tryd.func9, Tryd.ntmps9
    go_wp2_with fail
    refine (CS.out _).mono ?_
    rintro e W1 ⟨rfl, hb1⟩
    go_wp2_with fail
    refine (CI.out _).mono ?_
    rintro e W2 ⟨rfl, hb2⟩
    go_wp2
    go_ret
    exact ⟨rfl, hb1.trans (hb2.mono hb1.size)⟩
  · unfold maxLen at hs
    go_enter Tryd.func9, Tryd.ntmps9
    go_wp2
    go_ret
    exact ⟨rfl, Below.refl _ _⟩
end Go.Proofs.YtcknohalbamjfaaDoor
