/- Proved: laws.FnExactClean answers true at every text: impl.Clean answers as spec.Clean does, and the argument reads as before. The listed tables of the standard library are tied to the program's text, and are not read; the card speaks of the pruned copy of the project that the seat holds. -/
import Derived.Test.YtcknohalbamjfaaDoorImplClean
import Derived.Test.YtcknohalbamjfaaDoorLaid4
namespace Go.Proofs.YtcknohalbamjfaaDoor
open Go.RowKit
theorem walkExactClean (s : ByteArray) (hs : s.size ≤ maxLen) (w : World) :
    Calls Tryd.prog 7 #[.string s] w fun e w' => e = .returned (.bool true) ∧ Below w.heap.size w w' := by
  by_cases hl : s.size ≤ 1048576
  · have CS := Lib.hid (fun W => specClean s W (by omega))
    have CI := Lib.hid (fun W => implClean s W (by omega))
    generalize strOf (cleanV s.data.toList) = q at CS CI
    unfold maxLen at hs
    go_enter Tryd.func7, Tryd.ntmps7
    go_wp2_with fail
    refine (CS.out _).mono ?_
    rintro e W1 ⟨rfl, hb1⟩
    go_wp2_with fail
    refine (CI.out _).mono ?_
    rintro e W2 ⟨rfl, hb2⟩
    go_wp2
    go_ret
    exact ⟨rfl, hb1.trans (hb2.mono hb1.size)⟩
  · unfold maxLen at hs
    go_enter Tryd.func7, Tryd.ntmps7
    go_wp2
    go_ret
    exact ⟨rfl, Below.refl _ _⟩
end Go.Proofs.YtcknohalbamjfaaDoor
