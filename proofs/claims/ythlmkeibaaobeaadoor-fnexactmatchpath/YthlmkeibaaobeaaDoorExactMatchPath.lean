/- Proved: laws.FnExactMatchPath answers true at any two texts: impl.MatchPath answers as spec.MatchPath does, and the arguments read as before. The listed tables of the standard library are tied to the program's text, and are not read; the card speaks of the pruned copy of the project that the seat holds. -/
import Derived.Test.YthlmkeibaaobeaaDoorMatchPath
import Derived.Test.YthlmkeibaaobeaaDoorLaid4
namespace Go.Proofs.YthlmkeibaaobeaaDoor
open Go.RowKit
theorem walkExactMatchPath (s d : ByteArray) (hs : s.size ≤ maxLen) (hd : d.size ≤ maxLen) (w : World) :
    Calls Tryd.prog 4 #[.string s, .string d] w fun e w' => e = .returned (.bool true) ∧ Below w.heap.size w w' := by
  by_cases hl : s.size ≤ 1048576
  · by_cases hl2 : d.size ≤ 1048576
    · have CS := Lib.hid (fun W => specMatchPath s d W (by omega) (by omega))
      have CI := Lib.hid (fun W => implMatchPath s d W (by omega) (by omega))
      generalize mpathV s.data.toList d.data.toList = q at CS CI
      unfold maxLen at hs hd
      go_enter Tryd.func4, Tryd.ntmps4
      go_wp2_with fail
      refine (CS.out _).mono ?_
      rintro e W1 ⟨rfl, hb1⟩
      go_wp2_with fail
      refine (CI.out _).mono ?_
      rintro e W2 ⟨rfl, hb2⟩
      go_wp2
      go_ret
      exact ⟨rfl, hb1.trans (hb2.mono hb1.size)⟩
    · unfold maxLen at hs hd
      go_enter Tryd.func4, Tryd.ntmps4
      go_wp2
      go_ret
      exact ⟨rfl, Below.refl _ _⟩
  · unfold maxLen at hs hd
    go_enter Tryd.func4, Tryd.ntmps4
    go_wp2
    go_ret
    exact ⟨rfl, Below.refl _ _⟩
end Go.Proofs.YthlmkeibaaobeaaDoor
