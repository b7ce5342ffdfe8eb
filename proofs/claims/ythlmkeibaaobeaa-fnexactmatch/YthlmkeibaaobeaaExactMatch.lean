/- Proved: laws.FnExactMatch answers true at every two texts: impl.Match answers as spec.Match does, and the arguments read as before. -/
import Derived.Test.YthlmkeibaaobeaaImplMatch2
namespace Go.Proofs.Ythlmkeibaaobeaa
open Go.RowKit
theorem walkExactMatch (s q : ByteArray) (hs : s.size ≤ maxLen) (hq : q.size ≤ maxLen) (w : World) :
    Calls Try.prog 5 #[.string s, .string q] w fun e w' => e = .returned (.bool true) ∧ Below w.heap.size w w' := by
  by_cases hl : s.size ≤ 1048576
  · by_cases hl2 : q.size ≤ 1048576
    · have CS := Lib.hid (fun W => specMatch s q hs W)
      have CI := Lib.hid (fun W => implMatch s q hs W)
      generalize matB s.data.toList q.data.toList = b at CS CI
      unfold maxLen at hs hq
      go_enter Try.func5, Try.ntmps5
      go_wp2_with fail
      refine (CS.out _).mono ?_
      rintro e W1 ⟨rfl, hb1⟩
      go_wp2_with fail
      refine (CI.out _).mono ?_
      rintro e W2 ⟨rfl, hb2⟩
      have HB := Lib.hid (hb1.trans (hb2.mono hb1.size))
      clear hb1 hb2
      cases b
      all_goals
        go_wp2
        go_ret
        exact ⟨rfl, HB.out⟩
    · unfold maxLen at hs hq
      go_enter Try.func5, Try.ntmps5
      go_wp2
      go_ret
      exact ⟨rfl, Below.refl _ _⟩
  · unfold maxLen at hs hq
    go_enter Try.func5, Try.ntmps5
    go_wp2
    go_ret
    exact ⟨rfl, Below.refl _ _⟩
end Go.Proofs.Ythlmkeibaaobeaa
