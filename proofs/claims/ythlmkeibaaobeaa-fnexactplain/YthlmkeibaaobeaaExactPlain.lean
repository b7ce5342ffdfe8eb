/- Proved: laws.FnExactPlain answers true at every text: impl.Plain answers as spec.Plain does, and the argument reads as before. -/
import Derived.Test.YthlmkeibaaobeaaPlainFns
namespace Go.Proofs.Ythlmkeibaaobeaa
open Go.RowKit
theorem walkExactPlain (s : ByteArray) (hs : s.size ≤ maxLen) (w : World) :
    Calls Try.prog 6 #[.string s] w fun e w' => e = .returned (.bool true) ∧ Below w.heap.size w w' := by
  by_cases hl : s.size ≤ 1048576
  · have CS := Lib.hid (fun W => specPlain s hs W)
    have CI := Lib.hid (fun W => implPlain s hs W)
    generalize plainV s.data.toList = q at CS CI
    unfold maxLen at hs
    go_enter Try.func6, Try.ntmps6
    go_wp2_with fail
    refine (CS.out _).mono ?_
    rintro e W1 ⟨rfl, rfl⟩
    go_wp2_with fail
    refine (CI.out _).mono ?_
    rintro e W2 ⟨rfl, hb2⟩
    cases q
    all_goals
      go_wp2
      go_ret
      exact ⟨rfl, hb2⟩
  · unfold maxLen at hs
    go_enter Try.func6, Try.ntmps6
    go_wp2
    go_ret
    exact ⟨rfl, Below.refl _ _⟩
end Go.Proofs.Ythlmkeibaaobeaa
