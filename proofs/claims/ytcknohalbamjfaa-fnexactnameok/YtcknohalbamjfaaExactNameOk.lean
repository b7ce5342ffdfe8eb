/- Proved: laws.FnExactNameOk answers true at every text: impl.NameOk answers as spec.NameOk does. -/
import Derived.Test.YtcknohalbamjfaaImplName
namespace Go.Proofs.Ytcknohalbamjfaa
open Go.RowKit
theorem walkExactNameOk (s : ByteArray) (hs : s.size ≤ maxLen) (w : World) :
    Calls Try.prog 3 #[.string s] w fun e w' => e = .returned (.bool true) ∧ Below w.heap.size w w' := by
  by_cases hl : s.size ≤ 1048576
  · have CS := Lib.hid (fun W => specNameOk s W)
    have CI := Lib.hid (fun W => implNameOk s W)
    generalize nameB s.data.toList = q at CS CI
    go_enter Try.func3, Try.ntmps3
    go_wp2_with (first | (go_at_call 4; refine (CS.out _).mono ?_; rintro e w' ⟨rfl, rfl⟩) | (go_at_call 5; refine (CI.out _).mono ?_; rintro e w' ⟨rfl, hb⟩))
    go_ret
    exact ⟨rfl, hb⟩
  · unfold maxLen at hs
    go_enter Try.func3, Try.ntmps3
    go_wp2
    go_ret
    exact ⟨rfl, Below.refl _ _⟩
end Go.Proofs.Ytcknohalbamjfaa
