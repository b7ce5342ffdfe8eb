/- Proved: laws.FnExactEscape answers true at every text: impl.Escape answers as spec.Escape does, and the argument reads as before. -/
import Derived.Test.YthlmkeibaaobeaaEscape
namespace Go.Proofs.Ythlmkeibaaobeaa
open Go.RowKit
theorem walkExactEscape (s : ByteArray) (hs : s.size ≤ maxLen) (w : World) :
    Calls Try.prog 7 #[.string s] w fun e w' => e = .returned (.bool true) ∧ Below w.heap.size w w' := by
  by_cases hl : s.size ≤ 1048576
  · have CS := Lib.hid (fun W => specEscape s W (by omega))
    have CI := Lib.hid (fun W => implEscape s W (by omega))
    generalize strOf (escV s.data.toList) = q at CS CI
    unfold maxLen at hs
    go_enter Try.func7, Try.ntmps7
    go_wp2_with fail
    refine (CS.out _).mono ?_
    rintro e W1 ⟨rfl, hb1⟩
    go_wp2_with fail
    refine (CI.out _).mono ?_
    rintro e W2 ⟨rfl, hb2⟩
    go_wp2
    go_ret
    exact ⟨rfl, hb1.trans (hb2.mono hb1.size)⟩
  · unfold maxLen at hs
    go_enter Try.func7, Try.ntmps7
    go_wp2
    go_ret
    exact ⟨rfl, Below.refl _ _⟩
end Go.Proofs.Ythlmkeibaaobeaa
