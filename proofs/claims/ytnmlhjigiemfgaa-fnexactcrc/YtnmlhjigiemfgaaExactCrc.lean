/- Proved: laws.FnExactCrc answers true at every text: impl.Crc answers as spec.Crc does, and the argument reads as before. No condition. -/
import Derived.Test.YtnmlhjigiemfgaaImplCrc
namespace Go.Proofs.Ytnmlhjigiemfgaa
open Go.RowKit
theorem walkExactCrc (s : ByteArray) (hs : s.size ≤ maxLen) (w : World) :
    Calls Try.prog 4 #[.string s] w fun e w' => e = .returned (.bool true) ∧ Below w.heap.size w w' := by
  by_cases hl : s.size ≤ 1048576
  · have CS := Lib.hid (fun W => specCrc s hs W)
    have CI := Lib.hid (fun W => implCrc s hs W)
    generalize crcV s.data.toList = q at CS CI
    unfold maxLen at hs
    go_enter Try.func4, Try.ntmps4
    go_wp2_with fail
    refine (CS.out _).mono ?_
    rintro e W1 ⟨rfl, rfl⟩
    go_wp2_with fail
    refine (CI.out _).mono ?_
    rintro e W2 ⟨rfl, rfl⟩
    go_wp2
    go_ret
    exact ⟨rfl, Below.refl _ _⟩
  · unfold maxLen at hs
    go_enter Try.func4, Try.ntmps4
    go_wp2
    go_ret
    exact ⟨rfl, Below.refl _ _⟩
end Go.Proofs.Ytnmlhjigiemfgaa
