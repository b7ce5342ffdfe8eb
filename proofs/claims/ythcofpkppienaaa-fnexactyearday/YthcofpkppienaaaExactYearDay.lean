/- Proved: laws.FnExactYearDay answers true at every int: impl.YearDay answers as spec.YearDay does. No condition. -/
import Derived.Test.YthcofpkppienaaaImplYears
namespace Go.Proofs.Ythcofpkppienaaa
open Go.RowKit
theorem walkExactYearDay (t : Int) (w : World) :
    Calls Try.prog 5 #[.int .i64 t] w fun e w' => e = .returned (.bool true) ∧ Below w.heap.size w w' := by
  cases ht : timeB t
  · go_enter Try.func5, Try.ntmps5
    go_wp2_with (first | (go_at_call 11; refine (specYearDay_out _ _ ht).mono ?_; rintro e w' ⟨rfl, hb⟩) | (go_at_call 10; refine (implYearDay_out _ _ ht).mono ?_; rintro e w' ⟨rfl, rfl⟩))
    go_ret
    exact ⟨rfl, hb⟩
  · have hb := inB_iff.1 ht
    obtain ⟨x, hx, rfl⟩ := dt_some t hb.1 hb.2
    have HX := Lib.hid hx
    clear hb hx ht
    go_enter Try.func5, Try.ntmps5
    go_wp2_with (first | (go_at_call 11; refine (specYearDay _ HX.out _).mono ?_; rintro e w' ⟨rfl, hb⟩) | (go_at_call 10; refine (implYearDay _ HX.out _).mono ?_; rintro e w' ⟨rfl, rfl⟩))
    go_ret
    exact ⟨rfl, hb⟩
end Go.Proofs.Ythcofpkppienaaa
