/- Proved: laws.FnExactPeriodOf answers true at every two ints: impl.PeriodOf answers as spec.PeriodOf does. The listed table of the months' lengths is tied to the program's text; the card speaks of the pruned copy of the project that the seat holds. -/
import Derived.Test.YthcofpkppienaaaDoorImplPeriods
import Derived.Test.YthcofpkppienaaaDoorDrawDays
namespace Go.Proofs.YthcofpkppienaaaDoor
open Go.RowKit
theorem walkExactPeriodOf (kind t : Int) (w : World) (hT : Tabs w) :
    Calls Tryd.prog 10 #[.int .i64 kind, .int .i64 t] w fun e w' => e = .returned (.bool true) ∧ Below w.heap.size w w' := by
  cases ht : timeB t
  · go_enter Tryd.func10, Tryd.ntmps10
    go_wp2_with fail
    refine (specPeriodOf_out _ _ _ ht).mono ?_
    rintro e w1 ⟨rfl, hb⟩
    go_wp2_with fail
    refine (implPeriodOf_out _ _ _ ht).mono ?_
    rintro e w2 ⟨rfl, hb2⟩
    go_wp2
    go_ret
    exact ⟨rfl, hb.trans (hb2.mono hb.size)⟩
  · have hb := inB_iff.1 ht
    obtain ⟨x, hx, rfl⟩ := dt_some t hb.1 hb.2
    have HX := Lib.hid hx
    clear hb hx ht
    go_enter Tryd.func10, Tryd.ntmps10
    go_wp2_with fail
    refine (specPeriodOf _ _ HX.out _).mono ?_
    rintro e w1 ⟨rfl, hb⟩
    have hT1 := Lib.hid (hT.on hb)
    clear hT
    go_wp2_with fail
    refine (implPeriodOf _ _ HX.out _ hT1.out).mono ?_
    rintro e w2 ⟨rfl, hb2⟩
    go_wp2
    go_ret
    exact ⟨rfl, hb.trans (hb2.mono hb.size)⟩
end Go.Proofs.YthcofpkppienaaaDoor
