/- Proved: laws.FnExactDateOf answers true at every int: impl.DateOf answers as spec.DateOf does, every field. The listed table of the months' lengths is tied to the program's text; the card speaks of the pruned copy of the project that the seat holds. -/
import Derived.Test.YthcofpkppienaaaDoorImplDays
import Derived.Test.YthcofpkppienaaaDoorDateArg
namespace Go.Proofs.YthcofpkppienaaaDoor
open Go.RowKit
set_option maxRecDepth 100000 in
set_option maxHeartbeats 1000000 in
theorem exactDateOf_at (t y mo d h mi s : Int) (w : World) (hT : Tabs w)
    (hS : ∀ w, Calls Tryd.prog 29 #[.int .i64 t] w fun e w' => e = .returned (.agg #[.int .i64 y, .int .i64 mo, .int .i64 d, .int .i64 h, .int .i64 mi, .int .i64 s]) ∧ Below w.heap.size w w')
    (hI : ∀ w, Tabs w → Calls Tryd.prog 14 #[.int .i64 t] w fun e w' => e = .returned (.agg #[.int .i64 y, .int .i64 mo, .int .i64 d, .int .i64 h, .int .i64 mi, .int .i64 s]) ∧ Below w.heap.size w w') :
    Calls Tryd.prog 8 #[.int .i64 t] w fun e w' => e = .returned (.bool true) ∧ Below w.heap.size w w' := by
  have HS := Lib.hid hS
  have HI := Lib.hid hI
  have HT := Lib.hid hT
  clear hS hI hT
  go_enter Tryd.func8, Tryd.ntmps8
  go_wp2_with fail
  refine (HS.out _).mono ?_
  rintro e w1 ⟨rfl, hb1⟩
  have hb1a := hb1.trans (((Below.refl w1.heap.size w1).alloc (Nat.le_refl _) (.cells #[.int .i64 y, .int .i64 mo, .int .i64 d, .int .i64 h, .int .i64 mi, .int .i64 s] 26)).mono hb1.size)
  have HB1 := Lib.hid hb1a
  clear hb1 hb1a
  go_wp2_with fail
  refine (HI.out _ (HT.out.on HB1.out)).mono ?_
  rintro e w2 ⟨rfl, hb2⟩
  have hB : Below (w1.heap.size + 1) (w1.alloc (.cells #[.int .i64 y, .int .i64 mo, .int .i64 d, .int .i64 h, .int .i64 mi, .int .i64 s] 26)) w2 := hb2.mono (by simp)
  have hB2 := hB.alloc (by have := hB.size; simp at this; omega) (.cells #[.int .i64 y, .int .i64 mo, .int .i64 d, .int .i64 h, .int .i64 mi, .int .i64 s] 26)
  have c0 := date_cell hB2 0
  have c1 := date_cell hB2 1
  have c2 := date_cell hB2 2
  have c3 := date_cell hB2 3
  have c4 := date_cell hB2 4
  have c5 := date_cell hB2 5
  simp at c0 c1 c2 c3 c4 c5
  have HB3 := Lib.hid (show Below w.heap.size w (w2.alloc (.cells #[.int .i64 y, .int .i64 mo, .int .i64 d, .int .i64 h, .int .i64 mi, .int .i64 s] 26)) from
    (HB1.out.trans (hb2.mono HB1.out.size)).alloc (Nat.le_trans HB1.out.size hb2.size) _)
  clear hb2 hB hB2
  go_wp2_with fail
  refine (eqDate_same _ _ _ _ _ _ _).mono ?_
  rintro e w3 ⟨rfl, hb3⟩
  go_wp2
  go_ret
  exact ⟨rfl, HB3.out.trans (hb3.mono HB3.out.size)⟩
theorem walkExactDateOf (t : Int) (w : World) (hT : Tabs w) :
    Calls Tryd.prog 8 #[.int .i64 t] w fun e w' => e = .returned (.bool true) ∧ Below w.heap.size w w' := by
  cases ht : timeB t
  · exact exactDateOf_at t 0 0 0 0 0 0 w hT (fun w => specDateOf_out t w ht) (fun w _ => implDateOf_out t w ht)
  · have hb := inB_iff.1 ht
    obtain ⟨x, hx, rfl⟩ := dt_some t hb.1 hb.2
    exact exactDateOf_at x.time x.y x.mo x.d x.h x.mi x.s w hT (fun w => specDateOfX x hx w) (fun w hT => implDateOf x hx w hT)
end Go.Proofs.YthcofpkppienaaaDoor
