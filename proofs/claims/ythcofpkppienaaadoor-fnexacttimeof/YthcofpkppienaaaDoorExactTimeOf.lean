/- Proved: laws.FnExactTimeOf answers true at every date, right or not: impl.TimeOf answers as spec.TimeOf does. The listed table of the months' lengths is tied to the program's text; the card speaks of the pruned copy of the project that the seat holds. -/
import Derived.Test.YthcofpkppienaaaDoorImplDays
import Derived.Test.YthcofpkppienaaaDoorDateArg
namespace Go.Proofs.YthcofpkppienaaaDoor
open Go.RowKit
/-- The cells of a date that was boxed first of all. -/
theorem boxTimeOf_cell {w W : World} {y mo d h mi s : Int} (hb : Below (w.heap.size + 1) (w.alloc (.cells #[.int .i64 y, .int .i64 mo, .int .i64 d, .int .i64 h, .int .i64 mi, .int .i64 s] 35)) W) (j : Nat) :
    W.cell? ⟨w.heap.size, j, none⟩ = (#[.int .i64 y, .int .i64 mo, .int .i64 d, .int .i64 h, .int .i64 mi, .int .i64 s] : Array Value)[j]? :=
  (hb.cell (p := ⟨w.heap.size, j, none⟩) (Nat.lt_succ_self _)).trans (World.cell?_alloc_at _ _ _ j rfl)
set_option maxRecDepth 100000 in
set_option maxHeartbeats 1000000 in
theorem walkExactTimeOf (y mo d h mi s : Int) (w : World) (hT : Tabs w) :
    Calls Tryd.prog 9 #[.agg #[.int .i64 y, .int .i64 mo, .int .i64 d, .int .i64 h, .int .i64 mi, .int .i64 s]] w fun e w' => e = .returned (.bool true) ∧ Below w.heap.size w w' := by
  have HT := Lib.hid hT
  clear hT
  go_enter Tryd.func9, Tryd.ntmps9
  go_wp2_with fail
  refine (toDate _ _ _ _ _ _ _).mono ?_
  rintro e w1 ⟨rfl, hb1⟩
  go_wp2_with fail
  refine (specTimeOf _ _ _ _ _ _ _).mono ?_
  rintro e w2 ⟨rfl, hb2⟩
  have hB : Below (w.heap.size + 1) (w.alloc (.cells #[.int .i64 y, .int .i64 mo, .int .i64 d, .int .i64 h, .int .i64 mi, .int .i64 s] 35)) w2 := (hb1.trans (hb2.mono hb1.size)).mono (by simp)
  have c0 := boxTimeOf_cell hB 0
  have c1 := boxTimeOf_cell hB 1
  have c2 := boxTimeOf_cell hB 2
  have c3 := boxTimeOf_cell hB 3
  have c4 := boxTimeOf_cell hB 4
  have c5 := boxTimeOf_cell hB 5
  simp at c0 c1 c2 c3 c4 c5
  have HB := Lib.hid hB
  clear hB hb1 hb2
  go_wp2_with fail
  refine (toDate _ _ _ _ _ _ _).mono ?_
  rintro e w3 ⟨rfl, hb3⟩
  have hbb : Below w.heap.size w w3 := (((Below.refl w.heap.size w).alloc (Nat.le_refl _) _).trans (HB.out.mono (Nat.le_succ _))).trans (hb3.mono (by have := HB.out.size; simp at this; omega))
  have HBB := Lib.hid hbb
  clear hbb hb3
  go_wp2_with fail
  refine (implTimeOf _ _ _ _ _ _ _ (HT.out.on HBB.out)).mono ?_
  rintro e w4 ⟨rfl, hb4⟩
  generalize timeV y mo d h mi s = v
  go_wp2
  go_ret
  exact ⟨rfl, HBB.out.trans (hb4.mono HBB.out.size)⟩
end Go.Proofs.YthcofpkppienaaaDoor
