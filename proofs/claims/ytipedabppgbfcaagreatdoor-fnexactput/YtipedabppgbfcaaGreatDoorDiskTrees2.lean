/- laws.toDisk tells a row of ops that is never nil. -/
import Derived.Test.YtipedabppgbfcaaGreatDoorK36
import Derived.Test.YtipedabppgbfcaaGreatDoorOpRows2
set_option linter.all false
namespace Go.Proofs.YtipedabppgbfcaaGreatDoor
open Go.RowKit

set_option maxRecDepth 100000 in
set_option maxHeartbeats 4000000 in
theorem toDiskB (w : World) (a : Option Addr) (len cap : Nat) (ns : List Nd) (next : Int) (ob : Option Addr) (ol oc : Nat) (os : List Ov) (h : NIn w a len cap ns) (ho : OpR.NIn w ob ol oc os) (hl : len ≤ 1048576) (hol : ol ≤ 1048576) :
    Calls Tryz.prog 49 #[.agg #[.slice a len cap, .int .i64 next, .slice ob ol oc]] w fun e w' => ∃ v g c, e = .returned (.agg #[v, .int .i64 next, .slice (some ⟨g, 0, none⟩) os.length c]) ∧ NRow w' w.heap.size v ns ∧ OpR.NRow w' w.heap.size (.slice (some ⟨g, 0, none⟩) os.length c) os ∧ Below w.heap.size w w' := by
  obtain ⟨wa, hwa⟩ : ∃ W, w.alloc (.cells #[.slice a len cap, .int .i64 next, .slice ob ol oc] 71) = W := ⟨_, rfl⟩
  obtain ⟨wb, hwb⟩ : ∃ W, wa.alloc (.cells #[.slice none 0 0, .int .i64 0, .slice none 0 0] 44) = W := ⟨_, rfl⟩
  obtain ⟨wc, hwc⟩ : ∃ W, wb.alloc (.cells #[.slice none 0 0, .int .i64 0, .slice none 0 0] 44) = W := ⟨_, rfl⟩
  have hsa : wa.heap.size = w.heap.size + 1 := by rw [← hwa]; simp
  have hsb : wb.heap.size = w.heap.size + 2 := by rw [← hwb]; simp [hsa]
  have hsc : wc.heap.size = w.heap.size + 3 := by rw [← hwc]; simp [hsb]
  have ba : Below w.heap.size w wa := by rw [← hwa]; exact (Below.refl _ _).alloc (Nat.le_refl _) _
  have bb : Below wa.heap.size wa wb := by rw [← hwb]; exact (Below.refl _ _).alloc (Nat.le_refl _) _
  have bc : Below wb.heap.size wb wc := by rw [← hwc]; exact (Below.refl _ _).alloc (Nat.le_refl _) _
  have HX := Lib.hid (((show Blk wa w.heap.size #[.slice a len cap, .int .i64 next, .slice ob ol oc] 71 by rw [← hwa]; exact Blk.new _ _ _).on bb).on bc)
  have HY := Lib.hid ((show Blk wb (w.heap.size + 1) #[.slice none 0 0, .int .i64 0, .slice none 0 0] 44 by rw [← hwb, ← hsa]; exact Blk.new _ _ _).on bc)
  have HZ := Lib.hid (show Blk wc (w.heap.size + 2) #[.slice none 0 0, .int .i64 0, .slice none 0 0] 44 by rw [← hwc, ← hsb]; exact Blk.new _ _ _)
  have HB := Lib.hid ((ba.trans (bb.mono (by omega))).trans (bc.mono (by omega)))
  have CS := toTree wc a len cap ns next (h.on HB.out) hl
  have HO := Lib.hid (fun W (hb : Below w.heap.size w W) => OpR.toOpSb W ob ol oc os (ho.on hb) hol)
  have t0 := HX.out.cell 0
  have t1 := HX.out.cell 1
  simp at t0 t1
  clear h ho ba bb bc
  go_enter Tryz.func49, Tryz.ntmps49
  go_wp2_with (go_at_call 39; refine CS.mono ?_; rintro e W1 ⟨v1, rfl, hR1, hb1⟩; (obtain ⟨a1, k1, rfl⟩ := hR1.shape); (have HB1 := Lib.hid (HB.out.trans (hb1.mono HB.out.size))); (have HR1 := Lib.hid (hR1.base (B' := w.heap.size + 3) (by omega))); (have HX1 := Lib.hid (HX.out.on hb1)); (have HY1 := Lib.hid (HY.out.on hb1)); (have HZ1 := Lib.hid (HZ.out.on hb1)); (have z0 := (HZ.out.on hb1).cell 0); (have z1 := (HZ.out.on hb1).cell 1); (have fz := fun j => (HZ.out.on hb1).frozen j); (have x2 := (HX.out.on hb1).cell 2); simp at z0 z1 x2; clear hb1 hR1 t0 t1)
  have hs1 := HB1.out.size
  have hx1 := HZ1.out.lt
  have HW2 := Lib.hid (show Below w.heap.size w ((W1.setCell ⟨w.heap.size + 2, 0, none⟩ (.slice a1 ns.length k1)).setCell ⟨w.heap.size + 2, 1, none⟩ (.int .i64 next)) from (HB1.out.setCell (p := ⟨w.heap.size + 2, 0, none⟩) (by show w.heap.size ≤ w.heap.size + 2; omega) _).setCell (p := ⟨w.heap.size + 2, 1, none⟩) (by show w.heap.size ≤ w.heap.size + 2; omega) _)
  have HZ2 := Lib.hid ((HZ1.out.set 0 (.slice a1 ns.length k1)).set 1 (.int .i64 next))
  have HY2 := Lib.hid ((HY1.out.other ⟨w.heap.size + 2, 0, none⟩ (.slice a1 ns.length k1) (by show w.heap.size + 1 ≠ w.heap.size + 2; omega)).other ⟨w.heap.size + 2, 1, none⟩ (.int .i64 next) (by show w.heap.size + 1 ≠ w.heap.size + 2; omega))
  have HR2 := Lib.hid ((HR1.out.other ⟨w.heap.size + 2, 0, none⟩ (.slice a1 ns.length k1) (by show w.heap.size + 2 < w.heap.size + 3; omega)).other ⟨w.heap.size + 2, 1, none⟩ (.int .i64 next) (by show w.heap.size + 2 < w.heap.size + 3; omega))
  refine (HO.out _ HW2.out).mono ?_
  rintro e W3 ⟨a3, k3, rfl, hR3, hb3⟩
  have HB3 := Lib.hid (HW2.out.trans (hb3.mono HW2.out.size))
  have HZ3 := Lib.hid (HZ2.out.on hb3)
  have HY3 := Lib.hid (HY2.out.on hb3)
  have HR3 := Lib.hid (HR2.out.on hb3)
  have HO3 := Lib.hid (hR3.base (B' := w.heap.size + 3) (by simp; omega))
  have y0 := HY3.out.cell 0
  have y1 := HY3.out.cell 1
  have y2 := HY3.out.cell 2
  have fy := fun j => HY3.out.frozen j
  have z0 := HZ3.out.cell 0
  have z1 := HZ3.out.cell 1
  have z2 := HZ3.out.cell 2
  have fz := fun j => HZ3.out.frozen j
  simp at y0 y1 y2 z0 z1 z2
  clear hb3 hR3
  go_wp2
  refine bodyPost_ret (v := .agg #[.slice a1 ns.length k1, .int .i64 next, .slice (some ⟨a3, 0, none⟩) os.length k3]) ?_ rfl ⟨_, _, _, rfl, ?_, ?_, ?_⟩
  · simp [results, Tryz.results49, go_sem, y0, y1, y2, z0, z1, z2]
  · refine NRow.base (B := w.heap.size + 3) ?_ (by omega)
    iterate 4 (refine NRow.other ?_ _ _ (by simp))
    exact HR3.out
  · refine OpR.NRow.base (B := w.heap.size + 3) ?_ (by omega)
    iterate 4 (refine OpR.NRow.other ?_ _ _ (by simp))
    exact HO3.out
  · iterate 4 (refine Below.setCell ?_ (by simp <;> omega) _)
    exact HB3.out
end Go.Proofs.YtipedabppgbfcaaGreatDoor
