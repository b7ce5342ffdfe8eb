/- The listed tables are never read on the roads that these laws take: nothing is asked of them. spec.NewDisk, l08Copy. -/
import Derived.Test.YtipedabppgbfcaaGreatDoorK1
import Derived.LaidMore
import Derived.Test.YtipedabppgbfcaaGreatDoorK44
set_option linter.all false
namespace Go.Proofs.YtipedabppgbfcaaGreatDoor
open Go.RowKit
def Tabs4 (_ : World) : Prop := True
theorem tabs_of4 {l : List (String × DataW Unit)} {W : World} (_ : laidMetH Tryz.prog l W) : Tabs4 W := trivial
end Go.Proofs.YtipedabppgbfcaaGreatDoor
namespace Go.Proofs.YtipedabppgbfcaaGreatDoor
open Go.RowKit

set_option maxRecDepth 100000 in
set_option maxHeartbeats 4000000 in
theorem specNewDisk (w : World) (B : Nat) (v : Value) (ns : List Nd) (next : Int) (h : NRow w B v ns) (hl : ns.length ≤ 1048576) (hz : ∀ n ∈ ns, n.path.length ≤ 2000000 ∧ n.data.length ≤ 2000000) :
    Calls Tryz.prog 51 #[.agg #[v, .int .i64 next]] w fun e w' => ∃ v' u, e = .returned (.agg #[v', .int .i64 (newDisk ⟨ns, next⟩).s.next, u]) ∧ DRow w' w.heap.size v' u (newDisk ⟨ns, next⟩).s.ns (newDisk ⟨ns, next⟩).os ∧ Below w.heap.size w w' := by
  have hk0 := row_nocap h
  have H := Lib.hid h
  obtain ⟨a1, k1, rfl⟩ := h.shape
  obtain ⟨wa, hwa⟩ : ∃ W, w.alloc (.cells #[.slice a1 ns.length k1, .int .i64 next] 26) = W := ⟨_, rfl⟩
  have hsa : wa.heap.size = w.heap.size + 1 := by rw [← hwa]; simp
  have ba : Below w.heap.size w wa := by rw [← hwa]; exact (Below.refl _ _).alloc (Nat.le_refl _) _
  have HX := Lib.hid (show Blk wa w.heap.size #[.slice a1 ns.length k1, .int .i64 next] 26 by rw [← hwa]; exact Blk.new _ _ _)
  obtain ⟨wb, hwb⟩ : ∃ W, wa.alloc (.cells #[.slice none 0 0, .int .i64 0, .slice none 0 0] 44) = W := ⟨_, rfl⟩
  have hsb : wb.heap.size = w.heap.size + 2 := by rw [← hwb]; simp [hsa]
  have bb : Below wa.heap.size wa wb := by rw [← hwb]; exact (Below.refl _ _).alloc (Nat.le_refl _) _
  have HRB := Lib.hid (show Blk wb (w.heap.size + 1) #[.slice none 0 0, .int .i64 0, .slice none 0 0] 44 by rw [← hwb, ← hsa]; exact Blk.new _ _ _)
  have HB := Lib.hid (ba.trans (bb.mono ba.size))
  have K := Lib.hid (show ∀ V, Below wb.heap.size wb V → V.cell? ⟨w.heap.size, 0, none⟩ = some (.slice a1 ns.length k1) ∧ V.cell? ⟨w.heap.size, 1, none⟩ = some (.int .i64 next) from fun V hb => by
    have hx := (HX.out.on bb).on hb
    exact ⟨hx.cell 0, hx.cell 1⟩)
  have CT := specTreeOk wb _ ns next (H.out.on HB.out).rd hz
  have CC := Lib.hid (fun W (hb : Below wb.heap.size wb W) => specCopy W _ ns next ((H.out.on HB.out).on hb).rd hk0 hl)
  obtain ⟨t0, t1⟩ := K.out _ (Below.refl _ _)
  clear h ba bb
  cases ht : treeB ns next with
  | false =>
    rw [ht] at CT
    have HE := Lib.hid (show newDisk ⟨ns, next⟩ = noDisk by unfold newDisk; rw [if_neg (by rw [ht]; decide)])
    clear CC ht
    go_enter Tryz.func51, Tryz.ntmps51
    go_wp2_with (go_at_call 19; refine CT.mono ?_; rintro e W1 ⟨rfl, hb1⟩; (have HB1 := Lib.hid (HB.out.trans (hb1.mono HB.out.size))); (have r0 := (HRB.out.on hb1).cell 0); (have r1 := (HRB.out.on hb1).cell 1); (have r2 := (HRB.out.on hb1).cell 2); (have f0 := (HRB.out.on hb1).frozen 0); (have f1 := (HRB.out.on hb1).frozen 1); (have f2 := (HRB.out.on hb1).frozen 2); simp at r0 r1 r2; clear hb1)
    refine bodyPost_ret (v := .agg #[.slice none 0 0, .int .i64 0, .slice none 0 0]) ?_ rfl ⟨_, _, by rw [HE.out]; rfl, by rw [HE.out]; exact ⟨NRow.nil _ _, OpR.NRow.nil _ _⟩, ?_⟩
    · simp [results, Tryz.results51, go_sem, r0, r1, r2]
    · iterate 3 (refine Below.setCell ?_ (by simp) _)
      exact HB1.out
  | true =>
    rw [ht] at CT
    have HE := Lib.hid (show newDisk ⟨ns, next⟩ = ⟨⟨ns, next⟩, []⟩ by unfold newDisk; rw [if_pos ht])
    clear ht
    go_enter Tryz.func51, Tryz.ntmps51
    go_wp2_with (go_at_call 19; refine CT.mono ?_; rintro e W1 ⟨rfl, hb1⟩; (have HB1 := Lib.hid hb1); clear hb1 CT t0 t1; (obtain ⟨t0, t1⟩ := K.out _ HB1.out))
    refine (CC.out _ HB1.out).mono ?_
    rintro e W2 ⟨v5, rfl, hR5, hb2⟩
    obtain ⟨a5, k5, rfl⟩ := hR5.shape
    have HR5 := Lib.hid hR5
    have HB2 := Lib.hid ((HB.out.trans (HB1.out.mono HB.out.size)).trans (hb2.mono (by have := HB1.out.size; omega)))
    have HRB2 := Lib.hid ((HRB.out.on HB1.out).on hb2)
    have r0 := HRB2.out.cell 0
    have r1 := HRB2.out.cell 1
    have r2 := HRB2.out.cell 2
    have f0 := HRB2.out.frozen 0
    have f1 := HRB2.out.frozen 1
    have f2 := HRB2.out.frozen 2
    simp at r0 r1 r2
    have hs1 := HB1.out.size
    clear hb2 hR5 CC
    go_wp2
    refine bodyPost_ret (v := .agg #[.slice a5 ns.length k5, .int .i64 next, .slice none 0 0]) ?_ rfl ⟨.slice a5 ns.length k5, .slice none 0 0, by rw [HE.out], ?_, ?_⟩
    · simp [results, Tryz.results51, go_sem, r0, r1, r2]
    · rw [HE.out]
      refine ⟨?_, OpR.NRow.nil _ _⟩
      refine NRow.base (B := W1.heap.size) ?_ (by omega)
      iterate 3 (refine NRow.other ?_ _ _ (by show w.heap.size + 1 < W1.heap.size; omega))
      exact HR5.out
    · iterate 3 (refine Below.setCell ?_ (by simp) _)
      exact HB2.out

end Go.Proofs.YtipedabppgbfcaaGreatDoor
