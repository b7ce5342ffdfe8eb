/- impl.DoAll of any list. -/
import Derived.Test.YtipedabppgbfcaaGreatDoorK43
import Derived.Test.YtipedabppgbfcaaGreatDoorClone
set_option linter.all false
namespace Go.Proofs.YtipedabppgbfcaaGreatDoor
open Go.RowKit

set_option maxRecDepth 100000 in
set_option maxHeartbeats 2000000 in
theorem implDoAll (w : World) (v v2 : Value) (ns : List Nd) (next : Int) (os : List Ov) (h : NRd w v ns) (hk0 : ∀ n c, v = .slice none n c → c = 0) (hl : ns.length ≤ 1048576) (ho : OpR.NRd w v2 os) (hol : os.length ≤ 2000000) (hz : ∀ n ∈ ns, n.path.length ≤ 2000000 ∧ n.data.length ≤ 2000000) (hoz : ∀ o ∈ os, o.path.length ≤ 2000000 ∧ o.dest.length ≤ 2000000 ∧ o.data.length ≤ 2000000) :
    Calls Tryz.prog 25 #[.agg #[v, .int .i64 next], v2] w fun e w' => ∃ v', e = .returned (.tuple #[.agg #[v', .int .i64 (doAllV ⟨ns, next⟩ os).1.next], .int .i64 (doAllV ⟨ns, next⟩ os).2.1, .int .i64 (doAllV ⟨ns, next⟩ os).2.2]) ∧ NRow w' w.heap.size v' (doAllV ⟨ns, next⟩ os).1.ns ∧ Below w.heap.size w w' := by
  by_cases hne : os = []
  rotate_left
  · exact implDoAllN w v v2 ns next os h (ord_of ho hne) hne hol hz hoz
  subst hne
  simp only [all_nil]
  obtain ⟨a2, k2, rfl, _⟩ := ho
  obtain ⟨a1, k1, rfl⟩ : ∃ a c, v = .slice a ns.length c := by obtain ⟨a, c, h, _⟩ := h; exact ⟨a, c, h⟩
  obtain ⟨wa, hwa⟩ : ∃ wa, w.alloc (.cells #[.slice a1 ns.length k1, .int .i64 next] 26) = wa := ⟨_, rfl⟩
  obtain ⟨wb, hwb⟩ : ∃ wb, wa.alloc (.cells #[.slice none 0 0, .int .i64 0] 26) = wb := ⟨_, rfl⟩
  have hsa : wa.heap.size = w.heap.size + 1 := by rw [← hwa]; simp
  have hsb : wb.heap.size = w.heap.size + 2 := by rw [← hwb]; simp [hsa]
  have ba : Below w.heap.size w wa := by rw [← hwa]; exact (Below.refl _ _).alloc (Nat.le_refl _) _
  have bb : Below wa.heap.size wa wb := by rw [← hwb]; exact (Below.refl _ _).alloc (Nat.le_refl _) _
  have HT := Lib.hid ((show Blk wa w.heap.size #[.slice a1 ns.length k1, .int .i64 next] 26 by rw [← hwa]; exact Blk.new _ _ _).on bb)
  have HRB := Lib.hid (show Blk wb (w.heap.size + 1) #[.slice none 0 0, .int .i64 0] 26 by rw [← hwb, ← hsa]; exact Blk.new _ _ _)
  have HB := Lib.hid (ba.trans (bb.mono ba.size))
  have CC := Lib.hid (fun W (hb : Below wb.heap.size wb W) => implClone W (.slice a1 ns.length k1) ns ((h.on HB.out).on hb) hk0 hl)
  have t0 := HT.out.cell 0
  have t1 := HT.out.cell 1
  simp at t0 t1
  clear h ba bb
  go_enter Tryz.func25, Tryz.ntmps25
  go_wp2_with fail
  go_region_with (go_at_call 72; refine (CC.out _ (Below.refl _ _).drew).mono ?_; rintro e W1 ⟨v5, rfl, hR5, hb5⟩; (obtain ⟨a5, k5, rfl⟩ := hR5.shape); (have HB1 := Lib.hid (show Below wb.heap.size wb W1 from (Below.refl _ _).drew.trans hb5)); (have HR5 := Lib.hid (hR5.base (B' := wb.heap.size) (by simp))); (have x0 := (HT.out.on HB1.out).cell 0); (have x1 := (HT.out.on HB1.out).cell 1); (have r0 := (HRB.out.on HB1.out).cell 0); (have r1 := (HRB.out.on HB1.out).cell 1); (have f0 := (HRB.out.on HB1.out).frozen 0); (have f1 := (HRB.out.on HB1.out).frozen 1); simp at x0 x1 r0 r1; clear hR5 hb5)
  all_goals
    go_wp2
    refine bodyPost_ret (v := .tuple #[.agg #[.slice a5 ns.length k5, .int .i64 next], .int .i64 0, .int .i64 0]) ?_ rfl ⟨.slice a5 ns.length k5, rfl, ?_, ?_⟩
    · simp [results, Tryz.results25, go_sem, r0, r1]
    · refine NRow.base (B := wb.heap.size) ?_ (by omega)
      iterate 2 (refine NRow.other ?_ _ _ (by show w.heap.size + 1 < wb.heap.size; omega))
      exact HR5.out
    · iterate 2 (refine Below.setCell ?_ (by show w.heap.size ≤ w.heap.size + 1; omega) _)
      exact HB.out.trans (HB1.out.mono HB.out.size)
end Go.Proofs.YtipedabppgbfcaaGreatDoor
