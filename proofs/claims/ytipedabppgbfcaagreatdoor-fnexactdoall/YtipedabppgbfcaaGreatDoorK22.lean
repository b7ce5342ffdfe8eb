/- The contract of spec.l07Change: OpAdd, OpCut, OpMode, OpTouch. Contracts of spec.l07Busy and spec.l07Copy. -/
import Derived.Test.YtipedabppgbfcaaGreatDoorK19
import Derived.Test.YtipedabppgbfcaaGreatDoorK21
import Derived.Test.YtipedabppgbfcaaGreatDoorK6
import Derived.Test.YtipedabppgbfcaaGreatDoorK9
import Derived.Deep.RegionLaw
import Derived.Deep.AppendLies
set_option linter.all false
namespace Go.Proofs.YtipedabppgbfcaaGreatDoor
open Go.RowKit

theorem change_ok {t : Tv} {o : Ov} {i : Nat} {n m : Nd} (h : findV o.path t.ns = some i) (hi : t.ns[i]? = some n) (hc : changeN o n = (m, 0)) : changeV t o = (⟨t.ns.set i m, t.next⟩, 0) := by
  unfold changeV; rw [h]; simp only [hi, hc, if_true]
theorem change_bad {t : Tv} {o : Ov} {i : Nat} {n m : Nd} {c : Int} (h : findV o.path t.ns = some i) (hi : t.ns[i]? = some n) (hc : changeN o n = (m, c)) (h0 : c ≠ 0) : changeV t o = (t, c) := by
  unfold changeV; rw [h]; simp only [hi, hc, if_neg h0]

set_option maxRecDepth 100000 in
set_option maxHeartbeats 8000000 in
theorem specChange (w : World) (v : Value) (t : Tv) (o : Ov) (i : Nat) (h : NRd w v t.ns) (hk0 : ∀ n c, v = .slice none n c → c = 0) (hl : t.ns.length ≤ 1048576) (hf : findV o.path t.ns = some i) (hi : i < t.ns.length) (hd : o.data.length ≤ 2000000) (hz : ∀ n ∈ t.ns, n.data.length ≤ 2000000) :
    Calls Tryz.prog 102 #[.agg #[v, .int .i64 t.next], .agg #[.int .i64 o.kind, .string (strOf o.path), .string (strOf o.dest), .string (strOf o.data), .int .i64 o.mode, .int .i64 o.time]] w fun e w' => ∃ v', e = .returned (.tuple #[.agg #[v', .int .i64 (changeV t o).1.next], .int .i64 (changeV t o).2]) ∧ (∀ n c, v' = .slice none n c → c = 0) ∧ NRd w' v' (changeV t o).1.ns ∧ Below w.heap.size w w' := by
  obtain ⟨ns, next⟩ := t
  obtain ⟨kind, path, dest, data, mode, time⟩ := o
  simp only at h hl hf hi hd hz ⊢
  have HK := Lib.hid hk0
  obtain ⟨a1, k1, rfl⟩ : ∃ a c, v = .slice a ns.length c := by obtain ⟨a, c, h, _⟩ := h; exact ⟨a, c, h⟩
  obtain ⟨np, nb, nm, nt, nid, ndt, hnd⟩ : ∃ np nb nm nt nid ndt, ns[i] = ⟨np, nb, nm, nt, nid, ndt⟩ := ⟨_, _, _, _, _, _, rfl⟩
  have hget : ns[i]? = some ⟨np, nb, nm, nt, nid, ndt⟩ := by rw [List.getElem?_eq_getElem hi, hnd]
  have hdl : ndt.length ≤ 2000000 := hz ⟨np, nb, nm, nt, nid, ndt⟩ (by rw [← hnd]; exact List.getElem_mem hi)
  have HFI := Lib.hid hf
  have HGET := Lib.hid hget
  obtain ⟨wa, hwa⟩ : ∃ wa, w.alloc (.cells #[.slice a1 ns.length k1, .int .i64 next] 26) = wa := ⟨_, rfl⟩
  obtain ⟨wb, hwb⟩ : ∃ wb, wa.alloc (.cells #[.int .i64 kind, .string (strOf path), .string (strOf dest), .string (strOf data), .int .i64 mode, .int .i64 time] 28) = wb := ⟨_, rfl⟩
  obtain ⟨wd, hwd⟩ : ∃ wd, wb.alloc (.cells #[.slice none 0 0, .int .i64 0] 26) = wd := ⟨_, rfl⟩
  have hsa : wa.heap.size = w.heap.size + 1 := by rw [← hwa]; simp
  have hsb : wb.heap.size = w.heap.size + 2 := by rw [← hwb]; simp [hsa]
  have hsd : wd.heap.size = w.heap.size + 3 := by rw [← hwd]; simp [hsb]
  have ba : Below w.heap.size w wa := by rw [← hwa]; exact (Below.refl _ _).alloc (Nat.le_refl _) _
  have bb : Below wa.heap.size wa wb := by rw [← hwb]; exact (Below.refl _ _).alloc (Nat.le_refl _) _
  have bd : Below wb.heap.size wb wd := by rw [← hwd]; exact (Below.refl _ _).alloc (Nat.le_refl _) _
  have TD := Lib.hid (show Blk wd w.heap.size #[.slice a1 ns.length k1, .int .i64 next] 26 from ((show Blk wa w.heap.size #[.slice a1 ns.length k1, .int .i64 next] 26 by rw [← hwa]; exact Blk.new _ _ _).on bb).on bd)
  have OD := Lib.hid (show Blk wd (w.heap.size + 1) #[.int .i64 kind, .string (strOf path), .string (strOf dest), .string (strOf data), .int .i64 mode, .int .i64 time] 28 from (show Blk wb (w.heap.size + 1) _ 28 by rw [← hwb, ← hsa]; exact Blk.new _ _ _).on bd)
  have RD := Lib.hid (show Blk wd (w.heap.size + 2) #[.slice none 0 0, .int .i64 0] 26 by rw [← hwd, ← hsb]; exact Blk.new _ _ _)
  have HWD := Lib.hid ((ba.trans (bb.mono (by omega))).trans (bd.mono (by omega)))
  have HN0 := Lib.hid h
  have CC := specCopy wd _ ns next (h.on HWD.out) hk0 hl
  rw [hsd] at CC
  have t0 := TD.out.cell 0
  have t1 := TD.out.cell 1
  simp at t0 t1
  clear h ba bb bd hf hget hnd hk0 hz
  go_enter Tryz.func102, Tryz.ntmps102
  go_wp2_with fail
  refine CC.mono ?_
  rintro e W1 ⟨v1, rfl, hR1, hb1⟩
  obtain ⟨g, k2, rfl, hg1, hg2, _, _⟩ : ∃ g k2, v1 = .slice (some ⟨g, 0, none⟩) ns.length k2 ∧ w.heap.size + 3 ≤ g ∧ g < W1.heap.size ∧ ns.length ≤ k2 ∧ k2 ≤ maxLen := by
    rcases hR1.form with ⟨_, e⟩ | ⟨g, cap, e, h1, h2, _, _, h3, h4⟩
    · subst e; simp at hi
    · exact ⟨g, cap, e, h1, h2, h3, h4⟩
  obtain ⟨W2, hW2⟩ : ∃ W2, W1.alloc (.cells #[.slice (some ⟨g, 0, none⟩) ns.length k2, .int .i64 next] 26) = W2 := ⟨_, rfl⟩
  have b2 : Below W1.heap.size W1 W2 := by rw [← hW2]; exact (Below.refl _ _).alloc (Nat.le_refl _) _
  have hs1 := hb1.size
  have hs2 : W2.heap.size = W1.heap.size + 1 := by rw [← hW2]; simp
  have X2 := Lib.hid (show Blk W2 W1.heap.size #[.slice (some ⟨g, 0, none⟩) ns.length k2, .int .i64 next] 26 by rw [← hW2]; exact Blk.new _ _ _)
  have hbd2 : Below wd.heap.size wd W2 := (hb1.mono (by omega)).trans (b2.mono (by omega))
  have T2 := Lib.hid (TD.out.on hbd2)
  have O2 := Lib.hid (OD.out.on hbd2)
  have R2 := Lib.hid (RD.out.on hbd2)
  have HW2 := Lib.hid (HWD.out.trans (hbd2.mono HWD.out.size))
  have HR2 := Lib.hid (hR1.on b2)
  have CF := specFind W2 _ ns next path HR2.out.rd
  have x0 := X2.out.cell 0
  have x1 := X2.out.cell 1
  have o1 := O2.out.cell 1
  simp at x0 x1 o1
  clear hb1 hR1 b2 hbd2 CC t0 t1
  go_wp2_with fail
  refine CF.mono ?_
  rintro e W3 ⟨rfl, hb3⟩
  have hfi : findI path ns = i := by unfold findI; rw [HFI.out]
  rw [hfi]
  have hs3 := hb3.size
  obtain ⟨W4, hW4⟩ : ∃ W4, W3.alloc (.cells #[.string (strOf np), .bool nb, .int .i64 nm, .int .i64 nt, .int .i64 nid, .string (strOf ndt)] 37) = W4 := ⟨_, rfl⟩
  have b4 : Below W3.heap.size W3 W4 := by rw [← hW4]; exact (Below.refl _ _).alloc (Nat.le_refl _) _
  have HX3 := Lib.hid (X2.out.on hb3)
  have hR3 := HR2.out.on hb3
  have N4 := Lib.hid (show Blk W4 W3.heap.size #[.string (strOf np), .bool nb, .int .i64 nm, .int .i64 nt, .int .i64 nid, .string (strOf ndt)] 37 by rw [← hW4]; exact Blk.new _ _ _)
  have hb24 : Below W2.heap.size W2 W4 := hb3.trans (b4.mono (by omega))
  have T4 := Lib.hid (T2.out.on hb24)
  have O4 := Lib.hid (O2.out.on hb24)
  have R4 := Lib.hid (R2.out.on hb24)
  have X4 := Lib.hid (X2.out.on hb24)
  have HW4 := Lib.hid (HW2.out.trans (hb24.mono HW2.out.size))
  have HR4 := Lib.hid (HR2.out.on hb24)
  obtain ⟨hn3, hn4, hfz⟩ : NdAt W3 g (i * 6) ⟨np, nb, nm, nt, nid, ndt⟩ ∧ NdAt W4 g (i * 6) ⟨np, nb, nm, nt, nid, ndt⟩ ∧ ∀ j, W4.frozen? ⟨g, j, none⟩ = false := by
    have h4 := hR3.on b4
    rcases hR3.form with ⟨e, _⟩ | ⟨g', cap, e, _, hg3, hc, _, _, _⟩
    · cases e
    · cases e
      rcases h4.form with ⟨e, _⟩ | ⟨g'', cap, e, _, _, hc4, hfz, _, _⟩
      · cases e
      · cases e
        have hx : ns[i] = ⟨np, nb, nm, nt, nid, ndt⟩ := Option.some.inj ((List.getElem?_eq_getElem hi).symm.trans HGET.out)
        exact ⟨hx ▸ hc i hi, hx ▸ hc4 i hi, hfz⟩
  have x0 := HX3.out.cell 0
  have x1 := HX3.out.cell 1
  simp at x0 x1
  have hiI : (i : Int) < (ns.length : Int) := by omega
  have m0 := hn3.c0
  have m1 := hn3.c1
  have m2 := hn3.c2
  have m3 := hn3.c3
  have m4 := hn3.c4
  have m5 := hn3.c5
  simp only at m0 m1 m2 m3 m4 m5
  have HN4 := Lib.hid (And.intro hn4 hfz)
  have hgl : g < W1.heap.size := hg2
  clear hb3 hR3 b4 hb24 hn3 hn4 hfz CF hfi o1
  by_cases h6 : kind = 6
  · subst h6
    have HC : changeN ⟨6, path, dest, data, mode, time⟩ ⟨np, nb, nm, nt, nid, ndt⟩ = (⟨np, nb, mode, nt, nid, ndt⟩, 0) := rfl
    have x0 := X4.out.cell 0
    have x1 := X4.out.cell 1
    have r0 := R4.out.cell 0
    have r1 := R4.out.cell 1
    have q0 := R4.out.frozen 0
    have q1 := R4.out.frozen 1
    have o0 := O4.out.cell 0
    have o3 := O4.out.cell 3
    have o4 := O4.out.cell 4
    have o5 := O4.out.cell 5
    have n0 := N4.out.cell 0
    have n1 := N4.out.cell 1
    have n2 := N4.out.cell 2
    have n3 := N4.out.cell 3
    have n4 := N4.out.cell 4
    have n5 := N4.out.cell 5
    have f2 := N4.out.frozen 2
    have f3 := N4.out.frozen 3
    have f5 := N4.out.frozen 5
    have c0 := HN4.out.1.c0
    have c1 := HN4.out.1.c1
    have c2 := HN4.out.1.c2
    have c3 := HN4.out.1.c3
    have c4 := HN4.out.1.c4
    have c5 := HN4.out.1.c5
    have e0 := HN4.out.2 (i * 6)
    have e1 := HN4.out.2 (i * 6 + 1)
    have e2 := HN4.out.2 (i * 6 + 2)
    have e3 := HN4.out.2 (i * 6 + 3)
    have e4 := HN4.out.2 (i * 6 + 4)
    have e5 := HN4.out.2 (i * 6 + 5)
    simp at x0 x1 r0 r1 o0 o3 o4 o5 n0 n1 n2 n3 n4 n5 c0 c1 c2 c3 c4 c5
    have HV := Lib.hid (change_ok (m := ⟨np, nb, mode, nt, nid, ndt⟩) (t := ⟨ns, next⟩) HFI.out HGET.out HC)
    go_wp2
    refine bodyPost_ret (v := .tuple #[.agg #[.slice (some ⟨g, 0, none⟩) ns.length k2, .int .i64 next], .int .i64 0]) ?_ rfl ⟨.slice (some ⟨g, 0, none⟩) ns.length k2, by rw [HV.out], (fun _ _ e => by cases e), ?_, ?_⟩
    · simp [results, Tryz.results102, go_sem, r0, r1]
    · rw [HV.out]
      have hN0 := HR4.out
      have hN1 := hN0.ne ⟨W3.heap.size, 2, none⟩ (.int .i64 mode) (fun e => by have : g = W3.heap.size := Option.some.inj e; omega)
      exact (((hN1.put i hi ⟨np, nb, mode, nt, nid, ndt⟩).other ⟨w.heap.size + 2, 0, none⟩ _ (by simp)).other ⟨w.heap.size + 2, 1, none⟩ _ (by simp)).rd
    · iterate 9 (refine Below.setCell ?_ (by simp <;> omega) _)
      exact HW4.out
  have h6b : (kind == 6) = false := by simpa using h6
  by_cases h7 : kind = 7
  · subst h7
    have HC : changeN ⟨7, path, dest, data, mode, time⟩ ⟨np, nb, nm, nt, nid, ndt⟩ = (⟨np, nb, nm, time, nid, ndt⟩, 0) := rfl
    have x0 := X4.out.cell 0
    have x1 := X4.out.cell 1
    have r0 := R4.out.cell 0
    have r1 := R4.out.cell 1
    have q0 := R4.out.frozen 0
    have q1 := R4.out.frozen 1
    have o0 := O4.out.cell 0
    have o3 := O4.out.cell 3
    have o4 := O4.out.cell 4
    have o5 := O4.out.cell 5
    have n0 := N4.out.cell 0
    have n1 := N4.out.cell 1
    have n2 := N4.out.cell 2
    have n3 := N4.out.cell 3
    have n4 := N4.out.cell 4
    have n5 := N4.out.cell 5
    have f2 := N4.out.frozen 2
    have f3 := N4.out.frozen 3
    have f5 := N4.out.frozen 5
    have c0 := HN4.out.1.c0
    have c1 := HN4.out.1.c1
    have c2 := HN4.out.1.c2
    have c3 := HN4.out.1.c3
    have c4 := HN4.out.1.c4
    have c5 := HN4.out.1.c5
    have e0 := HN4.out.2 (i * 6)
    have e1 := HN4.out.2 (i * 6 + 1)
    have e2 := HN4.out.2 (i * 6 + 2)
    have e3 := HN4.out.2 (i * 6 + 3)
    have e4 := HN4.out.2 (i * 6 + 4)
    have e5 := HN4.out.2 (i * 6 + 5)
    simp at x0 x1 r0 r1 o0 o3 o4 o5 n0 n1 n2 n3 n4 n5 c0 c1 c2 c3 c4 c5
    have HV := Lib.hid (change_ok (m := ⟨np, nb, nm, time, nid, ndt⟩) (t := ⟨ns, next⟩) HFI.out HGET.out HC)
    go_wp2
    refine bodyPost_ret (v := .tuple #[.agg #[.slice (some ⟨g, 0, none⟩) ns.length k2, .int .i64 next], .int .i64 0]) ?_ rfl ⟨.slice (some ⟨g, 0, none⟩) ns.length k2, by rw [HV.out], (fun _ _ e => by cases e), ?_, ?_⟩
    · simp [results, Tryz.results102, go_sem, r0, r1]
    · rw [HV.out]
      have hN0 := HR4.out
      have hN1 := hN0.ne ⟨W3.heap.size, 3, none⟩ (.int .i64 time) (fun e => by have : g = W3.heap.size := Option.some.inj e; omega)
      exact (((hN1.put i hi ⟨np, nb, nm, time, nid, ndt⟩).other ⟨w.heap.size + 2, 0, none⟩ _ (by simp)).other ⟨w.heap.size + 2, 1, none⟩ _ (by simp)).rd
    · iterate 9 (refine Below.setCell ?_ (by simp <;> omega) _)
      exact HW4.out
  have h7b : (kind == 7) = false := by simpa using h7
  cases nb
  case true =>
    have HC : changeN ⟨kind, path, dest, data, mode, time⟩ ⟨np, true, nm, nt, nid, ndt⟩ = (⟨np, true, nm, nt, nid, ndt⟩, 4) := by unfold changeN; simp only [if_neg h6, if_neg h7, if_true]
    have x0 := X4.out.cell 0
    have x1 := X4.out.cell 1
    have r0 := R4.out.cell 0
    have r1 := R4.out.cell 1
    have q0 := R4.out.frozen 0
    have q1 := R4.out.frozen 1
    have o0 := O4.out.cell 0
    have o3 := O4.out.cell 3
    have o4 := O4.out.cell 4
    have o5 := O4.out.cell 5
    have n0 := N4.out.cell 0
    have n1 := N4.out.cell 1
    have n2 := N4.out.cell 2
    have n3 := N4.out.cell 3
    have n4 := N4.out.cell 4
    have n5 := N4.out.cell 5
    have f2 := N4.out.frozen 2
    have f3 := N4.out.frozen 3
    have f5 := N4.out.frozen 5
    have c0 := HN4.out.1.c0
    have c1 := HN4.out.1.c1
    have c2 := HN4.out.1.c2
    have c3 := HN4.out.1.c3
    have c4 := HN4.out.1.c4
    have c5 := HN4.out.1.c5
    have e0 := HN4.out.2 (i * 6)
    have e1 := HN4.out.2 (i * 6 + 1)
    have e2 := HN4.out.2 (i * 6 + 2)
    have e3 := HN4.out.2 (i * 6 + 3)
    have e4 := HN4.out.2 (i * 6 + 4)
    have e5 := HN4.out.2 (i * 6 + 5)
    simp at x0 x1 r0 r1 o0 o3 o4 o5 n0 n1 n2 n3 n4 n5 c0 c1 c2 c3 c4 c5
    have HV := Lib.hid (change_bad (t := ⟨ns, next⟩) HFI.out HGET.out HC (by decide))
    have u0 := T4.out.cell 0
    have u1 := T4.out.cell 1
    simp at u0 u1
    clear c0 c1 c2 c3 c4 c5 e0 e1 e2 e3 e4 e5
    go_wp2
    refine bodyPost_ret (v := .tuple #[.agg #[.slice a1 ns.length k1, .int .i64 next], .int .i64 4]) ?_ rfl ⟨.slice a1 ns.length k1, by rw [HV.out], HK.out, ?_, ?_⟩
    · simp [results, Tryz.results102, go_sem, r0, r1]
    · rw [HV.out]
      refine HN0.out.on ?_
      iterate 2 (refine Below.setCell ?_ (by simp <;> omega) _)
      exact HW4.out
    · iterate 2 (refine Below.setCell ?_ (by simp <;> omega) _)
      exact HW4.out
  by_cases h3 : kind = 3
  · subst h3
    have HC : changeN ⟨3, path, dest, data, mode, time⟩ ⟨np, false, nm, nt, nid, ndt⟩ = (⟨np, false, nm, time, nid, []⟩, 0) := by unfold changeN; simp only [if_neg h6, if_neg h7, Bool.false_eq_true, if_false, if_true]
    have x0 := X4.out.cell 0
    have x1 := X4.out.cell 1
    have r0 := R4.out.cell 0
    have r1 := R4.out.cell 1
    have q0 := R4.out.frozen 0
    have q1 := R4.out.frozen 1
    have o0 := O4.out.cell 0
    have o3 := O4.out.cell 3
    have o4 := O4.out.cell 4
    have o5 := O4.out.cell 5
    have n0 := N4.out.cell 0
    have n1 := N4.out.cell 1
    have n2 := N4.out.cell 2
    have n3 := N4.out.cell 3
    have n4 := N4.out.cell 4
    have n5 := N4.out.cell 5
    have f2 := N4.out.frozen 2
    have f3 := N4.out.frozen 3
    have f5 := N4.out.frozen 5
    have c0 := HN4.out.1.c0
    have c1 := HN4.out.1.c1
    have c2 := HN4.out.1.c2
    have c3 := HN4.out.1.c3
    have c4 := HN4.out.1.c4
    have c5 := HN4.out.1.c5
    have e0 := HN4.out.2 (i * 6)
    have e1 := HN4.out.2 (i * 6 + 1)
    have e2 := HN4.out.2 (i * 6 + 2)
    have e3 := HN4.out.2 (i * 6 + 3)
    have e4 := HN4.out.2 (i * 6 + 4)
    have e5 := HN4.out.2 (i * 6 + 5)
    simp at x0 x1 r0 r1 o0 o3 o4 o5 n0 n1 n2 n3 n4 n5 c0 c1 c2 c3 c4 c5
    have HV := Lib.hid (change_ok (m := ⟨np, false, nm, time, nid, []⟩) (t := ⟨ns, next⟩) HFI.out HGET.out HC)
    go_wp2
    refine bodyPost_ret (v := .tuple #[.agg #[.slice (some ⟨g, 0, none⟩) ns.length k2, .int .i64 next], .int .i64 0]) ?_ rfl ⟨.slice (some ⟨g, 0, none⟩) ns.length k2, by rw [HV.out], (fun _ _ e => by cases e), ?_, ?_⟩
    · simp [results, Tryz.results102, go_sem, r0, r1]
    · rw [HV.out]
      have hN0 := HR4.out
      have hN1 := hN0.ne ⟨W3.heap.size, 5, none⟩ (.string ⟨#[]⟩) (fun e => by have : g = W3.heap.size := Option.some.inj e; omega)
      have hN2 := hN1.ne ⟨W3.heap.size, 3, none⟩ (.int .i64 time) (fun e => by have : g = W3.heap.size := Option.some.inj e; omega)
      exact (((hN2.put i hi ⟨np, false, nm, time, nid, []⟩).other ⟨w.heap.size + 2, 0, none⟩ _ (by simp)).other ⟨w.heap.size + 2, 1, none⟩ _ (by simp)).rd
    · iterate 10 (refine Below.setCell ?_ (by simp <;> omega) _)
      exact HW4.out
  have h3b : (kind == 3) = false := by simpa using h3
  have l1 : (strOf ndt).size = ndt.length := strOf_size _
  have l2 : (strOf data).size = data.length := strOf_size _
  by_cases hfull : 3000 < ndt.length + data.length
  · have HC : changeN ⟨kind, path, dest, data, mode, time⟩ ⟨np, false, nm, nt, nid, ndt⟩ = (⟨np, false, nm, nt, nid, ndt⟩, 5) := by unfold changeN; simp only [if_neg h6, if_neg h7, Bool.false_eq_true, if_false, if_neg h3, if_pos hfull]
    have hfI : (3000 : Int) < (ndt.length : Int) + (data.length : Int) := by omega
    rw [← l1, ← l2] at hfI
    rw [← l1] at hdl
    rw [← l2] at hd
    have hsum : (ndt.length : Int) + (data.length : Int) ≤ 4000000 := by omega
    rw [← l1, ← l2] at hsum
    have x0 := X4.out.cell 0
    have x1 := X4.out.cell 1
    have r0 := R4.out.cell 0
    have r1 := R4.out.cell 1
    have q0 := R4.out.frozen 0
    have q1 := R4.out.frozen 1
    have o0 := O4.out.cell 0
    have o3 := O4.out.cell 3
    have o4 := O4.out.cell 4
    have o5 := O4.out.cell 5
    have n0 := N4.out.cell 0
    have n1 := N4.out.cell 1
    have n2 := N4.out.cell 2
    have n3 := N4.out.cell 3
    have n4 := N4.out.cell 4
    have n5 := N4.out.cell 5
    have f2 := N4.out.frozen 2
    have f3 := N4.out.frozen 3
    have f5 := N4.out.frozen 5
    have c0 := HN4.out.1.c0
    have c1 := HN4.out.1.c1
    have c2 := HN4.out.1.c2
    have c3 := HN4.out.1.c3
    have c4 := HN4.out.1.c4
    have c5 := HN4.out.1.c5
    have e0 := HN4.out.2 (i * 6)
    have e1 := HN4.out.2 (i * 6 + 1)
    have e2 := HN4.out.2 (i * 6 + 2)
    have e3 := HN4.out.2 (i * 6 + 3)
    have e4 := HN4.out.2 (i * 6 + 4)
    have e5 := HN4.out.2 (i * 6 + 5)
    simp at x0 x1 r0 r1 o0 o3 o4 o5 n0 n1 n2 n3 n4 n5 c0 c1 c2 c3 c4 c5
    have HV := Lib.hid (change_bad (t := ⟨ns, next⟩) HFI.out HGET.out HC (by decide))
    have u0 := T4.out.cell 0
    have u1 := T4.out.cell 1
    simp at u0 u1
    clear c0 c1 c2 c3 c4 c5 e0 e1 e2 e3 e4 e5
    go_wp2
    refine bodyPost_ret (v := .tuple #[.agg #[.slice a1 ns.length k1, .int .i64 next], .int .i64 5]) ?_ rfl ⟨.slice a1 ns.length k1, by rw [HV.out], HK.out, ?_, ?_⟩
    · simp [results, Tryz.results102, go_sem, r0, r1]
    · rw [HV.out]
      refine HN0.out.on ?_
      iterate 2 (refine Below.setCell ?_ (by simp <;> omega) _)
      exact HW4.out
    · iterate 2 (refine Below.setCell ?_ (by simp <;> omega) _)
      exact HW4.out
  · have HC : changeN ⟨kind, path, dest, data, mode, time⟩ ⟨np, false, nm, nt, nid, ndt⟩ = (⟨np, false, nm, time, nid, ndt ++ data⟩, 0) := by unfold changeN; simp only [if_neg h6, if_neg h7, Bool.false_eq_true, if_false, if_neg h3, if_neg hfull]
    have hfI : ¬ (3000 : Int) < (ndt.length : Int) + (data.length : Int) := by omega
    have hsum : (ndt.length : Int) + (data.length : Int) ≤ 4000000 := by omega
    have hadd := fun W => addB (strOf ndt) (strOf data) (by rw [l1, l2]; omega) W
    simp only [strOf_data] at hadd
    rw [← l1, ← l2] at hfI hsum
    have x0 := X4.out.cell 0
    have x1 := X4.out.cell 1
    have r0 := R4.out.cell 0
    have r1 := R4.out.cell 1
    have q0 := R4.out.frozen 0
    have q1 := R4.out.frozen 1
    have o0 := O4.out.cell 0
    have o3 := O4.out.cell 3
    have o4 := O4.out.cell 4
    have o5 := O4.out.cell 5
    have n0 := N4.out.cell 0
    have n1 := N4.out.cell 1
    have n2 := N4.out.cell 2
    have n3 := N4.out.cell 3
    have n4 := N4.out.cell 4
    have n5 := N4.out.cell 5
    have f2 := N4.out.frozen 2
    have f3 := N4.out.frozen 3
    have f5 := N4.out.frozen 5
    have c0 := HN4.out.1.c0
    have c1 := HN4.out.1.c1
    have c2 := HN4.out.1.c2
    have c3 := HN4.out.1.c3
    have c4 := HN4.out.1.c4
    have c5 := HN4.out.1.c5
    have e0 := HN4.out.2 (i * 6)
    have e1 := HN4.out.2 (i * 6 + 1)
    have e2 := HN4.out.2 (i * 6 + 2)
    have e3 := HN4.out.2 (i * 6 + 3)
    have e4 := HN4.out.2 (i * 6 + 4)
    have e5 := HN4.out.2 (i * 6 + 5)
    simp at x0 x1 r0 r1 o0 o3 o4 o5 n0 n1 n2 n3 n4 n5 c0 c1 c2 c3 c4 c5
    have HV := Lib.hid (change_ok (m := ⟨np, false, nm, time, nid, ndt ++ data⟩) (t := ⟨ns, next⟩) HFI.out HGET.out HC)
    go_wp2
    refine bodyPost_ret (v := .tuple #[.agg #[.slice (some ⟨g, 0, none⟩) ns.length k2, .int .i64 next], .int .i64 0]) ?_ rfl ⟨.slice (some ⟨g, 0, none⟩) ns.length k2, by rw [HV.out], (fun _ _ e => by cases e), ?_, ?_⟩
    · simp [results, Tryz.results102, go_sem, r0, r1]
    · rw [HV.out]
      have hN0 := HR4.out
      have hN1 := hN0.ne ⟨W3.heap.size, 5, none⟩ (.string (strOf (ndt ++ data))) (fun e => by have : g = W3.heap.size := Option.some.inj e; omega)
      have hN2 := hN1.ne ⟨W3.heap.size, 3, none⟩ (.int .i64 time) (fun e => by have : g = W3.heap.size := Option.some.inj e; omega)
      exact (((hN2.put i hi ⟨np, false, nm, time, nid, ndt ++ data⟩).other ⟨w.heap.size + 2, 0, none⟩ _ (by simp)).other ⟨w.heap.size + 2, 1, none⟩ _ (by simp)).rd
    · iterate 10 (refine Below.setCell ?_ (by simp <;> omega) _)
      exact HW4.out
end Go.Proofs.YtipedabppgbfcaaGreatDoor
namespace Go.Proofs.YtipedabppgbfcaaGreatDoor
open Go.RowKit

theorem busy_t {ns : List Nd} {p : List UInt8} {k : Nat} (h : k < ns.length) (hu : underV ns[k].path p = true) : busyB ns p = true := by
  unfold busyB
  rw [List.any_eq_true]
  exact ⟨_, List.getElem_mem h, hu⟩
theorem busy_f {ns : List Nd} {p : List UInt8} (h : ∀ j (hj : j < ns.length), underV ns[j].path p = false) : busyB ns p = false := by
  unfold busyB
  rw [Bool.eq_false_iff]; intro e
  rw [List.any_eq_true] at e
  obtain ⟨n, hn, hu⟩ := e
  obtain ⟨j, hj, rfl⟩ := List.getElem_of_mem hn
  rw [h j hj] at hu; cases hu

set_option maxRecDepth 100000 in
set_option maxHeartbeats 4000000 in
theorem specBusy (w : World) (v : Value) (ns : List Nd) (next : Int) (p : List UInt8) (h : NRd w v ns) (hz : ∀ n ∈ ns, n.path.length ≤ 2000000) (hp : p.length ≤ 2000000) :
    Calls Tryz.prog 100 #[.agg #[v, .int .i64 next], .string (strOf p)] w fun e w' => e = .returned (.bool (busyB ns p)) ∧ Below w.heap.size w w' := by
  obtain ⟨a1, k1, rfl⟩ : ∃ a c, v = .slice a ns.length c := by obtain ⟨a, c, h, _⟩ := h; exact ⟨a, c, h⟩
  obtain ⟨wa, hwa⟩ : ∃ wa, w.alloc (.cells #[.slice a1 ns.length k1, .int .i64 next] 26) = wa := ⟨_, rfl⟩
  have hsa : wa.heap.size = w.heap.size + 1 := by rw [← hwa]; simp
  have BK := Lib.hid (show Blk wa w.heap.size #[.slice a1 ns.length k1, .int .i64 next] 26 by rw [← hwa]; exact Blk.new _ _ _)
  have HB0 := Lib.hid (show Below w.heap.size w wa by rw [← hwa]; exact (Below.refl _ _).alloc (Nat.le_refl _) _)
  have HN0 := Lib.hid h
  have HZ := Lib.hid hz
  have CU := Lib.hid (show ∀ (l : List UInt8) W, l.length ≤ 2000000 → Calls Tryz.prog 141 #[.string (strOf l), .string (strOf p)] W fun e w' => e = .returned (.bool (underV l p)) ∧ Below W.heap.size W w' from fun l W hl => by
    have := specUnder (strOf l) (strOf p) W (by rw [strOf_size]; exact hl) (by rw [strOf_size]; exact hp)
    rw [strOf_data, strOf_data] at this; exact this)
  have q0 := BK.out.cell 0
  simp at q0
  clear h hz
  go_enter Tryz.func100, Tryz.ntmps100
  go_wp2
  go_loopw [5] (fun i W => ∃ k : Nat, k ≤ ns.length ∧ i = .int .i64 k ∧ Hid (∀ j (hj : j < ns.length), j < k → underV ns[j].path p = false) ∧ Below (w.heap.size + 1) wa W) (fun i _ => ns.length - (intOf i).toNat)
  case atStart => exact ⟨0, Nat.zero_le _, rfl, Lib.hid (fun j _ hj => by omega), Below.refl _ _⟩
  case round =>
    obtain ⟨k, hk, rfl, HNO, hb⟩ := hrel
    have HB := Lib.hid hb
    have hsz := hb.size
    have HW := Lib.hid (HB0.out.trans (hb.mono (Nat.le_succ _)))
    have BKW := Lib.hid (BK.out.below hb (by omega))
    have b0 := BKW.out.cell 0
    simp at b0
    clear hb
    by_cases hlt : k < ns.length
    rotate_left
    · have hki : ¬ (k : Int) < (ns.length : Int) := by omega
      have HV := Lib.hid (busy_f (fun j hj => HNO.out j hj (by omega)))
      go_wp2
      go_ret
      exact ⟨ret_bool (by rw [HV.out]), HW.out⟩
    have hki : (k : Int) < (ns.length : Int) := by omega
    obtain ⟨g, cap, hs, hg, hlc, hcm, hc⟩ := HN0.out.at (by intro e; subst e; simp at hlt)
    simp only [Value.slice.injEq] at hs
    obtain ⟨rfl, _, rfl⟩ := hs
    unfold maxLen at hcm
    have hz1 := HZ.out ns[k] (List.getElem_mem hlt)
    have d0 := ((hc k hlt).on hg HW.out).c0
    have HT := Lib.hid (fun h => busy_t (p := p) hlt h)
    obtain ⟨nd, hnd⟩ : ∃ nd, ns[k] = nd := ⟨_, rfl⟩
    rw [hnd] at hz1 d0 HT
    have HND := Lib.hid hnd
    clear hc hnd
    cases hu : underV nd.path p with
    | true =>
      have HV := Lib.hid (HT.out hu)
      go_wp2_with fail
      refine (CU.out _ _ hz1).mono ?_
      rintro e W3 ⟨rfl, hb3⟩
      rw [hu]
      have HB3 := Lib.hid (HW.out.trans (hb3.mono (by omega)))
      clear hb3 hu
      go_wp2
      go_ret
      exact ⟨ret_bool (by rw [HV.out]), HB3.out⟩
    | false =>
      have HU := Lib.hid hu
      go_wp2_with fail
      refine (CU.out _ _ hz1).mono ?_
      rintro e W3 ⟨rfl, hb3⟩
      rw [hu]
      have HB3 := Lib.hid (HB.out.trans (hb3.mono (by omega)))
      clear hb3 hu
      go_wp2
      go_roundw
      case rel => exact ⟨k + 1, by omega, by go_num, Lib.hid (fun j hj hjk => by
        by_cases e : j = k
        · subst e; rw [HND.out]; exact HU.out
        · exact HNO.out j hj (by omega)), HB3.out⟩
      case measure => simp [intOf]; omega
end Go.Proofs.YtipedabppgbfcaaGreatDoor
