/- The contract of spec.Do. spec.DoAll. -/
import Derived.Test.YtipedabppgbfcaaGreatDoorK42
import Derived.Test.YtipedabppgbfcaaGreatDoorK17
import Derived.Test.YtipedabppgbfcaaGreatDoorK34
import Derived.Test.YtipedabppgbfcaaGreatDoorK39
import Derived.Deep.RegionHeld
set_option linter.all false
namespace Go.Proofs.YtipedabppgbfcaaGreatDoor
open Go.RowKit

theorem one_ok {t : Tv} {o : Ov} (h : treeB t.ns t.next = true) : doOneV t o = doV t o := by unfold doOneV; rw [h, if_pos rfl]
theorem one_bad {t : Tv} {o : Ov} (h : treeB t.ns t.next = false) : doOneV t o = (⟨[], 0⟩, 1) := by unfold doOneV; rw [h]; rfl
theorem next_in {ns : List Nd} {next : Int} (h : treeB ns next = true) : 0 ≤ next ∧ next ≤ 1000000 := by
  have := (tree_iff.1 h).2.1
  unfold inB at this
  simp at this
  omega

set_option maxRecDepth 100000 in
set_option maxHeartbeats 2000000 in
theorem specDoOne (w : World) (v : Value) (t : Tv) (o : Ov) (h : NRd w v t.ns) (hk0 : ∀ n c, v = .slice none n c → c = 0) (hl : t.ns.length ≤ 1048576) (hp : o.path.length ≤ 2000000) (hd : o.dest.length ≤ 2000000) (hda : o.data.length ≤ 2000000) (hz : ∀ n ∈ t.ns, n.path.length ≤ 2000000 ∧ n.data.length ≤ 2000000) :
    Calls Tryz.prog 18 #[.agg #[v, .int .i64 t.next], .agg #[.int .i64 o.kind, .string (strOf o.path), .string (strOf o.dest), .string (strOf o.data), .int .i64 o.mode, .int .i64 o.time]] w fun e w' => ∃ v', e = .returned (.tuple #[.agg #[v', .int .i64 (doOneV t o).1.next], .int .i64 (doOneV t o).2]) ∧ (∀ n c, v' = .slice none n c → c = 0) ∧ NRd w' v' (doOneV t o).1.ns ∧ Below w.heap.size w w' := by
  have CD := Lib.hid (fun W v2 (hN : NRd W v2 t.ns) hk hx => specL07Do W v2 t o hN hk hl hp hd hda (fun n hn => (hz n hn).1) (fun n hn => (hz n hn).2) hx)
  have CC := Lib.hid (fun W (hN : NRd W v t.ns) => specCopy W v t.ns t.next hN hk0 hl)
  have CT := Lib.hid (fun W (hN : NRd W v t.ns) => specTreeOk W v t.ns t.next hN hz)
  obtain ⟨ns, next⟩ := t
  obtain ⟨kind, path, dest, data, mode, time⟩ := o
  simp only at h hl hp hd hda hz CD CC CT ⊢
  obtain ⟨a1, k1, rfl⟩ : ∃ a c, v = .slice a ns.length c := by obtain ⟨a, c, h, _⟩ := h; exact ⟨a, c, h⟩
  obtain ⟨wa, hwa⟩ : ∃ wa, w.alloc (.cells #[.slice a1 ns.length k1, .int .i64 next] 26) = wa := ⟨_, rfl⟩
  obtain ⟨wb, hwb⟩ : ∃ wb, wa.alloc (.cells #[.int .i64 kind, .string (strOf path), .string (strOf dest), .string (strOf data), .int .i64 mode, .int .i64 time] 28) = wb := ⟨_, rfl⟩
  obtain ⟨wd, hwd⟩ : ∃ wd, wb.alloc (.cells #[.slice none 0 0, .int .i64 0] 26) = wd := ⟨_, rfl⟩
  have hsa : wa.heap.size = w.heap.size + 1 := by rw [← hwa]; simp
  have hsb : wb.heap.size = w.heap.size + 2 := by rw [← hwb]; simp [hsa]
  have hsd : wd.heap.size = w.heap.size + 3 := by rw [← hwd]; simp [hsb]
  have ba : Below w.heap.size w wa := by rw [← hwa]; exact (Below.refl _ _).alloc (Nat.le_refl _) _
  have bb : Below wa.heap.size wa wb := by rw [← hwb]; exact (Below.refl _ _).alloc (Nat.le_refl _) _
  have bd : Below wb.heap.size wb wd := by rw [← hwd]; exact (Below.refl _ _).alloc (Nat.le_refl _) _
  have TD := Lib.hid (show Blk wd w.heap.size #[.slice a1 ns.length k1, .int .i64 next] 26 from ((show Blk wa w.heap.size #[.slice a1 ns.length k1, .int .i64 next] 26 by rw [← hwa]; exact Blk.new _ _ _).on bb).on bd)
  have OD := Lib.hid (show Blk wd (w.heap.size + 1) #[.int .i64 kind, .string (strOf path), .string (strOf dest), .string (strOf data), .int .i64 mode, .int .i64 time] 28 from (show Blk wb (w.heap.size + 1) _ 28 by rw [← hwb, ← hsa]; exact Blk.new _ _ _).on bd)
  have RD := Lib.hid (show Blk wd (w.heap.size + 2) #[.slice none 0 0, .int .i64 0] 26 by rw [← hwd, ← hsb]; exact Blk.new _ _ _)
  have HWD := Lib.hid ((ba.trans (bb.mono (by omega))).trans (bd.mono (by omega)))
  have HN0 := Lib.hid h
  have CTD := CT.out wd (h.on HWD.out)
  have t0 := TD.out.cell 0
  have t1 := TD.out.cell 1
  simp at t0 t1
  clear h ba bb bd hz hk0 CT
  go_enter Tryz.func18, Tryz.ntmps18
  go_wp2_with fail
  refine CTD.mono ?_
  rintro e W1 ⟨rfl, hb⟩
  have hs1 := hb.size
  have T1 := Lib.hid (TD.out.on hb)
  have O1 := Lib.hid (OD.out.on hb)
  have R1 := Lib.hid (RD.out.on hb)
  have HW1 := Lib.hid (HWD.out.trans (hb.mono HWD.out.size))
  clear hb CTD t0 t1
  have t0 := T1.out.cell 0
  have t1 := T1.out.cell 1
  have r0 := R1.out.cell 0
  have r1 := R1.out.cell 1
  have q0 := R1.out.frozen 0
  have q1 := R1.out.frozen 1
  simp at t0 t1 r0 r1
  cases ht : treeB ns next with
  | false =>
    have HV := Lib.hid (one_bad (t := ⟨ns, next⟩) (o := ⟨kind, path, dest, data, mode, time⟩) ht)
    clear ht
    go_wp2
    refine bodyPost_ret (v := .tuple #[.agg #[.slice none 0 0, .int .i64 0], .int .i64 1]) ?_ rfl ⟨.slice none 0 0, by rw [HV.out], fun _ _ e => by cases e; rfl, ?_, ?_⟩
    · simp [results, Tryz.results18, go_sem, r0, r1]
    · rw [HV.out]
      exact ⟨none, 0, rfl, Nat.le_refl _, Nat.zero_le _, .inl rfl⟩
    · iterate 2 (refine Below.setCell ?_ (by simp <;> omega) _)
      exact HW1.out
  | true =>
    have hV := one_ok (t := ⟨ns, next⟩) (o := ⟨kind, path, dest, data, mode, time⟩) ht
    have hnx := next_in ht
    have CD2 := Lib.hid (fun W v2 (hN : NRd W v2 ns) hk => CD.out W v2 hN hk hnx)
    clear CD hnx ht
    obtain ⟨dv, hdv⟩ : ∃ dv, doV ⟨ns, next⟩ ⟨kind, path, dest, data, mode, time⟩ = dv := ⟨_, rfl⟩
    rw [hdv] at CD2 hV
    have HV := Lib.hid hV
    clear hdv hV
    have o0 := O1.out.cell 0
    have o1 := O1.out.cell 1
    have o2 := O1.out.cell 2
    have o3 := O1.out.cell 3
    have o4 := O1.out.cell 4
    have o5 := O1.out.cell 5
    simp at o0 o1 o2 o3 o4 o5
    have HNW := Lib.hid (HN0.out.on HW1.out)
    clear r0 r1 q0 q1
    go_wp2
    go_region_with (first
      | (go_at_call 60; refine (CC.out _ (HN0.out.on HW1.out.drew)).mono ?_; rintro e W2 ⟨v2, rfl, hR2, hb2⟩; (obtain ⟨a2, k2, rfl⟩ := hR2.shape); (have O2 := (show Blk W1.drew _ _ _ from ⟨O1.out.blk⟩).on hb2); (have R2 := Lib.hid ((show Blk W1.drew _ _ _ from ⟨R1.out.blk⟩).on hb2)); (have HW2 := Lib.hid (HW1.out.drew.trans (hb2.mono HW1.out.drew.size))); (have HR2 := Lib.hid hR2); (have p0 := O2.cell 0); (have p1 := O2.cell 1); (have p2 := O2.cell 2); (have p3 := O2.cell 3); (have p4 := O2.cell 4); (have p5 := O2.cell 5); (simp at p0 p1 p2 p3 p4 p5); clear O2 hR2 hb2)
      | (go_at_call 59; refine (CD2.out _ _ HR2.out.rd HR2.out.nocap).mono ?_; rintro e W3 ⟨v3, rfl, hnc, hN, hb3⟩; (obtain ⟨a3, k3, rfl⟩ : ∃ a c, v3 = .slice a dv.1.ns.length c := by obtain ⟨a, c, h, _⟩ := hN; exact ⟨a, c, h⟩); (have R3 := Lib.hid (R2.out.on hb3)); (have HW3 := Lib.hid (HW2.out.trans (hb3.mono HW2.out.size))); (have HNC := Lib.hid hnc); (have HN3 := Lib.hid hN); (have r0 := R3.out.cell 0); (have r1 := R3.out.cell 1); (have q0 := R3.out.frozen 0); (have q1 := R3.out.frozen 1); (simp at r0 r1); clear hb3 hN hnc))
    all_goals
      go_wp2
      refine bodyPost_ret (v := .tuple #[.agg #[.slice a3 dv.1.ns.length k3, .int .i64 dv.1.next], .int .i64 dv.2]) ?_ rfl ⟨.slice a3 dv.1.ns.length k3, by rw [HV.out], HNC.out, ?_, ?_⟩
      · simp [results, Tryz.results18, go_sem, r0, r1]
      · rw [HV.out]
        exact HN3.out.past R3.out _ _
      · iterate 2 (refine Below.setCell ?_ (by simp <;> omega) _)
        exact HW3.out
end Go.Proofs.YtipedabppgbfcaaGreatDoor
namespace Go.Proofs.YtipedabppgbfcaaGreatDoor
open Go.RowKit

theorem ord_of {w : World} {v : Value} {os : List Ov} (h : OpR.NRd w v os) (hne : os ≠ []) : ORd w v os := by
  obtain ⟨g, cap, hv, hg, hl, hm, hc⟩ := h.at hne
  exact ⟨g, cap, hv, hl, hm, hg, fun i hi => by obtain ⟨c0, c1, c2, c3, c4, c5⟩ := hc i hi; exact ⟨c0, c1, c2, c3, c4, c5⟩⟩
theorem node_data {n : Nd} {next : Int} (h : nodeB n next = true) : n.data.length ≤ 3000 := by
  unfold nodeB at h
  simp only [Bool.and_eq_true, decide_eq_true_eq] at h
  exact h.2.2.2.2.1
theorem all_nil (t : Tv) : doAllV t [] = (t, 0, 0) := by unfold doAllV doGo; split <;> simp

set_option maxRecDepth 100000 in
set_option maxHeartbeats 2000000 in
theorem specDoAll (w : World) (v v2 : Value) (ns : List Nd) (next : Int) (os : List Ov) (h : NRd w v ns) (hk0 : ∀ n c, v = .slice none n c → c = 0) (hl : ns.length ≤ 1048576) (ho : OpR.NRd w v2 os) (hol : os.length ≤ 2000000) (hz : ∀ n ∈ ns, n.path.length ≤ 2000000 ∧ n.data.length ≤ 2000000) (hoz : ∀ o ∈ os, o.path.length ≤ 2000000 ∧ o.dest.length ≤ 2000000 ∧ o.data.length ≤ 2000000) :
    Calls Tryz.prog 26 #[.agg #[v, .int .i64 next], v2] w fun e w' => ∃ v', e = .returned (.tuple #[.agg #[v', .int .i64 (doAllV ⟨ns, next⟩ os).1.next], .int .i64 (doAllV ⟨ns, next⟩ os).2.1, .int .i64 (doAllV ⟨ns, next⟩ os).2.2]) ∧ (∀ n c, v' = .slice none n c → c = 0) ∧ NRd w' v' (doAllV ⟨ns, next⟩ os).1.ns ∧ Below w.heap.size w w' := by
  have CC := Lib.hid (fun W (hN : NRd W v ns) => specCopy W v ns next hN hk0 hl)
  have CT := Lib.hid (fun W (hN : NRd W v ns) => specTreeOk W v ns next hN hz)
  obtain ⟨a1, k1, rfl⟩ : ∃ a c, v = .slice a ns.length c := by obtain ⟨a, c, h, _⟩ := h; exact ⟨a, c, h⟩
  have HO := Lib.hid ho
  obtain ⟨a2, k2, rfl⟩ : ∃ a c, v2 = .slice a os.length c := by obtain ⟨a, c, h, _⟩ := ho; exact ⟨a, c, h⟩
  obtain ⟨wa, hwa⟩ : ∃ wa, w.alloc (.cells #[.slice a1 ns.length k1, .int .i64 next] 26) = wa := ⟨_, rfl⟩
  obtain ⟨wb, hwb⟩ : ∃ wb, wa.alloc (.cells #[.slice none 0 0, .int .i64 0] 26) = wb := ⟨_, rfl⟩
  have hsa : wa.heap.size = w.heap.size + 1 := by rw [← hwa]; simp
  have hsb : wb.heap.size = w.heap.size + 2 := by rw [← hwb]; simp [hsa]
  have ba : Below w.heap.size w wa := by rw [← hwa]; exact (Below.refl _ _).alloc (Nat.le_refl _) _
  have bb : Below wa.heap.size wa wb := by rw [← hwb]; exact (Below.refl _ _).alloc (Nat.le_refl _) _
  have HT := Lib.hid ((show Blk wa w.heap.size #[.slice a1 ns.length k1, .int .i64 next] 26 by rw [← hwa]; exact Blk.new _ _ _).on bb)
  have HRB := Lib.hid (show Blk wb (w.heap.size + 1) #[.slice none 0 0, .int .i64 0] 26 by rw [← hwb, ← hsa]; exact Blk.new _ _ _)
  have HB := Lib.hid (ba.trans (bb.mono ba.size))
  have HN := Lib.hid h
  have t0 := HT.out.cell 0
  have t1 := HT.out.cell 1
  simp at t0 t1
  have CTD := CT.out wb (h.on HB.out)
  clear h ho ba bb
  cases htb : treeB ns next with
  | false =>
    rw [htb] at CTD
    by_cases hne : os = []
    · have HE := Lib.hid (show doAllV ⟨ns, next⟩ os = (⟨ns, next⟩, 0, 0) by rw [hne, all_nil])
      subst hne
      clear htb
      go_enter Tryz.func26, Tryz.ntmps26
      go_wp2_with (go_at_call 19; refine CTD.mono ?_; rintro e W1 ⟨rfl, hb1⟩; (have HB1 := Lib.hid (HB.out.trans (hb1.mono HB.out.size))); (have r0 := (HT.out.on hb1).cell 0); (have r1 := (HT.out.on hb1).cell 1); simp at r0 r1; (have HRB1 := Lib.hid (HRB.out.on hb1)); clear t0 t1 hb1)
      refine (CC.out W1 (HN.out.on HB1.out)).mono ?_
      rintro e W2 ⟨v3, rfl, hR3, hb2⟩
      obtain ⟨a3, k3, rfl⟩ := hR3.shape
      have HB2 := Lib.hid (HB1.out.trans (hb2.mono HB1.out.size))
      have HR3 := Lib.hid hR3
      have hs1 := HB1.out.size
      have hl1 := HRB1.out.lt
      have c0 := (HRB1.out.on hb2).cell 0
      have c1 := (HRB1.out.on hb2).cell 1
      have f0 := (HRB1.out.on hb2).frozen 0
      have f1 := (HRB1.out.on hb2).frozen 1
      simp at c0 c1
      clear hb2 hR3 r0 r1 CTD CC CT
      go_wp2
      refine bodyPost_ret (v := .tuple #[.agg #[.slice a3 ns.length k3, .int .i64 next], .int .i64 0, .int .i64 0]) ?_ rfl ⟨.slice a3 ns.length k3, by rw [HE.out]; rfl, HR3.out.nocap, ?_, ?_⟩
      · simp [results, Tryz.results26, go_sem, c0, c1]
      · rw [HE.out]
        have h3 : NRow ((W2.setCell ⟨w.heap.size + 1, 0, none⟩ (.slice a3 ns.length k3)).setCell ⟨w.heap.size + 1, 1, none⟩ (.int .i64 next)) W1.heap.size (.slice a3 ns.length k3) ns := (HR3.out.other _ _ hl1).other _ _ hl1
        exact h3.rd
      · iterate 2 (refine Below.setCell ?_ (by simp) _)
        exact HB2.out
    · have HE := Lib.hid (all_bad (t := ⟨ns, next⟩) htb hne)
      have hn0 : ((os.length : Int) == 0) = false := by have := List.length_pos_iff.2 hne; simp; omega
      clear htb
      go_enter Tryz.func26, Tryz.ntmps26
      go_wp2_with (go_at_call 19; refine CTD.mono ?_; rintro e W1 ⟨rfl, hb1⟩; (have HB1 := Lib.hid (HB.out.trans (hb1.mono HB.out.size))); (have r0 := (HRB.out.on hb1).cell 0); (have r1 := (HRB.out.on hb1).cell 1); (have f0 := (HRB.out.on hb1).frozen 0); (have f1 := (HRB.out.on hb1).frozen 1); simp at r0 r1; clear t0 t1 hb1)
      refine bodyPost_ret (v := .tuple #[.agg #[.slice none 0 0, .int .i64 0], .int .i64 0, .int .i64 1]) ?_ rfl ⟨.slice none 0 0, by rw [HE.out]; rfl, fun _ _ e => by cases e; rfl, ?_, ?_⟩
      · simp [results, Tryz.results26, go_sem, r0, r1]
      · rw [HE.out]; exact ⟨none, 0, rfl, Nat.le_refl _, Nat.zero_le _, .inl rfl⟩
      · iterate 2 (refine Below.setCell ?_ (by simp) _)
        exact HB1.out
  | true =>
    rw [htb] at CTD
    have HR := Lib.hid (Right.of htb)
    have HE := Lib.hid (all_go (t := ⟨ns, next⟩) (os := os) htb)
    clear htb
    go_enter Tryz.func26, Tryz.ntmps26
    go_wp2_with (go_at_call 19; refine CTD.mono ?_; rintro e W1 ⟨rfl, hb1⟩; (have HB1 := Lib.hid (HB.out.trans (hb1.mono HB.out.size))); (have r0 := (HT.out.on hb1).cell 0); (have r1 := (HT.out.on hb1).cell 1); simp at r0 r1; (have HRB1 := Lib.hid (HRB.out.on hb1)); clear t0 t1 hb1)
    refine (CC.out W1 (HN.out.on HB1.out)).mono ?_
    rintro e W2 ⟨v3, rfl, hR3, hb2⟩
    obtain ⟨a3, k3, rfl⟩ := hR3.shape
    have HB2 := Lib.hid (HB1.out.trans (hb2.mono HB1.out.size))
    have HRB2 := Lib.hid (HRB1.out.on hb2)
    have hs1 := HRB1.out.lt
    have hs2 := hb2.size
    obtain ⟨W3, hW3⟩ : ∃ W, W2.alloc (.cells #[.slice a3 ns.length k3, .int .i64 next] 26) = W := ⟨_, rfl⟩
    have b3 : Below W2.heap.size W2 W3 := by rw [← hW3]; exact (Below.refl _ _).alloc (Nat.le_refl _) _
    have HX3 := Lib.hid (show Blk W3 W2.heap.size #[.slice a3 ns.length k3, .int .i64 next] 26 by rw [← hW3]; exact Blk.new _ _ _)
    have HR3 := Lib.hid ((hR3.on b3).rd)
    have HC3 := Lib.hid hR3.nocap
    have HB3 := Lib.hid (HB2.out.trans (b3.mono HB2.out.size))
    have HRB3 := Lib.hid (HRB2.out.on b3)
    have HE3 := Lib.hid (show doAllV ⟨ns, next⟩ os = doGo ⟨ns, next⟩ (os.drop 0) 0 from HE.out)
    clear hb2 hR3 r0 r1 CTD CC CT b3
    go_wp2
    go_loopw [8] (fun iv W => ∃ (k : Nat) (v : Value) (ms : List Nd) (nx : Int), k ≤ os.length ∧ iv = .int .i64 k ∧ Hid (Blk W W2.heap.size #[v, .int .i64 nx] 26) ∧ Hid (NRd W v ms) ∧ Hid (∀ n c, v = .slice none n c → c = 0) ∧ Hid (Right ms nx) ∧ Hid (doAllV ⟨ns, next⟩ os = doGo ⟨ms, nx⟩ (os.drop k) k) ∧ Hid (Blk W (w.heap.size + 1) #[.slice none 0 0, .int .i64 0] 26) ∧ Hid (Below w.heap.size w W)) (fun iv _ => os.length - (intOf iv).toNat)
    case atStart => exact ⟨0, _, ns, next, Nat.zero_le _, rfl, HX3, HR3, HC3, HR, HE3, HRB3, HB3⟩
    case round =>
      clear HX3 HR3 HC3 HR HE3 HRB3 HB3 HE HRB2 HB2 HRB1 HB1 HRB HB HT
      obtain ⟨k, v, ms, nx, hk, rfl, HX, HV, HC, HR, HE, HRB, HB⟩ := hrel
      obtain ⟨av, kv, rfl⟩ : ∃ a c, v = .slice a ms.length c := by obtain ⟨a, c, h, _⟩ := HV.out; exact ⟨a, c, h⟩
      have hbb : w.heap.size + 1 < W2.heap.size := by omega
      by_cases hlt : k < os.length
      · have hki : (k : Int) < (os.length : Int) := by omega
        obtain ⟨g, cap, hs, hg, hlc, hcm, hc⟩ := HO.out.at (by intro e; subst e; simp at hlt)
        simp only [Value.slice.injEq] at hs
        obtain ⟨rfl, _, rfl⟩ := hs
        have hck := (hc k hlt).on hg HB.out
        have hgr : g < wr.heap.size := Nat.lt_of_lt_of_le hg HB.out.size
        obtain ⟨z1, z2, z3⟩ := hoz os[k] (List.getElem_mem hlt)
        have HDR := Lib.hid (List.drop_eq_getElem_cons hlt)
        have hnx : 0 ≤ nx ∧ nx ≤ 1000000 := ⟨by have := HR.out.lo; omega, HR.out.hi⟩
        unfold maxLen at hcm
        generalize os[k] = o at hck z1 z2 z3 HDR
        have HCK := Lib.hid hck
        have CD := Lib.hid (fun V (hb : Below wr.heap.size wr V) => specL07Do V (.slice av ms.length kv) ⟨ms, nx⟩ o (HV.out.on hb) HC.out (by have := HR.out.len; show ms.length ≤ _; omega) z1 z2 z3 (fun n hn => by have := depth_short (node_path (HR.out.node n hn)); omega) (fun n hn => by have := node_data (HR.out.node n hn); omega) hnx)
        have HKR := Lib.hid (do_right (t := ⟨ms, nx⟩) (o := o) HR.out)
        have HSM := Lib.hid (do_same (t := ⟨ms, nx⟩) (o := o))
        have HST := Lib.hid (doGo_stop (t := ⟨ms, nx⟩) (o := o) (r := os.drop (k + 1)) (k := k))
        have HON := Lib.hid (doGo_on (t := ⟨ms, nx⟩) (o := o) (r := os.drop (k + 1)) (k := k))
        have HE3 := Lib.hid (show doAllV ⟨ns, next⟩ os = doGo ⟨ms, nx⟩ (o :: os.drop (k + 1)) k by rw [HE.out, HDR.out])
        generalize doV ⟨ms, nx⟩ o = r at CD HKR HSM HST HON
        obtain ⟨⟨rns, rnx⟩, code⟩ := r
        simp only at CD HKR HSM HST HON
        have K9 := Lib.hid (show ∀ V, Below wr.heap.size wr V → V.cell? ⟨W2.heap.size, 0, none⟩ = some (.slice av ms.length kv) ∧ V.cell? ⟨W2.heap.size, 1, none⟩ = some (.int .i64 nx) ∧ V.cell? ⟨g, k * 6, none⟩ = some (.int .i64 o.kind) ∧ V.cell? ⟨g, k * 6 + 1, none⟩ = some (.string (strOf o.path)) ∧ V.cell? ⟨g, k * 6 + 2, none⟩ = some (.string (strOf o.dest)) ∧ V.cell? ⟨g, k * 6 + 3, none⟩ = some (.string (strOf o.data)) ∧ V.cell? ⟨g, k * 6 + 4, none⟩ = some (.int .i64 o.mode) ∧ V.cell? ⟨g, k * 6 + 5, none⟩ = some (.int .i64 o.time) from fun V hb => by
          have hx := HX.out.on hb
          have hp := HCK.out.on hgr hb
          exact ⟨hx.cell 0, hx.cell 1, hp.c0, hp.c1, hp.c2, hp.c3, hp.c4, hp.c5⟩)
        obtain ⟨t0, t1, t2, t3, t4, t5, t6, t7⟩ := K9.out _ (Below.refl _ _)
        have KY := fun ob => K9.out (wr.drew.alloc ob) (((Below.refl _ _).drew).alloc (Nat.le_refl _) ob)
        have y0 := fun ob => (KY ob).1
        have y1 := fun ob => (KY ob).2.1
        have y2 := fun ob => (KY ob).2.2.1
        have y3 := fun ob => (KY ob).2.2.2.1
        have y4 := fun ob => (KY ob).2.2.2.2.1
        have y5 := fun ob => (KY ob).2.2.2.2.2.1
        have y6 := fun ob => (KY ob).2.2.2.2.2.2.1
        have y7 := fun ob => (KY ob).2.2.2.2.2.2.2
        have KX := fun ob => K9.out (wr.alloc ob) ((Below.refl _ _).alloc (Nat.le_refl _) ob)
        have x0 := fun ob => (KX ob).1
        have x1 := fun ob => (KX ob).2.1
        have x2 := fun ob => (KX ob).2.2.1
        have x3 := fun ob => (KX ob).2.2.2.1
        have x4 := fun ob => (KX ob).2.2.2.2.1
        have x5 := fun ob => (KX ob).2.2.2.2.2.1
        have x6 := fun ob => (KX ob).2.2.2.2.2.2.1
        have x7 := fun ob => (KX ob).2.2.2.2.2.2.2
        have hbw : W2.heap.size < wr.heap.size := HX.out.lt
        clear KY KX
        clear hc hck z1 z2 z3
        go_wp2
        go_cut [9, 10] (fun c9 c10 V => ∃ (b : Nat) (v' : Value), c9 = .pointer (some ⟨b, 0, none⟩) ∧ c10 = .int .i64 code ∧ Blk V b #[v', .int .i64 rnx] 26 ∧ NRd V v' rns ∧ (∀ n c, v' = .slice none n c → c = 0) ∧ Below wr.heap.size wr V)
        case first =>
          go_region_with (go_at_call 59; refine (CD.out _ (by first | exact (Below.refl _ _).drew | exact ((Below.refl _ _).drew).alloc (Nat.le_refl _) _)).mono ?_; rintro e Wa ⟨v9, rfl, hca, hna, hba⟩; (obtain ⟨a9, k9, rfl⟩ : ∃ a c, v9 = .slice a rns.length c := by obtain ⟨a, c, h, _⟩ := hna; exact ⟨a, c, h⟩); (have HBa := Lib.hid (show Below wr.heap.size wr Wa by first | exact ((Below.refl _ _).drew).trans hba | exact (((Below.refl _ _).drew).alloc (Nat.le_refl _) _).trans (hba.mono (by simp)))); (have HNa := Lib.hid hna); (have HCa := Lib.hid hca); (first | (have HXa := Lib.hid ((Blk.new wr.drew #[.slice none 0 0, .int .i64 0] 26).on hba)) | skip); (try (have g0 := HXa.out.cell 0; have g1 := HXa.out.cell 1; have g2 := HXa.out.frozen 0; have g3 := HXa.out.frozen 1; simp at g0 g1; try simp at g2; try simp at g3)); clear hba hna hca)
          all_goals
            go_wp2
            go_meet
            first
              | exact ⟨_, _, rfl, rfl, Blk.new _ _ _, HNa.out.on ((Below.refl _ _).alloc (Nat.le_refl _) _), HCa.out, HBa.out.alloc HBa.out.size _⟩
              | exact ⟨_, _, rfl, rfl, (HXa.out.set 0 _).set 1 _, HNa.out.past HXa.out _ _, HCa.out, (HBa.out.setCell (p := ⟨_, 0, none⟩) (Nat.le_refl _) _).setCell (p := ⟨_, 1, none⟩) (Nat.le_refl _) _⟩
        case rest =>
          obtain ⟨b9, v9, rfl, rfl, hX9, hN9, hC9, hb9⟩ := hcut
          obtain ⟨a9, k9, rfl⟩ : ∃ a c, v9 = .slice a rns.length c := by obtain ⟨a, c, h, _⟩ := hN9; exact ⟨a, c, h⟩
          have HX9 := Lib.hid hX9
          have HN9 := Lib.hid hN9
          have HC9 := Lib.hid hC9
          have HB9 := Lib.hid (HB.out.trans (hb9.mono HB.out.size))
          have HRB9 := Lib.hid (HRB.out.on hb9)
          have HXN := Lib.hid (HX.out.on hb9)
          have HV9 := Lib.hid (HV.out.on hb9)
          have n0 := hX9.cell 0
          have n1 := hX9.cell 1
          have m0 := (HX.out.on hb9).cell 0
          have m1 := (HX.out.on hb9).cell 1
          have f0 := (HX.out.on hb9).frozen 0
          have f1 := (HX.out.on hb9).frozen 1
          have p0 := (HRB.out.on hb9).cell 0
          have p1 := (HRB.out.on hb9).cell 1
          have q0 := (HRB.out.on hb9).frozen 0
          have q1 := (HRB.out.on hb9).frozen 1
          simp at n0 n1 m0 m1 p0 p1
          clear hX9 hN9 hC9 hb9 t0 t1 t2 t3 t4 t5 t6 t7 x0 x1 x2 x3 x4 x5 x6 x7 y0 y1 y2 y3 y4 y5 y6 y7 CD K9 HCK
          by_cases h0 : code = 0
          · subst h0
            go_wp2
            go_roundw
            case rel =>
              refine ⟨k + 1, _, rns, rnx, by omega, by go_num, Lib.hid ((HXN.out.set 0 _).set 1 _), Lib.hid (HN9.out.past HXN.out _ _), HC9, HKR, Lib.hid ?_, Lib.hid ((HRB9.out.other _ _ (by show w.heap.size + 1 ≠ W2.heap.size; omega)).other _ _ (by show w.heap.size + 1 ≠ W2.heap.size; omega)), Lib.hid ((HB9.out.setCell (p := ⟨W2.heap.size, 0, none⟩) (by show w.heap.size ≤ W2.heap.size; omega) _).setCell (p := ⟨W2.heap.size, 1, none⟩) (by show w.heap.size ≤ W2.heap.size; omega) _)⟩
              rw [HE3.out, HON.out (by first | rfl | trivial)]
            case measure => simp [intOf]; omega
          · have hcb : (code != 0) = true := by simp [h0]
            have hns : (⟨rns, rnx⟩ : Tv) = ⟨ms, nx⟩ := HSM.out h0
            have HE4 := Lib.hid (show doAllV ⟨ns, next⟩ os = (⟨ms, nx⟩, k, code) by rw [HE3.out, HST.out h0])
            clear hns HSM HST HON
            go_wp2
            refine bodyPost_ret (v := .tuple #[.agg #[.slice av ms.length kv, .int .i64 nx], .int .i64 k, .int .i64 code]) ?_ rfl ⟨.slice av ms.length kv, by rw [HE4.out], HC.out, ?_, ?_⟩
            · simp [results, Tryz.results26, go_sem, p0, p1]
            · rw [HE4.out]; exact HV9.out.past HRB9.out _ _
            · iterate 2 (refine Below.setCell ?_ (by simp) _)
              exact HB9.out
      · have hki : ¬ (k : Int) < (os.length : Int) := by omega
        obtain rfl : k = os.length := by omega
        have m0 := HX.out.cell 0
        have m1 := HX.out.cell 1
        have p0 := HRB.out.cell 0
        have p1 := HRB.out.cell 1
        have q0 := HRB.out.frozen 0
        have q1 := HRB.out.frozen 1
        simp at m0 m1 p0 p1
        have HE4 := Lib.hid (show doAllV ⟨ns, next⟩ os = (⟨ms, nx⟩, os.length, 0) by rw [HE.out, List.drop_length]; rfl)
        go_wp2
        refine bodyPost_ret (v := .tuple #[.agg #[.slice av ms.length kv, .int .i64 nx], .int .i64 os.length, .int .i64 0]) ?_ rfl ⟨.slice av ms.length kv, by rw [HE4.out], HC.out, ?_, ?_⟩
        · simp [results, Tryz.results26, go_sem, p0, p1]
        · rw [HE4.out]; exact HV.out.past HRB.out _ _
        · iterate 2 (refine Below.setCell ?_ (by simp) _)
          exact HB.out
end Go.Proofs.YtipedabppgbfcaaGreatDoor
