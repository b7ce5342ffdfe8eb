/- The contract of spec.l07Without: a tree without a node of a path. The contract of spec.l07Do. -/
import Derived.Test.YtipedabppgbfcaaGreatDoorK18
import Derived.Test.YtipedabppgbfcaaGreatDoorK23
import Derived.Test.YtipedabppgbfcaaGreatDoorK31
set_option linter.all false
namespace Go.Proofs.YtipedabppgbfcaaGreatDoor
open Go.RowKit

theorem without_in {p : List UInt8} {ns : List Nd} {k : Nat} (h : k < ns.length) (e : ns[k].path ≠ p) : withoutN p (ns.take (k + 1)) = withoutN p (ns.take k) ++ [ns[k]] := by
  unfold withoutN
  rw [List.take_succ_eq_append_getElem h, List.filter_append]
  simp [e]
theorem without_out {p : List UInt8} {ns : List Nd} {k : Nat} (h : k < ns.length) (e : ns[k].path = p) : withoutN p (ns.take (k + 1)) = withoutN p (ns.take k) := by
  unfold withoutN
  rw [List.take_succ_eq_append_getElem h, List.filter_append]
  simp [e]

set_option maxRecDepth 100000 in
set_option maxHeartbeats 8000000 in
theorem specWithout (w : World) (v : Value) (ns : List Nd) (next : Int) (p : List UInt8) (h : NRd w v ns) (hl : ns.length ≤ 1048576) :
    Calls Tryz.prog 101 #[.agg #[v, .int .i64 next], .string (strOf p)] w fun e w' => ∃ v', e = .returned (.agg #[v', .int .i64 next]) ∧ NRow w' w.heap.size v' (withoutN p ns) ∧ Below w.heap.size w w' := by
  obtain ⟨j0, ji, jz0, jz1, jz2⟩ := info_parts infoN
  obtain ⟨a1, k1, rfl⟩ : ∃ a c, v = .slice a ns.length c := by obtain ⟨a, c, h, _⟩ := h; exact ⟨a, c, h⟩
  obtain ⟨wa, hwa⟩ : ∃ wa, w.alloc (.cells #[.slice a1 ns.length k1, .int .i64 next] 26) = wa := ⟨_, rfl⟩
  obtain ⟨wb, hwb⟩ : ∃ wb, wa.alloc (.cells #[.slice none 0 0, .int .i64 0] 26) = wb := ⟨_, rfl⟩
  obtain ⟨wd, hwd⟩ : ∃ wd, wb.alloc (.cells #[.slice none 0 0, .int .i64 next] 26) = wd := ⟨_, rfl⟩
  have hsa : wa.heap.size = w.heap.size + 1 := by rw [← hwa]; simp
  have hsb : wb.heap.size = w.heap.size + 2 := by rw [← hwb]; simp [hsa]
  have hsd : wd.heap.size = w.heap.size + 3 := by rw [← hwd]; simp [hsb]
  have ba : Below w.heap.size w wa := by rw [← hwa]; exact (Below.refl _ _).alloc (Nat.le_refl _) _
  have bb : Below wa.heap.size wa wb := by rw [← hwb]; exact (Below.refl _ _).alloc (Nat.le_refl _) _
  have bd : Below wb.heap.size wb wd := by rw [← hwd]; exact (Below.refl _ _).alloc (Nat.le_refl _) _
  have T1 : Blk wa w.heap.size #[.slice a1 ns.length k1, .int .i64 next] 26 := by rw [← hwa]; exact Blk.new _ _ _
  have R1 : Blk wb (w.heap.size + 1) #[.slice none 0 0, .int .i64 0] 26 := by rw [← hwb, ← hsa]; exact Blk.new _ _ _
  have O1 := Lib.hid (show Blk wd (w.heap.size + 2) #[.slice none 0 0, .int .i64 next] 26 by rw [← hwd, ← hsb]; exact Blk.new _ _ _)
  have TC := Lib.hid (T1.on bb)
  have RC := Lib.hid R1
  have HWC := Lib.hid (ba.trans (bb.mono (by omega)))
  have HBD := Lib.hid (show Below (w.heap.size + 2) wb wd from bd.mono (by omega))
  have HN0 := Lib.hid h
  have t0 := T1.cell 0
  have t1 := T1.cell 1
  have u0 := (T1.on bb).cell 0
  have u1 := (T1.on bb).cell 1
  simp at t0 t1 u0 u1
  clear h ba bb bd T1 R1
  go_enter Tryz.func101, Tryz.ntmps101
  go_wp2
  go_loopw [6] (fun i W => ∃ (k : Nat) (acc : List Nd) (v : Value), k ≤ ns.length ∧ i = .int .i64 k ∧ Hid (acc = withoutN p (ns.take k)) ∧ Blk W (w.heap.size + 2) #[v, .int .i64 next] 26 ∧ NRow W (w.heap.size + 3) v acc ∧ acc.length ≤ k ∧ Below (w.heap.size + 2) wb W ∧ w.heap.size + 3 ≤ W.heap.size) (fun i _ => ns.length - (intOf i).toNat)
  case atStart => exact ⟨0, [], _, Nat.zero_le _, rfl, Lib.hid (by simp [withoutN]), O1.out, NRow.nil _ _, by simp, HBD.out, by omega⟩
  case round =>
    obtain ⟨k, acc, v, hk, rfl, HA, hO, hR, hal, hb, hsz⟩ := hrel
    obtain ⟨a2, k2, rfl⟩ := hR.shape
    have HO := Lib.hid hO
    have HR := Lib.hid hR
    have HB := Lib.hid hb
    have TW := Lib.hid (TC.out.below hb (by omega))
    have RW := Lib.hid (RC.out.below hb (by omega))
    have HW := Lib.hid (HWC.out.trans (hb.mono (by omega)))
    have c0 := TW.out.cell 0
    have c1 := TW.out.cell 1
    have o0 := HO.out.cell 0
    have o1 := HO.out.cell 1
    simp at c0 c1 o0 o1
    clear hO hR hb
    by_cases hlt : k < ns.length
    rotate_left
    · have hki : ¬ (k : Int) < (ns.length : Int) := by omega
      have r0 := RW.out.cell 0
      have r1 := RW.out.cell 1
      have g0 := RW.out.frozen 0
      have g1 := RW.out.frozen 1
      simp at r0 r1
      have he : acc = withoutN p ns := by rw [HA.out, List.take_of_length_le (by omega)]
      have HE := Lib.hid he
      clear he
      go_wp2
      refine bodyPost_ret (v := .agg #[.slice a2 acc.length k2, .int .i64 next]) ?_ rfl ⟨_, rfl, ?_, ?_⟩
      · simp [results, Tryz.results101, go_sem, r0, r1, o0, o1]
      · rw [← HE.out]
        refine NRow.base (B := w.heap.size + 3) ?_ (by omega)
        iterate 2 (refine NRow.other ?_ _ _ (by simp))
        exact HR.out
      · iterate 2 (refine Below.setCell ?_ (by simp <;> omega) _)
        exact HW.out
    have hki : (k : Int) < (ns.length : Int) := by omega
    obtain ⟨g, cap, hs, hg, hlc, hcm, hc⟩ := HN0.out.at (by intro e; subst e; simp at hlt)
    simp only [Value.slice.injEq] at hs
    obtain ⟨rfl, _, rfl⟩ := hs
    unfold maxLen at hcm
    have HIN := Lib.hid (fun h => without_in (p := p) hlt h)
    have HOUT := Lib.hid (fun h => without_out (p := p) hlt h)
    have hck := (hc k hlt).on hg HW.out
    obtain ⟨md, hmd⟩ : ∃ md, ns[k] = md := ⟨_, rfl⟩
    rw [hmd] at hck HIN HOUT
    obtain ⟨e0, e1, e2, e3, e4, e5⟩ := hck
    have HMD := Lib.hid hmd
    clear hc hmd
    by_cases hmp : md.path = p
    · have ht := str_t hmp
      have hne : ((strOf md.path).toList != (strOf p).toList) = false := by simp [bne, ht]
      have HP := Lib.hid (HOUT.out hmp)
      clear hmp
      go_wp2
      go_roundw
      case rel => exact ⟨k + 1, acc, _, by omega, by go_num, Lib.hid (by rw [HP.out]; exact HA.out), HO.out, HR.out, by omega, HB.out, hsz⟩
      case measure => simp [intOf]; omega
    · have ht := str_f hmp
      have hne : ((strOf md.path).toList != (strOf p).toList) = true := by simp [bne, ht]
      have HP := Lib.hid (HIN.out hmp)
      have oA : (wr.alloc (.cells #[.string (strOf md.path), .bool md.dir, .int .i64 md.mode, .int .i64 md.time, .int .i64 md.id, .string (strOf md.data)] 37)).cell? ⟨w.heap.size + 2, 0, none⟩ = some (.slice a2 acc.length k2) := (HO.out.alloc _).cell 0
      have HO7 := Lib.hid (fun (o : Obj) (w1 : World) (hg : (wr.alloc o).drew.grownBy w1 (Value.ownBlock (.slice a2 acc.length k2))) => ((HO.out.alloc o).drew 1).grown hg (by intro e; have := (World.ownsRow.lt (HR.out.own) _ e.symm).1; omega))
      clear hmp
      go_wp2
      go_region_law (refine step_append_lies _ (by rfl) _ _ _ (by rfl) (w.heap.size + 3) 37 j0 (.agg #[.string ⟨#[]⟩, .bool false, .int .i64 0, .int .i64 0, .int .i64 0, .string ⟨#[]⟩]) 6 64 Tryz.underlying24 ji jz0 jz1 jz2 rfl (by omega) _ acc.length (nodesVals acc) (by rfl) (ownsN_push HR.out.own (by rfl)) ⟨wr.heap.size, 0, none⟩ 1 1 (nodeVals md) (by rfl) (by rfl) (cell_six_new _ _ _) (nodeVals_one _) (by omega) (by unfold maxLen; omega) (by omega) (by simp; omega) (wr.heap.size + 1) (by simp) ?_; intro g1 cap1 w1 hown1 hgrow1 hat1 hlt1; (have hO8 := HO7.out _ _ hgrow1); (have o8 := hO8.cell 0); (have p8 := hO8.frozen 0); simp at o8)
      all_goals
        go_wp2
        go_roundw
        case rel =>
          have hB5 : Below (w.heap.size + 2) wb w1 := (HB.out.alloc (by omega) _).drew.grown hgrow1 (by first | omega | (simp; omega)) (fun j e => by have := (World.ownsRow.lt HR.out.own j e).1; omega)
          have hs5 := hgrow1.size
          simp at hs5
          exact ⟨k + 1, acc ++ [md], _, by omega, by go_num, Lib.hid (by rw [HP.out, HA.out]), hO8.set 0 _, (NRow.snoc hown1).other _ _ (show w.heap.size + 2 < w.heap.size + 3 by omega), by simp; omega, hB5.setCell (Nat.le_refl (w.heap.size + 2)) _, by simp; omega⟩
        case measure => simp [intOf]; omega
end Go.Proofs.YtipedabppgbfcaaGreatDoor
namespace Go.Proofs.YtipedabppgbfcaaGreatDoor
open Go.RowKit

theorem do_bad {t : Tv} {o : Ov} (h : argsB o = false) : doV t o = (t, 1) := by unfold doV; rw [h]; rfl
theorem do_sync {t : Tv} {o : Ov} (h : argsB o = true) (hk : o.kind = 8) : doV t o = (t, 0) := by unfold doV; rw [h, if_pos rfl, if_pos hk]
theorem do_new {t : Tv} {o : Ov} (h : argsB o = true) (h8 : ¬ o.kind = 8) (hk : o.kind = 0 ∨ o.kind = 1) : doV t o = newV t o := by unfold doV; rw [h, if_pos rfl, if_neg h8, if_pos hk]
theorem do_none {t : Tv} {o : Ov} (h : argsB o = true) (h8 : ¬ o.kind = 8) (hk : ¬ (o.kind = 0 ∨ o.kind = 1)) (hf : findV o.path t.ns = none) : doV t o = (t, 2) := by unfold doV; rw [h, if_pos rfl, if_neg h8, if_neg hk, hf]; rfl
theorem do_move {t : Tv} {o : Ov} {i : Nat} (h : argsB o = true) (h8 : ¬ o.kind = 8) (hk : ¬ (o.kind = 0 ∨ o.kind = 1)) (hf : findV o.path t.ns = some i) (h4 : o.kind = 4) : doV t o = moveV t o := by unfold doV; rw [h, if_pos rfl, if_neg h8, if_neg hk, hf, if_pos (show (some i).isSome = true from rfl), if_pos h4]
theorem do_busy {t : Tv} {o : Ov} {i : Nat} (h : argsB o = true) (h8 : ¬ o.kind = 8) (hk : ¬ (o.kind = 0 ∨ o.kind = 1)) (hf : findV o.path t.ns = some i) (h4 : ¬ o.kind = 4) (h5 : o.kind = 5) (hb : busyB t.ns o.path = true) : doV t o = (t, 6) := by
  unfold doV; rw [h, if_pos rfl, if_neg h8, if_neg hk, hf, if_pos (show (some i).isSome = true from rfl), if_neg h4, if_pos h5, hb]; rfl
theorem do_drop {t : Tv} {o : Ov} {i : Nat} (h : argsB o = true) (h8 : ¬ o.kind = 8) (hk : ¬ (o.kind = 0 ∨ o.kind = 1)) (hf : findV o.path t.ns = some i) (h4 : ¬ o.kind = 4) (h5 : o.kind = 5) (hb : busyB t.ns o.path = false) : doV t o = (⟨withoutN o.path t.ns, t.next⟩, 0) := by
  unfold doV; rw [h, if_pos rfl, if_neg h8, if_neg hk, hf, if_pos (show (some i).isSome = true from rfl), if_neg h4, if_pos h5, hb]; rfl
theorem do_change {t : Tv} {o : Ov} {i : Nat} (h : argsB o = true) (h8 : ¬ o.kind = 8) (hk : ¬ (o.kind = 0 ∨ o.kind = 1)) (hf : findV o.path t.ns = some i) (h4 : ¬ o.kind = 4) (h5 : ¬ o.kind = 5) : doV t o = changeV t o := by
  unfold doV; rw [h, if_pos rfl, if_neg h8, if_neg hk, hf, if_pos (show (some i).isSome = true from rfl), if_neg h4, if_neg h5]

/-- Stores into a tree's two cells leave a slice of nodes as it reads. -/
theorem NRd.past {w : World} {b y z : Nat} {x : Option Addr} {u v : Value} {t : TypeId} {ns : List Nd} (h : NRd w v ns) (hb : Blk w b #[.slice x y z, u] t) (a1 a2 : Value) : NRd ((w.setCell ⟨b, 0, none⟩ a1).setCell ⟨b, 1, none⟩ a2) v ns := by
  obtain ⟨a, cap, hv, hl, hm, h⟩ := h
  refine ⟨a, cap, hv, hl, hm, ?_⟩
  rcases h with h | ⟨g, ha, hg, hc⟩
  · exact .inl h
  · by_cases hn : ns = []
    · exact .inl hn
    · have hp : 0 < ns.length := List.length_pos_iff.2 hn
      have hne : g ≠ b := by
        rintro rfl
        have h1 := (hc 0 hp).c0
        have h2 := hb.cell 0
        rw [Nat.zero_mul, h2] at h1
        simp at h1
      refine .inr ⟨g, ha, by simpa using hg, fun i hi => ?_⟩
      have hk : ∀ j, ((w.setCell ⟨b, 0, none⟩ a1).setCell ⟨b, 1, none⟩ a2).cell? ⟨g, j, none⟩ = w.cell? ⟨g, j, none⟩ := fun j => World.cell?_of_block ((Below.heap_setCell _ _ _ g hne).trans (Below.heap_setCell _ _ _ g hne))
      have h0 := hc i hi
      exact ⟨(hk _).trans h0.c0, (hk _).trans h0.c1, (hk _).trans h0.c2, (hk _).trans h0.c3, (hk _).trans h0.c4, (hk _).trans h0.c5⟩

set_option maxRecDepth 100000 in
set_option maxHeartbeats 2000000 in
theorem specL07Do (w : World) (v : Value) (t : Tv) (o : Ov) (h : NRd w v t.ns) (hk0 : ∀ n c, v = .slice none n c → c = 0) (hl : t.ns.length ≤ 1048576) (hp : o.path.length ≤ 2000000) (hd : o.dest.length ≤ 2000000) (hda : o.data.length ≤ 2000000) (hz : ∀ n ∈ t.ns, n.path.length ≤ 2000000) (hzd : ∀ n ∈ t.ns, n.data.length ≤ 2000000) (hx : 0 ≤ t.next ∧ t.next ≤ 1000000) :
    Calls Tryz.prog 59 #[.agg #[v, .int .i64 t.next], .agg #[.int .i64 o.kind, .string (strOf o.path), .string (strOf o.dest), .string (strOf o.data), .int .i64 o.mode, .int .i64 o.time]] w fun e w' => ∃ v', e = .returned (.tuple #[.agg #[v', .int .i64 (doV t o).1.next], .int .i64 (doV t o).2]) ∧ (∀ n c, v' = .slice none n c → c = 0) ∧ NRd w' v' (doV t o).1.ns ∧ Below w.heap.size w w' := by
  have CN := Lib.hid (fun W (hN : NRd W v t.ns) => specNew W v t o hN hk0 hl hp hz hx)
  have CM := Lib.hid (fun W i (hN : NRd W v t.ns) hf hi => specMove W v t o i hN hk0 hl hf hi hp hd hz)
  have CC := Lib.hid (fun W i (hN : NRd W v t.ns) hf hi => specChange W v t o i hN hk0 hl hf hi hda hzd)
  have CF := Lib.hid (fun W (hN : NRd W v t.ns) => specFind W v t.ns t.next o.path hN)
  have CB := Lib.hid (fun W (hN : NRd W v t.ns) => specBusy W v t.ns t.next o.path hN hz hp)
  have CW := Lib.hid (fun W (hN : NRd W v t.ns) => specWithout W v t.ns t.next o.path hN hl)
  have CA := Lib.hid (fun W => specArgs o W hp hd)
  obtain ⟨ns, next⟩ := t
  obtain ⟨kind, path, dest, data, mode, time⟩ := o
  simp only at h hl hp hd hda hz hzd hx CN CM CC CF CB CW CA ⊢
  have HK := Lib.hid hk0
  obtain ⟨a1, k1, rfl⟩ : ∃ a c, v = .slice a ns.length c := by obtain ⟨a, c, h, _⟩ := h; exact ⟨a, c, h⟩
  obtain ⟨wa, hwa⟩ : ∃ wa, w.alloc (.cells #[.slice a1 ns.length k1, .int .i64 next] 26) = wa := ⟨_, rfl⟩
  obtain ⟨wb, hwb⟩ : ∃ wb, wa.alloc (.cells #[.int .i64 kind, .string (strOf path), .string (strOf dest), .string (strOf data), .int .i64 mode, .int .i64 time] 28) = wb := ⟨_, rfl⟩
  obtain ⟨wd, hwd⟩ : ∃ wd, wb.alloc (.cells #[.slice none 0 0, .int .i64 0] 26) = wd := ⟨_, rfl⟩
  have hsa : wa.heap.size = w.heap.size + 1 := by rw [← hwa]; simp
  have hsb : wb.heap.size = w.heap.size + 2 := by rw [← hwb]; simp [hsa]
  have hsd : wd.heap.size = w.heap.size + 3 := by rw [← hwd]; simp [hsb]
  have ba : Below w.heap.size w wa := by rw [← hwa]; exact (Below.refl _ _).alloc (Nat.le_refl _) _
  have bb : Below wa.heap.size wa wb := by rw [← hwb]; exact (Below.refl _ _).alloc (Nat.le_refl _) _
  have bd : Below wb.heap.size wb wd := by rw [← hwd]; exact (Below.refl _ _).alloc (Nat.le_refl _) _
  have TD := Lib.hid (show Blk wd w.heap.size #[.slice a1 ns.length k1, .int .i64 next] 26 from ((show Blk wa w.heap.size #[.slice a1 ns.length k1, .int .i64 next] 26 by rw [← hwa]; exact Blk.new _ _ _).on bb).on bd)
  have OD := Lib.hid (show Blk wd (w.heap.size + 1) #[.int .i64 kind, .string (strOf path), .string (strOf dest), .string (strOf data), .int .i64 mode, .int .i64 time] 28 from (show Blk wb (w.heap.size + 1) _ 28 by rw [← hwb, ← hsa]; exact Blk.new _ _ _).on bd)
  have RD := Lib.hid (show Blk wd (w.heap.size + 2) #[.slice none 0 0, .int .i64 0] 26 by rw [← hwd, ← hsb]; exact Blk.new _ _ _)
  have HWD := Lib.hid ((ba.trans (bb.mono (by omega))).trans (bd.mono (by omega)))
  have HN0 := Lib.hid h
  have o0 := OD.out.cell 0
  have o1 := OD.out.cell 1
  have o2 := OD.out.cell 2
  have o3 := OD.out.cell 3
  have o4 := OD.out.cell 4
  have o5 := OD.out.cell 5
  simp at o0 o1 o2 o3 o4 o5
  clear h ba bb bd hz hzd hk0
  go_enter Tryz.func59, Tryz.ntmps59
  go_wp2_with fail
  refine (CA.out _).mono ?_
  rintro e W1 ⟨rfl, hb⟩
  clear o0 o1 o2 o3 o4 o5
  have hs1 := hb.size
  have T1 := Lib.hid (TD.out.on hb)
  have O1 := Lib.hid (OD.out.on hb)
  have R1 := Lib.hid (RD.out.on hb)
  have HW1 := Lib.hid (HWD.out.trans (hb.mono HWD.out.size))
  clear hb
  cases ha : argsB ⟨kind, path, dest, data, mode, time⟩ with
  | false =>
    have HV := Lib.hid (do_bad (t := ⟨ns, next⟩) ha)
    have t0 := T1.out.cell 0
    have t1 := T1.out.cell 1
    have o0 := O1.out.cell 0
    have o1 := O1.out.cell 1
    have o2 := O1.out.cell 2
    have o3 := O1.out.cell 3
    have o4 := O1.out.cell 4
    have o5 := O1.out.cell 5
    have r0 := R1.out.cell 0
    have r1 := R1.out.cell 1
    have q0 := R1.out.frozen 0
    have q1 := R1.out.frozen 1
    simp at t0 t1 o0 o1 o2 o3 o4 o5 r0 r1
    go_wp2
    refine bodyPost_ret (v := .tuple #[.agg #[.slice a1 ns.length k1, .int .i64 next], .int .i64 1]) ?_ rfl ⟨.slice a1 ns.length k1, by rw [HV.out], HK.out, ?_, ?_⟩
    · simp [results, Tryz.results59, go_sem, r0, r1]
    · rw [HV.out]
      refine HN0.out.on ?_
      iterate 2 (refine Below.setCell ?_ (by simp <;> omega) _)
      exact HW1.out
    · iterate 2 (refine Below.setCell ?_ (by simp <;> omega) _)
      exact HW1.out
  | true =>
  by_cases h8 : kind = 8
  · have HV := Lib.hid (do_sync (t := ⟨ns, next⟩) ha h8)
    subst h8
    have t0 := T1.out.cell 0
    have t1 := T1.out.cell 1
    have o0 := O1.out.cell 0
    have o1 := O1.out.cell 1
    have o2 := O1.out.cell 2
    have o3 := O1.out.cell 3
    have o4 := O1.out.cell 4
    have o5 := O1.out.cell 5
    have r0 := R1.out.cell 0
    have r1 := R1.out.cell 1
    have q0 := R1.out.frozen 0
    have q1 := R1.out.frozen 1
    simp at t0 t1 o0 o1 o2 o3 o4 o5 r0 r1
    go_wp2
    refine bodyPost_ret (v := .tuple #[.agg #[.slice a1 ns.length k1, .int .i64 next], .int .i64 0]) ?_ rfl ⟨.slice a1 ns.length k1, by rw [HV.out], HK.out, ?_, ?_⟩
    · simp [results, Tryz.results59, go_sem, r0, r1]
    · rw [HV.out]
      refine HN0.out.on ?_
      iterate 2 (refine Below.setCell ?_ (by simp <;> omega) _)
      exact HW1.out
    · iterate 2 (refine Below.setCell ?_ (by simp <;> omega) _)
      exact HW1.out
  have h8b : (kind == 8) = false := by simpa using h8
  by_cases h01 : kind = 0 ∨ kind = 1
  · have HV := Lib.hid (do_new (t := ⟨ns, next⟩) ha h8 h01)
    have HNW := Lib.hid (HN0.out.on HW1.out)
    by_cases h0 : kind = 0
    · subst h0
      clear h01 ha h8
      have t0 := T1.out.cell 0
      have t1 := T1.out.cell 1
      have o0 := O1.out.cell 0
      have o1 := O1.out.cell 1
      have o2 := O1.out.cell 2
      have o3 := O1.out.cell 3
      have o4 := O1.out.cell 4
      have o5 := O1.out.cell 5
      have r0 := R1.out.cell 0
      have r1 := R1.out.cell 1
      have q0 := R1.out.frozen 0
      have q1 := R1.out.frozen 1
      simp at t0 t1 o0 o1 o2 o3 o4 o5 r0 r1
      go_wp2_with fail
      refine (CN.out _ HNW.out).mono ?_
      rintro e W3 ⟨v3, rfl, hnc, hN, hb⟩
      obtain ⟨a3, k3, rfl⟩ : ∃ a c, v3 = .slice a (newV ⟨ns, next⟩ ⟨0, path, dest, data, mode, time⟩).1.ns.length c := by obtain ⟨a, c, h, _⟩ := hN; exact ⟨a, c, h⟩
      have HNC := Lib.hid hnc
      have HN3 := Lib.hid hN
      clear hnc hN t0 t1 o0 o1 o2 o3 o4 o5 r0 r1 q0 q1
      have hs3 := hb.size
      have T3 := Lib.hid (T1.out.on hb)
      have O3 := Lib.hid (O1.out.on hb)
      have R3 := Lib.hid (R1.out.on hb)
      have HW3 := Lib.hid (HW1.out.trans (hb.mono HW1.out.size))
      clear hb
      have t0 := T3.out.cell 0
      have t1 := T3.out.cell 1
      have o0 := O3.out.cell 0
      have o1 := O3.out.cell 1
      have o2 := O3.out.cell 2
      have o3 := O3.out.cell 3
      have o4 := O3.out.cell 4
      have o5 := O3.out.cell 5
      have r0 := R3.out.cell 0
      have r1 := R3.out.cell 1
      have q0 := R3.out.frozen 0
      have q1 := R3.out.frozen 1
      simp at t0 t1 o0 o1 o2 o3 o4 o5 r0 r1
      go_wp2
      refine bodyPost_ret (v := .tuple #[.agg #[.slice a3 (newV ⟨ns, next⟩ ⟨0, path, dest, data, mode, time⟩).1.ns.length k3, .int .i64 (newV ⟨ns, next⟩ ⟨0, path, dest, data, mode, time⟩).1.next], .int .i64 (newV ⟨ns, next⟩ ⟨0, path, dest, data, mode, time⟩).2]) ?_ rfl ⟨.slice a3 (newV ⟨ns, next⟩ ⟨0, path, dest, data, mode, time⟩).1.ns.length k3, by rw [HV.out], HNC.out, ?_, ?_⟩
      · simp [results, Tryz.results59, go_sem, r0, r1]
      · rw [HV.out]
        exact HN3.out.past R3.out _ _
      · iterate 2 (refine Below.setCell ?_ (by simp <;> omega) _)
        exact HW3.out
    · have h1 : kind = 1 := h01.resolve_left h0
      subst h1
      clear h01 ha h8 h0
      have t0 := T1.out.cell 0
      have t1 := T1.out.cell 1
      have o0 := O1.out.cell 0
      have o1 := O1.out.cell 1
      have o2 := O1.out.cell 2
      have o3 := O1.out.cell 3
      have o4 := O1.out.cell 4
      have o5 := O1.out.cell 5
      have r0 := R1.out.cell 0
      have r1 := R1.out.cell 1
      have q0 := R1.out.frozen 0
      have q1 := R1.out.frozen 1
      simp at t0 t1 o0 o1 o2 o3 o4 o5 r0 r1
      go_wp2_with fail
      refine (CN.out _ HNW.out).mono ?_
      rintro e W3 ⟨v3, rfl, hnc, hN, hb⟩
      obtain ⟨a3, k3, rfl⟩ : ∃ a c, v3 = .slice a (newV ⟨ns, next⟩ ⟨1, path, dest, data, mode, time⟩).1.ns.length c := by obtain ⟨a, c, h, _⟩ := hN; exact ⟨a, c, h⟩
      have HNC := Lib.hid hnc
      have HN3 := Lib.hid hN
      clear hnc hN t0 t1 o0 o1 o2 o3 o4 o5 r0 r1 q0 q1
      have hs3 := hb.size
      have T3 := Lib.hid (T1.out.on hb)
      have O3 := Lib.hid (O1.out.on hb)
      have R3 := Lib.hid (R1.out.on hb)
      have HW3 := Lib.hid (HW1.out.trans (hb.mono HW1.out.size))
      clear hb
      have t0 := T3.out.cell 0
      have t1 := T3.out.cell 1
      have o0 := O3.out.cell 0
      have o1 := O3.out.cell 1
      have o2 := O3.out.cell 2
      have o3 := O3.out.cell 3
      have o4 := O3.out.cell 4
      have o5 := O3.out.cell 5
      have r0 := R3.out.cell 0
      have r1 := R3.out.cell 1
      have q0 := R3.out.frozen 0
      have q1 := R3.out.frozen 1
      simp at t0 t1 o0 o1 o2 o3 o4 o5 r0 r1
      go_wp2
      refine bodyPost_ret (v := .tuple #[.agg #[.slice a3 (newV ⟨ns, next⟩ ⟨1, path, dest, data, mode, time⟩).1.ns.length k3, .int .i64 (newV ⟨ns, next⟩ ⟨1, path, dest, data, mode, time⟩).1.next], .int .i64 (newV ⟨ns, next⟩ ⟨1, path, dest, data, mode, time⟩).2]) ?_ rfl ⟨.slice a3 (newV ⟨ns, next⟩ ⟨1, path, dest, data, mode, time⟩).1.ns.length k3, by rw [HV.out], HNC.out, ?_, ?_⟩
      · simp [results, Tryz.results59, go_sem, r0, r1]
      · rw [HV.out]
        exact HN3.out.past R3.out _ _
      · iterate 2 (refine Below.setCell ?_ (by simp <;> omega) _)
        exact HW3.out
  have h0b : (kind == 0) = false := by simp; omega
  have h1b : (kind == 1) = false := by simp; omega
  have HA := Lib.hid ha
  have H8 := Lib.hid h8
  have H01 := Lib.hid h01
  have HNW := Lib.hid (HN0.out.on HW1.out)
  clear ha h8 h01
  have t0 := T1.out.cell 0
  have t1 := T1.out.cell 1
  have o0 := O1.out.cell 0
  have o1 := O1.out.cell 1
  have o2 := O1.out.cell 2
  have o3 := O1.out.cell 3
  have o4 := O1.out.cell 4
  have o5 := O1.out.cell 5
  have r0 := R1.out.cell 0
  have r1 := R1.out.cell 1
  have q0 := R1.out.frozen 0
  have q1 := R1.out.frozen 1
  simp at t0 t1 o0 o1 o2 o3 o4 o5 r0 r1
  go_wp2_with fail
  refine (CF.out _ HNW.out).mono ?_
  rintro e W2 ⟨rfl, hb⟩
  clear t0 t1 o0 o1 o2 o3 o4 o5 r0 r1 q0 q1
  have hs2 := hb.size
  have T2 := Lib.hid (T1.out.on hb)
  have O2 := Lib.hid (O1.out.on hb)
  have R2 := Lib.hid (R1.out.on hb)
  have HW2 := Lib.hid (HW1.out.trans (hb.mono HW1.out.size))
  clear hb
  have HNW2 := Lib.hid (HN0.out.on HW2.out)
  cases hf : findV path ns with
  | none =>
    have hfi : findI path ns = -1 := by unfold findI; rw [hf]
    rw [hfi]
    have HV := Lib.hid (do_none (t := ⟨ns, next⟩) HA.out H8.out H01.out hf)
    clear hf hfi
    have t0 := T2.out.cell 0
    have t1 := T2.out.cell 1
    have o0 := O2.out.cell 0
    have o1 := O2.out.cell 1
    have o2 := O2.out.cell 2
    have o3 := O2.out.cell 3
    have o4 := O2.out.cell 4
    have o5 := O2.out.cell 5
    have r0 := R2.out.cell 0
    have r1 := R2.out.cell 1
    have q0 := R2.out.frozen 0
    have q1 := R2.out.frozen 1
    simp at t0 t1 o0 o1 o2 o3 o4 o5 r0 r1
    go_wp2
    refine bodyPost_ret (v := .tuple #[.agg #[.slice a1 ns.length k1, .int .i64 next], .int .i64 2]) ?_ rfl ⟨.slice a1 ns.length k1, by rw [HV.out], HK.out, ?_, ?_⟩
    · simp [results, Tryz.results59, go_sem, r0, r1]
    · rw [HV.out]
      refine HN0.out.on ?_
      iterate 2 (refine Below.setCell ?_ (by simp <;> omega) _)
      exact HW2.out
    · iterate 2 (refine Below.setCell ?_ (by simp <;> omega) _)
      exact HW2.out
  | some i =>
  have hfi : findI path ns = i := by unfold findI; rw [hf]
  rw [hfi]
  obtain ⟨hi, -⟩ := find_some hf
  have hi0 : ¬ (i : Int) < 0 := by omega
  have HFI := Lib.hid hf
  have HI := Lib.hid hi
  clear hf hfi hi
  by_cases h4 : kind = 4
  · have HV := Lib.hid (do_move (t := ⟨ns, next⟩) HA.out H8.out H01.out HFI.out h4)
    subst h4
    clear HA H8 H01
    have t0 := T2.out.cell 0
    have t1 := T2.out.cell 1
    have o0 := O2.out.cell 0
    have o1 := O2.out.cell 1
    have o2 := O2.out.cell 2
    have o3 := O2.out.cell 3
    have o4 := O2.out.cell 4
    have o5 := O2.out.cell 5
    have r0 := R2.out.cell 0
    have r1 := R2.out.cell 1
    have q0 := R2.out.frozen 0
    have q1 := R2.out.frozen 1
    simp at t0 t1 o0 o1 o2 o3 o4 o5 r0 r1
    go_wp2_with fail
    refine (CM.out _ i HNW2.out HFI.out HI.out).mono ?_
    rintro e W3 ⟨v3, rfl, hnc, hN, hb⟩
    obtain ⟨a3, k3, rfl⟩ : ∃ a c, v3 = .slice a (moveV ⟨ns, next⟩ ⟨4, path, dest, data, mode, time⟩).1.ns.length c := by obtain ⟨a, c, h, _⟩ := hN; exact ⟨a, c, h⟩
    have HNC := Lib.hid hnc
    have HN3 := Lib.hid hN
    clear hnc hN t0 t1 o0 o1 o2 o3 o4 o5 r0 r1 q0 q1
    have hs3 := hb.size
    have T3 := Lib.hid (T2.out.on hb)
    have O3 := Lib.hid (O2.out.on hb)
    have R3 := Lib.hid (R2.out.on hb)
    have HW3 := Lib.hid (HW2.out.trans (hb.mono HW2.out.size))
    clear hb
    have t0 := T3.out.cell 0
    have t1 := T3.out.cell 1
    have o0 := O3.out.cell 0
    have o1 := O3.out.cell 1
    have o2 := O3.out.cell 2
    have o3 := O3.out.cell 3
    have o4 := O3.out.cell 4
    have o5 := O3.out.cell 5
    have r0 := R3.out.cell 0
    have r1 := R3.out.cell 1
    have q0 := R3.out.frozen 0
    have q1 := R3.out.frozen 1
    simp at t0 t1 o0 o1 o2 o3 o4 o5 r0 r1
    go_wp2
    refine bodyPost_ret (v := .tuple #[.agg #[.slice a3 (moveV ⟨ns, next⟩ ⟨4, path, dest, data, mode, time⟩).1.ns.length k3, .int .i64 (moveV ⟨ns, next⟩ ⟨4, path, dest, data, mode, time⟩).1.next], .int .i64 (moveV ⟨ns, next⟩ ⟨4, path, dest, data, mode, time⟩).2]) ?_ rfl ⟨.slice a3 (moveV ⟨ns, next⟩ ⟨4, path, dest, data, mode, time⟩).1.ns.length k3, by rw [HV.out], HNC.out, ?_, ?_⟩
    · simp [results, Tryz.results59, go_sem, r0, r1]
    · rw [HV.out]
      exact HN3.out.past R3.out _ _
    · iterate 2 (refine Below.setCell ?_ (by simp <;> omega) _)
      exact HW3.out
  have h4b : (kind == 4) = false := by simpa using h4
  by_cases h5 : kind = 5
  · subst h5
    have t0 := T2.out.cell 0
    have t1 := T2.out.cell 1
    have o0 := O2.out.cell 0
    have o1 := O2.out.cell 1
    have o2 := O2.out.cell 2
    have o3 := O2.out.cell 3
    have o4 := O2.out.cell 4
    have o5 := O2.out.cell 5
    have r0 := R2.out.cell 0
    have r1 := R2.out.cell 1
    have q0 := R2.out.frozen 0
    have q1 := R2.out.frozen 1
    simp at t0 t1 o0 o1 o2 o3 o4 o5 r0 r1
    go_wp2_with fail
    refine (CB.out _ HNW2.out).mono ?_
    rintro e W3 ⟨rfl, hb⟩
    clear t0 t1 o0 o1 o2 o3 o4 o5 r0 r1 q0 q1
    have hs3 := hb.size
    have T3 := Lib.hid (T2.out.on hb)
    have O3 := Lib.hid (O2.out.on hb)
    have R3 := Lib.hid (R2.out.on hb)
    have HW3 := Lib.hid (HW2.out.trans (hb.mono HW2.out.size))
    clear hb
    cases hbu : busyB ns path with
    | true =>
      have HV := Lib.hid (do_busy (t := ⟨ns, next⟩) HA.out H8.out H01.out HFI.out h4 rfl hbu)
      have t0 := T3.out.cell 0
      have t1 := T3.out.cell 1
      have o0 := O3.out.cell 0
      have o1 := O3.out.cell 1
      have o2 := O3.out.cell 2
      have o3 := O3.out.cell 3
      have o4 := O3.out.cell 4
      have o5 := O3.out.cell 5
      have r0 := R3.out.cell 0
      have r1 := R3.out.cell 1
      have q0 := R3.out.frozen 0
      have q1 := R3.out.frozen 1
      simp at t0 t1 o0 o1 o2 o3 o4 o5 r0 r1
      go_wp2
      refine bodyPost_ret (v := .tuple #[.agg #[.slice a1 ns.length k1, .int .i64 next], .int .i64 6]) ?_ rfl ⟨.slice a1 ns.length k1, by rw [HV.out], HK.out, ?_, ?_⟩
      · simp [results, Tryz.results59, go_sem, r0, r1]
      · rw [HV.out]
        refine HN0.out.on ?_
        iterate 2 (refine Below.setCell ?_ (by simp <;> omega) _)
        exact HW3.out
      · iterate 2 (refine Below.setCell ?_ (by simp <;> omega) _)
        exact HW3.out
    | false =>
      have HV := Lib.hid (do_drop (t := ⟨ns, next⟩) HA.out H8.out H01.out HFI.out h4 rfl hbu)
      have HNW3 := Lib.hid (HN0.out.on HW3.out)
      have t0 := T3.out.cell 0
      have t1 := T3.out.cell 1
      have o0 := O3.out.cell 0
      have o1 := O3.out.cell 1
      have o2 := O3.out.cell 2
      have o3 := O3.out.cell 3
      have o4 := O3.out.cell 4
      have o5 := O3.out.cell 5
      have r0 := R3.out.cell 0
      have r1 := R3.out.cell 1
      have q0 := R3.out.frozen 0
      have q1 := R3.out.frozen 1
      simp at t0 t1 o0 o1 o2 o3 o4 o5 r0 r1
      go_wp2_with fail
      refine (CW.out _ HNW3.out).mono ?_
      rintro e W4 ⟨v3, rfl, hR, hb⟩
      have HNC := Lib.hid hR.nocap
      have HR4 := Lib.hid hR
      obtain ⟨a3, k3, rfl⟩ := hR.shape
      clear hR t0 t1 o0 o1 o2 o3 o4 o5 r0 r1 q0 q1
      have hs4 := hb.size
      have T4 := Lib.hid (T3.out.on hb)
      have O4 := Lib.hid (O3.out.on hb)
      have R4 := Lib.hid (R3.out.on hb)
      have HW4 := Lib.hid (HW3.out.trans (hb.mono HW3.out.size))
      clear hb
      have t0 := T4.out.cell 0
      have t1 := T4.out.cell 1
      have o0 := O4.out.cell 0
      have o1 := O4.out.cell 1
      have o2 := O4.out.cell 2
      have o3 := O4.out.cell 3
      have o4 := O4.out.cell 4
      have o5 := O4.out.cell 5
      have r0 := R4.out.cell 0
      have r1 := R4.out.cell 1
      have q0 := R4.out.frozen 0
      have q1 := R4.out.frozen 1
      simp at t0 t1 o0 o1 o2 o3 o4 o5 r0 r1
      go_wp2
      refine bodyPost_ret (v := .tuple #[.agg #[.slice a3 (withoutN path ns).length k3, .int .i64 next], .int .i64 0]) ?_ rfl ⟨.slice a3 (withoutN path ns).length k3, by rw [HV.out], HNC.out, ?_, ?_⟩
      · simp [results, Tryz.results59, go_sem, r0, r1]
      · rw [HV.out]
        exact HR4.out.rd.past R4.out _ _
      · iterate 2 (refine Below.setCell ?_ (by simp <;> omega) _)
        exact HW4.out
  have h5b : (kind == 5) = false := by simpa using h5
  have HV := Lib.hid (do_change (t := ⟨ns, next⟩) HA.out H8.out H01.out HFI.out h4 h5)
  clear HA H8 H01
  have t0 := T2.out.cell 0
  have t1 := T2.out.cell 1
  have o0 := O2.out.cell 0
  have o1 := O2.out.cell 1
  have o2 := O2.out.cell 2
  have o3 := O2.out.cell 3
  have o4 := O2.out.cell 4
  have o5 := O2.out.cell 5
  have r0 := R2.out.cell 0
  have r1 := R2.out.cell 1
  have q0 := R2.out.frozen 0
  have q1 := R2.out.frozen 1
  simp at t0 t1 o0 o1 o2 o3 o4 o5 r0 r1
  go_wp2_with fail
  refine (CC.out _ i HNW2.out HFI.out HI.out).mono ?_
  rintro e W3 ⟨v3, rfl, hnc, hN, hb⟩
  obtain ⟨a3, k3, rfl⟩ : ∃ a c, v3 = .slice a (changeV ⟨ns, next⟩ ⟨kind, path, dest, data, mode, time⟩).1.ns.length c := by obtain ⟨a, c, h, _⟩ := hN; exact ⟨a, c, h⟩
  have HNC := Lib.hid hnc
  have HN3 := Lib.hid hN
  clear hnc hN t0 t1 o0 o1 o2 o3 o4 o5 r0 r1 q0 q1
  have hs3 := hb.size
  have T3 := Lib.hid (T2.out.on hb)
  have O3 := Lib.hid (O2.out.on hb)
  have R3 := Lib.hid (R2.out.on hb)
  have HW3 := Lib.hid (HW2.out.trans (hb.mono HW2.out.size))
  clear hb
  have t0 := T3.out.cell 0
  have t1 := T3.out.cell 1
  have o0 := O3.out.cell 0
  have o1 := O3.out.cell 1
  have o2 := O3.out.cell 2
  have o3 := O3.out.cell 3
  have o4 := O3.out.cell 4
  have o5 := O3.out.cell 5
  have r0 := R3.out.cell 0
  have r1 := R3.out.cell 1
  have q0 := R3.out.frozen 0
  have q1 := R3.out.frozen 1
  simp at t0 t1 o0 o1 o2 o3 o4 o5 r0 r1
  go_wp2
  refine bodyPost_ret (v := .tuple #[.agg #[.slice a3 (changeV ⟨ns, next⟩ ⟨kind, path, dest, data, mode, time⟩).1.ns.length k3, .int .i64 (changeV ⟨ns, next⟩ ⟨kind, path, dest, data, mode, time⟩).1.next], .int .i64 (changeV ⟨ns, next⟩ ⟨kind, path, dest, data, mode, time⟩).2]) ?_ rfl ⟨.slice a3 (changeV ⟨ns, next⟩ ⟨kind, path, dest, data, mode, time⟩).1.ns.length k3, by rw [HV.out], HNC.out, ?_, ?_⟩
  · simp [results, Tryz.results59, go_sem, r0, r1]
  · rw [HV.out]
    exact HN3.out.past R3.out _ _
  · iterate 2 (refine Below.setCell ?_ (by simp <;> omega) _)
    exact HW3.out
end Go.Proofs.YtipedabppgbfcaaGreatDoor
