/- The contract of spec.l07Move: OpMove. isUnder, movedPath, allUnder, fileAt over the tree that is worked on. -/
import Derived.Test.YtipedabppgbfcaaGreatDoorK22
import Derived.Test.YtipedabppgbfcaaGreatDoorK19
set_option linter.all false
namespace Go.Proofs.YtipedabppgbfcaaGreatDoor
open Go.RowKit

theorem moveGo_cons (o : Ov) (acc : List Nd) (n : Nd) (r : List Nd) : moveGo o acc (n :: r) = if n.path = o.dest then moveGo o acc r else if 0 < depthV (movedN o n).path then moveGo o (putN (movedN o n) acc) r else none := rfl
theorem moveGo_app (o : Ov) : ∀ (xs acc : List Nd) (ys : List Nd), moveGo o acc (xs ++ ys) = (moveGo o acc xs).bind fun a => moveGo o a ys
  | [], acc, n => rfl
  | x :: r, acc, n => by
    rw [List.cons_append, moveGo_cons, moveGo_cons]
    split
    · exact moveGo_app o r acc n
    · split
      · exact moveGo_app o r _ n
      · rfl
theorem moveGo_snoc (o : Ov) (xs acc : List Nd) (n : Nd) : moveGo o acc (xs ++ [n]) = (moveGo o acc xs).bind fun a => moveGo o a [n] := moveGo_app o xs acc [n]
theorem move_bad {t : Tv} {o : Ov} {k : Nat} {acc : List Nd} {n m : Nd} (hk : t.ns[k]? = some n) (h : moveGo o [] (t.ns.take k) = some acc) (hd : n.path ≠ o.dest) (hm : movedN o n = m) (h0 : ¬ 0 < depthV m.path) : moveGo o [] t.ns = none := by
  obtain ⟨hlt, hn⟩ := List.getElem?_eq_some_iff.1 hk
  have e : t.ns = t.ns.take k ++ n :: t.ns.drop (k + 1) := by rw [← hn, ← List.drop_eq_getElem_cons hlt, List.take_append_drop]
  rw [e, moveGo_app, h]
  show moveGo o acc (n :: t.ns.drop (k + 1)) = none
  unfold moveGo
  rw [if_neg hd, hm, if_neg h0]
theorem move_skip {ns : List Nd} {o : Ov} {k : Nat} {acc : List Nd} {n : Nd} (hk : ns[k]? = some n) (h : moveGo o [] (ns.take k) = some acc) (hd : n.path = o.dest) : moveGo o [] (ns.take (k + 1)) = some acc := by
  obtain ⟨hlt, hn⟩ := List.getElem?_eq_some_iff.1 hk
  rw [List.take_succ_eq_append_getElem hlt, moveGo_snoc, h, hn]
  show moveGo o acc [n] = some acc
  unfold moveGo
  rw [if_pos hd]; rfl
theorem move_put {ns : List Nd} {o : Ov} {k : Nat} {acc : List Nd} {n m : Nd} (hk : ns[k]? = some n) (h : moveGo o [] (ns.take k) = some acc) (hd : n.path ≠ o.dest) (hm : movedN o n = m) (h0 : 0 < depthV m.path) : moveGo o [] (ns.take (k + 1)) = some (putN m acc) := by
  obtain ⟨hlt, hn⟩ := List.getElem?_eq_some_iff.1 hk
  rw [List.take_succ_eq_append_getElem hlt, moveGo_snoc, h, hn]
  show moveGo o acc [n] = some (putN m acc)
  unfold moveGo
  rw [if_neg hd, hm, if_pos h0]; rfl
theorem move_kind {t : Tv} {o : Ov} (h : (findV o.dest t.ns).isSome = true ∧ (dirAt t.ns o.dest = true ∨ dirAt t.ns o.path = true)) : moveV t o = (t, 4) := by unfold moveV; rw [if_pos h]
theorem move_none {t : Tv} {o : Ov} (h : ¬ ((findV o.dest t.ns).isSome = true ∧ (dirAt t.ns o.dest = true ∨ dirAt t.ns o.path = true))) (hd : dirB t.ns (dirV o.dest) = false) : moveV t o = (t, 2) := by
  unfold moveV; rw [if_neg h, hd]; rfl
theorem move_ok {t : Tv} {o : Ov} {acc : List Nd} (h : ¬ ((findV o.dest t.ns).isSome = true ∧ (dirAt t.ns o.dest = true ∨ dirAt t.ns o.path = true))) (hd : dirB t.ns (dirV o.dest) = true) (hm : moveGo o [] t.ns = some acc) : moveV t o = (⟨acc, t.next⟩, 0) := by
  unfold moveV; rw [if_neg h, hd, hm]; rfl
theorem move_fail {t : Tv} {o : Ov} (h : ¬ ((findV o.dest t.ns).isSome = true ∧ (dirAt t.ns o.dest = true ∨ dirAt t.ns o.path = true))) (hd : dirB t.ns (dirV o.dest) = true) (hm : moveGo o [] t.ns = none) : moveV t o = (t, 1) := by
  unfold moveV; rw [if_neg h, hd, hm]; rfl
theorem dirAt_of {ns : List Nd} {p : List UInt8} {i : Nat} {n : Nd} (h : findV p ns = some i) (hi : ns[i]? = some n) : dirAt ns p = n.dir := by unfold dirAt; rw [h]; simp only [hi]
theorem under_len {l d : List UInt8} (h : underV l d = true) : d.length ≤ l.length := by
  by_cases hl : 0 < depthV l
  · obtain ⟨ms, n, hf, rfl⟩ := depth_pos hl
    unfold underV at h
    rw [namesO_of hf] at h
    cases hd : namesO d with
    | none => rw [hd] at h; simp at h
    | some ks =>
      rw [hd] at h
      simp only [Bool.and_eq_true, decide_eq_true_eq, beq_iff_eq] at h
      obtain ⟨h1, h2⟩ := h
      have e := namesO_is hd
      rw [e.2]
      have e2 : ms ++ [n] = ks ++ (ms ++ [n]).drop ks.length := by
        conv => lhs; rw [← List.take_append_drop ks.length (ms ++ [n]), h2]
      have hne : (ms ++ [n]) ≠ [] := by simp
      unfold pathL
      rw [if_neg hne]
      by_cases hk : ks = []
      · rw [if_pos hk]
        unfold joinT
        cases ms <;> simp
      · rw [if_neg hk, e2]
        unfold joinT
        simp
  · rw [under_none_l hl] at h; cases h
theorem depth_short {l : List UInt8} (h : 0 < depthV l) : l.length ≤ 246 := by
  obtain ⟨ms, n, hf, rfl⟩ := depth_pos h
  exact pathL_len hf

set_option maxRecDepth 100000 in
set_option maxHeartbeats 2000000 in
theorem specMove (w : World) (v : Value) (t : Tv) (o : Ov) (i : Nat) (h : NRd w v t.ns) (hk0 : ∀ n c, v = .slice none n c → c = 0) (hl : t.ns.length ≤ 1048576) (hf : findV o.path t.ns = some i) (hi : i < t.ns.length) (hp : o.path.length ≤ 2000000) (hd : o.dest.length ≤ 2000000) (hz : ∀ n ∈ t.ns, n.path.length ≤ 2000000) :
    Calls Tryz.prog 99 #[.agg #[v, .int .i64 t.next], .agg #[.int .i64 o.kind, .string (strOf o.path), .string (strOf o.dest), .string (strOf o.data), .int .i64 o.mode, .int .i64 o.time]] w fun e w' => ∃ v', e = .returned (.tuple #[.agg #[v', .int .i64 (moveV t o).1.next], .int .i64 (moveV t o).2]) ∧ (∀ n c, v' = .slice none n c → c = 0) ∧ NRd w' v' (moveV t o).1.ns ∧ Below w.heap.size w w' := by
  obtain ⟨ns, next⟩ := t
  obtain ⟨kind, path, dest, data, mode, time⟩ := o
  simp only at h hl hf hi hp hd hz ⊢
  have HK := Lib.hid hk0
  have HZ := Lib.hid hz
  obtain ⟨g, k1, rfl, hg, hlc, hcm, hcs⟩ := h.at (by intro e; subst e; simp at hi)
  unfold maxLen at hcm
  have HFI := Lib.hid hf
  have HCS := Lib.hid hcs
  obtain ⟨wa, hwa⟩ : ∃ wa, w.alloc (.cells #[.slice (some ⟨g, 0, none⟩) ns.length k1, .int .i64 next] 26) = wa := ⟨_, rfl⟩
  obtain ⟨wb, hwb⟩ : ∃ wb, wa.alloc (.cells #[.int .i64 kind, .string (strOf path), .string (strOf dest), .string (strOf data), .int .i64 mode, .int .i64 time] 28) = wb := ⟨_, rfl⟩
  obtain ⟨wd, hwd⟩ : ∃ wd, wb.alloc (.cells #[.slice none 0 0, .int .i64 0] 26) = wd := ⟨_, rfl⟩
  have hsa : wa.heap.size = w.heap.size + 1 := by rw [← hwa]; simp
  have hsb : wb.heap.size = w.heap.size + 2 := by rw [← hwb]; simp [hsa]
  have hsd : wd.heap.size = w.heap.size + 3 := by rw [← hwd]; simp [hsb]
  have ba : Below w.heap.size w wa := by rw [← hwa]; exact (Below.refl _ _).alloc (Nat.le_refl _) _
  have bb : Below wa.heap.size wa wb := by rw [← hwb]; exact (Below.refl _ _).alloc (Nat.le_refl _) _
  have bd : Below wb.heap.size wb wd := by rw [← hwd]; exact (Below.refl _ _).alloc (Nat.le_refl _) _
  have TD := Lib.hid (show Blk wd w.heap.size #[.slice (some ⟨g, 0, none⟩) ns.length k1, .int .i64 next] 26 from ((show Blk wa w.heap.size #[.slice (some ⟨g, 0, none⟩) ns.length k1, .int .i64 next] 26 by rw [← hwa]; exact Blk.new _ _ _).on bb).on bd)
  have OD := Lib.hid (show Blk wd (w.heap.size + 1) #[.int .i64 kind, .string (strOf path), .string (strOf dest), .string (strOf data), .int .i64 mode, .int .i64 time] 28 from (show Blk wb (w.heap.size + 1) _ 28 by rw [← hwb, ← hsa]; exact Blk.new _ _ _).on bd)
  have RD := Lib.hid (show Blk wd (w.heap.size + 2) #[.slice none 0 0, .int .i64 0] 26 by rw [← hwd, ← hsb]; exact Blk.new _ _ _)
  have HWD := Lib.hid ((ba.trans (bb.mono (by omega))).trans (bd.mono (by omega)))
  have HN0 := Lib.hid h
  have HND := Lib.hid (h.on HWD.out)
  have s0 := fun q os => (TD.out.on (below_regrown wd q os)).cell 0
  have s1 := fun q os => (TD.out.on (below_regrown wd q os)).cell 1
  have s2 := fun q os => (OD.out.on (below_regrown wd q os)).cell 1
  have s3 := fun q os => (OD.out.on (below_regrown wd q os)).cell 2
  simp at s0 s1 s2 s3
  have K1 := Lib.hid (show ∀ (p : List UInt8) q os, Calls Tryz.prog 98 #[.agg #[.slice (some ⟨g, 0, none⟩) ns.length k1, .int .i64 next], .string (strOf p)] (Sort.grow (redrawn wd q) os) fun e w'' => e = .returned (.int .i64 (findI p ns)) ∧ ∃ p : Regrown, w'' = Sort.grow (redrawn wd p.d) p.os from fun p q os => Calls.regrown_of (specFind _ _ ns next p (HND.out.on (below_regrown wd q os))))
  clear h ba bb bd hf hk0 hz hcs
  go_enter Tryz.func99, Tryz.ntmps99
  go_wp2
  refine wp_region_quiet_below (by kernel_rfl) (by kernel_rfl) ?_
  repeat (go_big_quiet_step (exact K1.out _ _ _))
  refine wpQuiet_nil ?_
  intro w6 hw6
  obtain ⟨r, rfl⟩ := hw6
  have hbr := below_regrown wd r.d r.os
  have T1 := Lib.hid (TD.out.on hbr)
  have O1 := Lib.hid (OD.out.on hbr)
  have R1 := Lib.hid (RD.out.on hbr)
  have HW1 := Lib.hid (HWD.out.trans (hbr.mono HWD.out.size))
  have hs1 := hbr.size
  clear s0 s1 s2 s3 K1
  generalize Sort.grow (redrawn wd r.d) r.os = W1 at hbr T1 O1 R1 HW1 hs1 ⊢
  clear hbr
  have hfi : findI path ns = i := by unfold findI; rw [HFI.out]
  rw [hfi]
  obtain ⟨ni, hni⟩ : ∃ ni, ns[i]? = some ni := ⟨ns[i], List.getElem?_eq_getElem hi⟩
  have hda : dirAt ns path = ni.dir := dirAt_of HFI.out hni
  have hnc := ((HCS.out i hi).on hg HW1.out).c1
  rw [(List.getElem?_eq_some_iff.1 hni).2] at hnc
  have hiI : (i : Int) < (ns.length : Int) := by omega
  have t0 := T1.out.cell 0
  have t1 := T1.out.cell 1
  have r0 := R1.out.cell 0
  have r1 := R1.out.cell 1
  have q0 := R1.out.frozen 0
  have q1 := R1.out.frozen 1
  simp at t0 t1 r0 r1
  have HNI := Lib.hid hni
  have HDA := Lib.hid hda
  obtain ⟨bad, hbad⟩ : ∃ bad, ((findV dest ns).isSome && (dirAt ns dest || dirAt ns path)) = bad := ⟨_, rfl⟩
  have HBAD := Lib.hid hbad
  clear hni hda hbad hfi
  go_upto_region 2 with fail
  go_cut [7, 36] (fun fi c V => fi = .int .i64 (findI dest ns) ∧ c = .bool bad ∧ W1 = V)
  case first =>
    cases hfd : findV dest ns with
    | none =>
      have hfi : findI dest ns = -1 := by unfold findI; rw [hfd]
      have hb := HBAD.out
      have HFI2 := Lib.hid hfi
      rw [hfd] at hb
      rw [hfi]
      clear hfd hfi
      go_wp2
      go_meet
      exact ⟨by rw [HFI2.out], by rw [← hb]; rfl, rfl⟩
    | some j =>
      have hfi : findI dest ns = j := by unfold findI; rw [hfd]
      obtain ⟨hj, hjp, _⟩ := find_some hfd
      have hdj : dirAt ns dest = ns[j].dir := dirAt_of hfd (List.getElem?_eq_getElem hj)
      have hjc := ((HCS.out j hj).on hg HW1.out).c1
      have hjI : (j : Int) < (ns.length : Int) := by omega
      have hj0 : (0 : Int) ≤ (j : Int) := by omega
      have hb := HBAD.out
      have HFI2 := Lib.hid hfi
      rw [hfd, hdj, HDA.out] at hb
      rw [hfi]
      clear hfd hfi hdj
      obtain ⟨x, hx⟩ : ∃ x, ns[j].dir = x := ⟨_, rfl⟩
      rw [hx] at hb hjc
      obtain ⟨y, hy⟩ : ∃ y, ni.dir = y := ⟨_, rfl⟩
      rw [hy] at hb hnc
      cases x
      · go_wp2
        go_meet
        exact ⟨by rw [HFI2.out], by rw [← hb]; cases y <;> rfl, rfl⟩
      · go_wp2
        go_meet
        exact ⟨by rw [HFI2.out], by rw [← hb]; rfl, rfl⟩
  case rest =>
    obtain ⟨rfl, rfl, rfl⟩ := hcut
    clear hnc
    cases bad with
    | true =>
      have HV := Lib.hid (move_kind (t := ⟨ns, next⟩) (o := ⟨kind, path, dest, data, mode, time⟩) (by have := HBAD.out; simpa using this))
      go_wp2
      refine bodyPost_ret (v := .tuple #[.agg #[.slice (some ⟨g, 0, none⟩) ns.length k1, .int .i64 next], .int .i64 4]) ?_ rfl ⟨.slice (some ⟨g, 0, none⟩) ns.length k1, by rw [HV.out], HK.out, ?_, ?_⟩
      · simp [results, Tryz.results99, go_sem, r0, r1]
      · rw [HV.out]
        refine HN0.out.on ?_
        iterate 2 (refine Below.setCell ?_ (by simp <;> omega) _)
        exact HW1.out
      · iterate 2 (refine Below.setCell ?_ (by simp <;> omega) _)
        exact HW1.out
    | false =>
    have HNB := Lib.hid (show ¬ ((findV dest ns).isSome = true ∧ (dirAt ns dest = true ∨ dirAt ns path = true)) by have := HBAD.out; intro h; rw [h.1] at this; rcases h.2 with h | h <;> rw [h] at this <;> simp at this)
    have s0 := fun q os => (T1.out.on (below_regrown W1 q os)).cell 0
    have s1 := fun q os => (T1.out.on (below_regrown W1 q os)).cell 1
    have s2 := fun q os => (O1.out.on (below_regrown W1 q os)).cell 2
    simp at s0 s1 s2
    have HN1 := Lib.hid (HN0.out.on HW1.out)
    have K1 := Lib.hid (show ∀ q os, Calls Tryz.prog 64 #[.string (strOf dest)] (Sort.grow (redrawn W1 q) os) fun e w'' => e = .returned (.string (strOf (dirV dest))) ∧ ∃ p : Regrown, w'' = Sort.grow (redrawn W1 p.d) p.os from fun q os => Calls.regrown_of (by
      have := specDirOf (strOf dest) (Sort.grow (redrawn W1 q) os) (by rw [strOf_size]; unfold maxLen; omega)
      rw [strOf_data] at this; exact this))
    have K2 := Lib.hid (show ∀ q os, Calls Tryz.prog 63 #[.agg #[.slice (some ⟨g, 0, none⟩) ns.length k1, .int .i64 next], .string (strOf (dirV dest))] (Sort.grow (redrawn W1 q) os) fun e w'' => e = .returned (.bool (dirB ns (dirV dest))) ∧ ∃ p : Regrown, w'' = Sort.grow (redrawn W1 p.d) p.os from fun q os => Calls.regrown_of (specDir _ _ ns next _ (HN1.out.on (below_regrown W1 q os))))
    obtain ⟨b, hb⟩ : ∃ b, dirB ns (dirV dest) = b := ⟨_, rfl⟩
    rw [hb] at K2
    have HDB := Lib.hid hb
    clear hb t0 t1 r0 r1 q0 q1
    go_wp2
    refine wp_region_quiet_below (by kernel_rfl) (by kernel_rfl) ?_
    repeat (go_big_quiet_step (first | exact K1.out _ _ | exact K2.out _ _))
    refine wpQuiet_nil ?_
    intro w6 hw6
    obtain ⟨r, rfl⟩ := hw6
    have hbr := below_regrown W1 r.d r.os
    have T2 := Lib.hid (T1.out.on hbr)
    have O2 := Lib.hid (O1.out.on hbr)
    have R2 := Lib.hid (R1.out.on hbr)
    have HW2 := Lib.hid (HW1.out.trans (hbr.mono HW1.out.size))
    have hs2 := hbr.size
    clear s0 s1 s2 K1 K2
    generalize Sort.grow (redrawn W1 r.d) r.os = W2 at hbr T2 O2 R2 HW2 hs2 ⊢
    clear hbr
    have t0 := T2.out.cell 0
    have t1 := T2.out.cell 1
    have r0 := R2.out.cell 0
    have r1 := R2.out.cell 1
    have q0 := R2.out.frozen 0
    have q1 := R2.out.frozen 1
    simp at t0 t1 r0 r1
    cases b with
    | false =>
      have HV := Lib.hid (move_none (t := ⟨ns, next⟩) (o := ⟨kind, path, dest, data, mode, time⟩) HNB.out HDB.out)
      go_wp2
      refine bodyPost_ret (v := .tuple #[.agg #[.slice (some ⟨g, 0, none⟩) ns.length k1, .int .i64 next], .int .i64 2]) ?_ rfl ⟨.slice (some ⟨g, 0, none⟩) ns.length k1, by rw [HV.out], HK.out, ?_, ?_⟩
      · simp [results, Tryz.results99, go_sem, r0, r1]
      · rw [HV.out]
        refine HN0.out.on ?_
        iterate 2 (refine Below.setCell ?_ (by simp <;> omega) _)
        exact HW2.out
      · iterate 2 (refine Below.setCell ?_ (by simp <;> omega) _)
        exact HW2.out
    | true =>
    simp only [Bool.not_true]
    obtain ⟨W3, hW3⟩ : ∃ W3, W2.alloc (.cells #[.slice none 0 0, .int .i64 next] 26) = W3 := ⟨_, rfl⟩
    have b3 : Below W2.heap.size W2 W3 := by rw [← hW3]; exact (Below.refl _ _).alloc (Nat.le_refl _) _
    have hs3 : W3.heap.size = W2.heap.size + 1 := by rw [← hW3]; simp
    have X3 := Lib.hid (show Blk W3 W2.heap.size #[.slice none 0 0, .int .i64 next] 26 by rw [← hW3]; exact Blk.new _ _ _)
    have T3 := Lib.hid (T2.out.on b3)
    have O3 := Lib.hid (O2.out.on b3)
    have R3 := Lib.hid (R2.out.on b3)
    have HW3 := Lib.hid (HW2.out.trans (b3.mono HW2.out.size))
    clear b3 q0 q1 r0 r1 t0
    go_wp2
    go_loopw [9] (fun iv W => ∃ (k : Nat) (acc : List Nd) (v : Value), k ≤ ns.length ∧ iv = .int .i64 k ∧ Hid (moveGo ⟨kind, path, dest, data, mode, time⟩ [] (ns.take k) = some acc) ∧ Blk W W2.heap.size #[v, .int .i64 next] 26 ∧ NRow W (W2.heap.size + 1) v acc ∧ Hid (∀ n ∈ acc, n.path.length ≤ 2000000) ∧ acc.length ≤ k ∧ Below W2.heap.size W3 W ∧ W2.heap.size + 1 ≤ W.heap.size) (fun iv _ => ns.length - (intOf iv).toNat)
    case atStart => exact ⟨0, [], _, Nat.zero_le _, rfl, Lib.hid rfl, X3.out, NRow.nil _ _, Lib.hid (by simp), Nat.zero_le _, Below.refl _ _, by omega⟩
    case round =>
      obtain ⟨k, acc, v, hk, rfl, HM, hX, hR, HA, hal, hb, hsz⟩ := hrel
      obtain ⟨a2, k2, rfl⟩ := hR.shape
      have HX := Lib.hid hX
      have HR := Lib.hid hR
      have HB := Lib.hid hb
      have TW := Lib.hid (T3.out.below hb (by omega))
      have OW := Lib.hid (O3.out.below hb (by omega))
      have RW := Lib.hid (R3.out.below hb (by omega))
      have HWW := Lib.hid (HW3.out.trans (hb.mono (by omega)))
      clear hX hR hb
      by_cases hlt : k < ns.length
      rotate_left
      · have hki : ¬ (k : Int) < (ns.length : Int) := by omega
        have hke : k = ns.length := by omega
        have HM2 := HM.out
        rw [hke, List.take_length] at HM2
        have HV := Lib.hid (move_ok (t := ⟨ns, next⟩) HNB.out HDB.out HM2)
        have t0 := TW.out.cell 0
        have x0 := HX.out.cell 0
        have x1 := HX.out.cell 1
        have r0 := RW.out.cell 0
        have r1 := RW.out.cell 1
        have q0 := RW.out.frozen 0
        have q1 := RW.out.frozen 1
        simp at t0 x0 x1 r0 r1
        clear HM2
        go_wp2
        refine bodyPost_ret (v := .tuple #[.agg #[.slice a2 acc.length k2, .int .i64 next], .int .i64 0]) ?_ rfl ⟨.slice a2 acc.length k2, by rw [HV.out], ?_, ?_, ?_⟩
        · simp [results, Tryz.results99, go_sem, r0, r1]
        · exact HR.out.nocap
        · rw [HV.out]
          exact ((HR.out.other ⟨w.heap.size + 2, 0, none⟩ _ (by simp; omega)).other ⟨w.heap.size + 2, 1, none⟩ _ (by simp; omega)).rd
        · iterate 2 (refine Below.setCell ?_ (by simp <;> omega) _)
          exact HWW.out
      have hki : (k : Int) < (ns.length : Int) := by omega
      obtain ⟨np, nb, nm, nt, nid, ndt, hnd⟩ : ∃ np nb nm nt nid ndt, ns[k] = ⟨np, nb, nm, nt, nid, ndt⟩ := ⟨_, _, _, _, _, _, rfl⟩
      have hget : ns[k]? = some ⟨np, nb, nm, nt, nid, ndt⟩ := by rw [List.getElem?_eq_getElem hlt, hnd]
      have hnl : np.length ≤ 2000000 := HZ.out ⟨np, nb, nm, nt, nid, ndt⟩ (by rw [← hnd]; exact List.getElem_mem hlt)
      have hcn := (HCS.out k hlt).on hg HWW.out
      rw [hnd] at hcn
      have HGET := Lib.hid hget
      have m0 := hcn.c0
      have m1 := hcn.c1
      have m2 := hcn.c2
      have m3 := hcn.c3
      have m4 := hcn.c4
      have m5 := hcn.c5
      simp only at m0 m1 m2 m3 m4 m5
      obtain ⟨W6, hW6⟩ : ∃ W6, wr.alloc (.cells #[.string (strOf np), .bool nb, .int .i64 nm, .int .i64 nt, .int .i64 nid, .string (strOf ndt)] 37) = W6 := ⟨_, rfl⟩
      have b6 : Below wr.heap.size wr W6 := by rw [← hW6]; exact (Below.refl _ _).alloc (Nat.le_refl _) _
      have hs6 : W6.heap.size = wr.heap.size + 1 := by rw [← hW6]; simp
      have N6 := Lib.hid (show Blk W6 wr.heap.size #[.string (strOf np), .bool nb, .int .i64 nm, .int .i64 nt, .int .i64 nid, .string (strOf ndt)] 37 by rw [← hW6]; exact Blk.new _ _ _)
      have T6 := Lib.hid (TW.out.on b6)
      have O6 := Lib.hid (OW.out.on b6)
      have R6 := Lib.hid (RW.out.on b6)
      have X6 := Lib.hid (HX.out.on b6)
      have HR6 := Lib.hid (HR.out.on b6)
      have HB6 := Lib.hid (HB.out.trans (b6.mono (by omega)))
      have HB6W := Lib.hid b6
      have t0 := TW.out.cell 0
      have n0 := N6.out.cell 0
      have o1 := O6.out.cell 1
      have o2 := O6.out.cell 2
      simp at t0 n0 o1 o2
      clear hcn b6 hnd hget
      by_cases hed : np = dest
      · have ht := str_t hed
        have HS := Lib.hid (move_skip HGET.out HM.out hed)
        clear hed
        go_wp2
        go_roundw
        case rel => exact ⟨k + 1, acc, _, by omega, by go_num, HS, X6.out, HR6.out, HA, by omega, HB6.out, by omega⟩
        case measure => simp [intOf]; omega
      · have ht := str_f hed
        have HED := Lib.hid hed
        clear hed
        have CU := Lib.hid (show ∀ W, Calls Tryz.prog 141 #[.string (strOf np), .string (strOf path)] W fun e w' => e = .returned (.bool (underV np path)) ∧ Below W.heap.size W w' from fun W => by
          have := specUnder (strOf np) (strOf path) W (by rw [strOf_size]; exact hnl) (by rw [strOf_size]; exact hp)
          rw [strOf_data, strOf_data] at this; exact this)
        obtain ⟨mv, hmv⟩ : ∃ mv, (decide (np = path) || underV np path) = mv := ⟨_, rfl⟩
        have HMV := Lib.hid hmv
        clear hmv
        go_upto_region 12 with fail
        go_cut [76] (fun c V => c = .bool mv ∧ Below W6.heap.size W6 V)
        case first =>
          by_cases hep : np = path
          · have ht2 := str_t hep
            go_wp2
            go_meet
            exact ⟨by rw [← HMV.out, hep]; simp, Below.refl _ _⟩
          · have ht2 := str_f hep
            have hb := HMV.out
            go_wp2_with fail
            refine (CU.out _).mono ?_
            rintro e W7 ⟨rfl, hb7⟩
            go_wp2
            go_meet
            exact ⟨by rw [← hb, decide_eq_false hep, Bool.false_or], hb7⟩
        case rest =>
          obtain ⟨rfl, hb7⟩ := hcut
          have N7 := Lib.hid (N6.out.on hb7)
          have O7 := Lib.hid (O6.out.on hb7)
          have hs7 := hb7.size
          have HB67 := Lib.hid hb7
          have n0 := N7.out.cell 0
          have f0 := N7.out.frozen 0
          have o1 := O7.out.cell 1
          have o2 := O7.out.cell 2
          simp at n0 o1 o2
          clear hb7 CU t0 m0 m1 m2 m3 m4 m5 ht
          obtain ⟨mp, hmp⟩ : ∃ mp, (if mv = true then dest ++ np.drop path.length else np) = mp := ⟨_, rfl⟩
          have HMP := Lib.hid hmp
          clear hmp
          go_upto_if 76 with fail
          go_cut [77] (fun _ V => Blk V wr.heap.size #[.string (strOf mp), .bool nb, .int .i64 nm, .int .i64 nt, .int .i64 nid, .string (strOf ndt)] 37 ∧ Below wr.heap.size W6 V)
          case first =>
            cases mv with
            | false =>
              have hmp : np = mp := HMP.out
              go_wp2
              go_meet
              exact ⟨hmp ▸ N7.out, HB67.out.mono (by omega)⟩
            | true =>
              have hmp : dest ++ np.drop path.length = mp := HMP.out
              have hle : path.length ≤ np.length := by
                have h := HMV.out
                rw [Bool.or_eq_true] at h
                rcases h with h | h
                · exact (of_decide_eq_true h) ▸ Nat.le_refl _
                · exact under_len h
              have hsl := fun W => cutFrom (strOf np) path.length (by rw [strOf_size]; exact hle) W ((strOf path).size : Int) (by rw [strOf_size])
              have hex : (strOf np).extract path.length (strOf np).size = strOf (np.drop path.length) := by
                have h := extract_suf (strOf np) (np.take path.length) (np.drop path.length) (by rw [strOf_data, List.take_append_drop])
                rw [List.length_take, Nat.min_eq_left hle] at h
                exact h
              rw [hex] at hsl
              have hadd := fun W => addB (strOf dest) (strOf (np.drop path.length)) (by rw [strOf_size, strOf_size, List.length_drop]; omega) W
              simp only [strOf_data] at hadd
              rw [hmp] at hadd
              clear hex hmp
              go_wp2
              go_region
              all_goals
                go_wp2
                go_meet
                exact ⟨⟨(N7.out.set 0 (.string (strOf mp))).blk⟩, ((HB67.out.mono (by omega)).setCell (by simp) _).drew⟩
          case rest =>
            obtain ⟨hN, hbV⟩ := hcut
            have hsV := hbV.size
            have N8 := Lib.hid hN
            have HBV := Lib.hid (HB6W.out.trans hbV)
            have T8 := Lib.hid (T6.out.below hbV (by omega))
            have R8 := Lib.hid (R6.out.below hbV (by omega))
            have X8 := Lib.hid (X6.out.below hbV (by omega))
            have HR8 := Lib.hid (HR.out.on HBV.out)
            have HB8 := Lib.hid (HB.out.trans (HBV.out.mono (by omega)))
            have HW8 := Lib.hid (HWW.out.trans (HBV.out.mono (by omega)))
            have hmpl : mp.length ≤ 4000000 := by
              have h := HMP.out
              cases mv
              · have h : np = mp := h
                rw [← h]; omega
              · have h : dest ++ np.drop path.length = mp := h
                rw [← h, List.length_append, List.length_drop]; omega
            have HMN := Lib.hid (show movedN ⟨kind, path, dest, data, mode, time⟩ ⟨np, nb, nm, nt, nid, ndt⟩ = ⟨mp, nb, nm, nt, nid, ndt⟩ by
              have h := HMV.out
              have hq : (np = path ∨ underV np path = true) ↔ mv = true := by rw [← h]; simp
              show (if np = path ∨ underV np path = true then (⟨dest ++ np.drop path.length, nb, nm, nt, nid, ndt⟩ : Nd) else ⟨np, nb, nm, nt, nid, ndt⟩) = ⟨mp, nb, nm, nt, nid, ndt⟩
              rw [← HMP.out]
              by_cases hc : mv = true
              · rw [if_pos (hq.2 hc), if_pos hc]
              · rw [if_neg (fun x => hc (hq.1 x)), if_neg hc])
            have CP := specPathOk (strOf mp) wc (by rw [strOf_size]; unfold maxLen; omega)
            rw [strOf_data] at CP
            have n0 := N8.out.cell 0
            simp at n0
            clear hN hbV HMV HMP f0 o1 o2
            go_wp2_with fail
            refine CP.mono ?_
            rintro e W9 ⟨rfl, hb9⟩
            have hs9 := hb9.size
            have N9 := Lib.hid (N8.out.on hb9)
            have T9 := Lib.hid (T8.out.on hb9)
            have R9 := Lib.hid (R8.out.on hb9)
            have X9 := Lib.hid (X8.out.on hb9)
            have HR9 := Lib.hid (HR8.out.on hb9)
            have HB9 := Lib.hid (HB8.out.trans (hb9.mono (by omega)))
            have HW9 := Lib.hid (HW8.out.trans (hb9.mono (by omega)))
            clear hb9 CP n0
            by_cases h0 : 0 < depthV mp
            rotate_left
            · rw [decide_eq_false h0]
              have HV := Lib.hid (move_fail (t := ⟨ns, next⟩) HNB.out HDB.out (move_bad (t := ⟨ns, next⟩) HGET.out HM.out HED.out HMN.out h0))
              have t0 := T9.out.cell 0
              have t1 := T9.out.cell 1
              have r0 := R9.out.cell 0
              have r1 := R9.out.cell 1
              have q0 := R9.out.frozen 0
              have q1 := R9.out.frozen 1
              simp at t0 t1 r0 r1
              clear h0
              go_wp2
              refine bodyPost_ret (v := .tuple #[.agg #[.slice (some ⟨g, 0, none⟩) ns.length k1, .int .i64 next], .int .i64 1]) ?_ rfl ⟨.slice (some ⟨g, 0, none⟩) ns.length k1, by rw [HV.out], HK.out, ?_, ?_⟩
              · simp [results, Tryz.results99, go_sem, r0, r1]
              · rw [HV.out]
                refine HN0.out.on ?_
                iterate 2 (refine Below.setCell ?_ (by simp <;> omega) _)
                exact HW9.out
              · iterate 2 (refine Below.setCell ?_ (by simp <;> omega) _)
                exact HW9.out
            · rw [decide_eq_true h0]
              have hms := depth_short h0
              have HP := Lib.hid (move_put HGET.out HM.out HED.out HMN.out h0)
              have C := specPut W9 _ acc next ⟨mp, nb, nm, nt, nid, ndt⟩ HR9.out.rd (by omega) (by simp only; omega) HA.out
              simp only at C
              have x0 := X9.out.cell 0
              have x1 := X9.out.cell 1
              have n0 := N9.out.cell 0
              have n1 := N9.out.cell 1
              have n2 := N9.out.cell 2
              have n3 := N9.out.cell 3
              have n4 := N9.out.cell 4
              have n5 := N9.out.cell 5
              simp at x0 x1 n0 n1 n2 n3 n4 n5
              clear h0
              go_wp2_with fail
              refine C.mono ?_
              rintro e W10 ⟨v10, rfl, hR10, hb10⟩
              obtain ⟨a10, k10, rfl⟩ := hR10.shape
              have hs10 := hb10.size
              have X10 := Lib.hid (X9.out.on hb10)
              have HR10 := Lib.hid hR10
              have HB10 := Lib.hid (HB9.out.trans (hb10.mono (by omega)))
              have y0 := X10.out.cell 0
              have y1 := X10.out.cell 1
              have z0 := X10.out.frozen 0
              have z1 := X10.out.frozen 1
              simp at y0 y1
              clear hR10 hb10 C x0 x1 n0 n1 n2 n3 n4 n5
              go_wp2
              go_roundw
              case rel => exact ⟨k + 1, _, _, by omega, by go_num, HP, (X10.out.set 0 _).set 1 _, ((HR10.out.base (by omega)).other ⟨W2.heap.size, 0, none⟩ _ (by simp)).other ⟨W2.heap.size, 1, none⟩ _ (by simp), Lib.hid (fun n hn => by
                rcases (putN_mem _ n acc).1 hn with h | h
                · subst h; simp only; omega
                · exact HA.out n h), by rw [putN_len]; omega, (HB10.out.setCell (by simp) _).setCell (by simp) _, by simp; omega⟩
              case measure => simp [intOf]; omega
end Go.Proofs.YtipedabppgbfcaaGreatDoor
namespace Go.Proofs.YtipedabppgbfcaaGreatDoor
open Go.RowKit
variable {R : World}

theorem path_end {ns : List (List UInt8)} (hf : fit ns = true) (hn : ns ≠ []) (x : List UInt8) : pathL ns ≠ x ++ [47] := by
  intro e
  obtain ⟨ms, n, rfl⟩ := snoc_of hn
  have h1 := fit_free hf n (by simp)
  obtain ⟨m, c, rfl⟩ : ∃ m c, n = m ++ [c] := ⟨n.dropLast, n.getLast h1.1, (List.dropLast_concat_getLast h1.1).symm⟩
  rw [pathL_ne (by simp), joinT_append, joinT_cons, joinT_nil, List.append_nil] at e
  have e2 : (joinT ms ++ 47 :: m) ++ [c] = x ++ [47] := by rw [← e]; simp
  have e3 := (List.append_inj' e2 rfl).2
  simp at e3
  subst e3
  exact h1.2 (by simp)
/-- A node's path stands under another one just where it begins with that and a stroke. -/
theorem under_has {l d : List UInt8} (hl : 0 < depthV l) (hd : 0 < depthV d) : Lib.hasPrefix l (d ++ [47]) = underV l d := by
  obtain ⟨ns, hn0, hnf, rfl⟩ := names_pos hl
  obtain ⟨ms, hm0, hmf, rfl⟩ := names_pos hd
  rw [under_is hnf hmf hn0 hm0, ← Lib.hasPrefix_of_take, List.length_append, List.length_singleton]
  by_cases h : (pathL ms).length + 1 < (pathL ns).length
  · rw [decide_eq_true h, decide_eq_true (by omega)]
    by_cases h2 : (pathL ns).take ((pathL ms).length + 1) = pathL ms ++ [47] <;> simp [h2]
  · rw [decide_eq_false h, Bool.false_and, Bool.and_eq_false_iff]
    by_cases h2 : (pathL ms).length + 1 ≤ (pathL ns).length
    · right
      have e : (pathL ns).length = (pathL ms).length + 1 := by omega
      rw [← e, List.take_length]
      simpa using path_end hnf hn0 (pathL ms)
    · left; exact decide_eq_false h2
set_option maxRecDepth 100000 in
theorem wkIsUnder (b : Nat) (n : Nd) (d : List UInt8) (w : World) (h : WkAt w b n) (hn : 0 < depthV n.path) (hd : 0 < depthV d) : Calls Tryz.prog 180 #[.pointer (some ⟨b, 0, none⟩), .string (strOf d)] w fun e w' => e = .returned (.bool (underV n.path d)) ∧ w = w' := by
  have c0 := h.cells.1
  have hl := depth_short hd
  have hadd := addB (strOf d) ⟨#[47]⟩ (by have h1 : (⟨#[47]⟩ : ByteArray).size = 1 := rfl; rw [strOf_size]; omega)
  rw [strOf_data, show (⟨#[47]⟩ : ByteArray).data.toList = [47] from rfl] at hadd
  have CH := fun W => Tryz.strings_HasPrefix (strOf n.path) (strOf (d ++ [47])) W
  simp only [strOf_data] at CH
  rw [under_has hn hd] at CH
  generalize underV n.path d = z at CH ⊢
  clear h hn hd hl
  go_enter Tryz.func180, Tryz.ntmps180
  go_wp2_with (go_at_call 197; refine (CH _).mono ?_; rintro e w' ⟨rfl, rfl⟩)
  go_ret
  exact ⟨rfl, rfl⟩
/-- All nodes under a path, as interface values. -/
def underP (d : List UInt8) (ps : List (Nat × Nd)) : List (Nat × Nd) := ps.filter fun q => underV q.2.path d

set_option maxRecDepth 100000 in
set_option maxHeartbeats 2000000 in
theorem wkAllUnder (w : World) (B p : Nat) (v : Value) (ps : List (Nat × Nd)) (next : Int) (d : List UInt8) (h : Work R w B p v ps next) (hlen : ps.length ≤ 60) (hpp : ∀ q ∈ ps, 0 < depthV q.2.path) (hd : 0 < depthV d) :
    Calls Tryz.prog 156 #[.pointer (some ⟨p, 0, none⟩), .string (strOf d)] w fun e w' => ∃ v', e = .returned v' ∧ w'.ownsRow w.heap.size 149 1 v' (underP d ps).length ((underP d ps).map wkVal) ∧ Below w.heap.size w w' := by
  obtain ⟨j0, ji, jz0, jz1, jz2⟩ := info_parts infoWk
  have HW0 := Lib.hid h
  have HPP := Lib.hid hpp
  have c0 := h.top.cell 0
  simp at c0
  obtain ⟨a, cap, rfl⟩ := h.shape
  clear h hpp
  go_enter Tryz.func156, Tryz.ntmps156
  go_wp2
  go_loopw [5, 13] (fun lv iv W => ∃ (k : Nat) (qs : List (Nat × Nd)), k ≤ ps.length ∧ iv = .int .i64 k ∧ Hid (qs = underP d (ps.take k)) ∧ qs.length ≤ k ∧ W.ownsRow w.heap.size 149 1 lv qs.length (qs.map wkVal) ∧ Below w.heap.size w W) (fun _ iv _ => ps.length - (intOf iv).toNat)
  case atStart => exact ⟨0, [], Nat.zero_le _, rfl, Lib.hid (by simp [underP]), Nat.le_refl _, World.ownsRow_nil _ _ _ _, Below.refl _ _⟩
  case round =>
    obtain ⟨k, qs, hk, rfl, HQS, hql, hR, hb⟩ := hrel
    obtain ⟨a2, c2, rfl⟩ := own_slice hR
    have HR := Lib.hid hR
    have HB := Lib.hid hb
    clear hR hb
    by_cases hlt : k < ps.length
    rotate_left
    · have hki : ¬ (k : Int) < (ps.length : Int) := by omega
      have HE := Lib.hid (show qs = underP d ps by rw [HQS.out, List.take_of_length_le (by omega)])
      go_wp2
      go_ret
      exact ⟨_, rfl, by rw [← HE.out]; exact HR.out, HB.out⟩
    have hki : (k : Int) < (ps.length : Int) := by omega
    have HWW := Lib.hid (HW0.out.on HB.out)
    obtain ⟨g, c3, hs, hc⟩ := HWW.out.at hlt
    simp only [Value.slice.injEq] at hs
    obtain ⟨rfl, _, rfl⟩ := hs
    have hn := (HWW.out.node _ (List.getElem_mem hlt)).2
    have hpk := HPP.out _ (List.getElem_mem hlt)
    have HTK := Lib.hid (List.take_succ_eq_append_getElem hlt)
    generalize hq : ps[k] = q at hc hn hpk
    have HQ := Lib.hid hq
    obtain ⟨b, nd⟩ := q
    have CB := fun W => wkBase b W
    have CU := wkIsUnder b nd d wr hn hpk hd
    have HU := Lib.hid (show underP d (ps.take (k + 1)) = if underV nd.path d = true then qs ++ [(b, nd)] else qs by
      rw [HTK.out, HQ.out, HQS.out]
      unfold underP
      rw [List.filter_append]
      by_cases e : underV nd.path d = true <;> simp [e])
    generalize underV nd.path d = z at CU HU
    have n1 := fun W => nil_folder "loop.example/g00704/impl.base" b W (.inl rfl)
    have n2 := fun W => nil_file "loop.example/g00704/impl.base" b W (.inl rfl)
    have m1 := fun W => base_folder b W
    have m2 := fun W => base_file b W
    have hcell : ∃ t, wkVal (b, nd) = .iface t (.pointer (some ⟨b, 0, none⟩)) ∧ (t = 140 ∨ t = 143) := by
      cases hd : nd.dir with
      | true => exact ⟨_, wkVal_dir hd, .inl rfl⟩
      | false => exact ⟨_, wkVal_file hd, .inr rfl⟩
    obtain ⟨t, ht, htt⟩ := hcell
    have HT := Lib.hid ht
    rw [ht] at hc
    clear hq hn hpk ht c0
    have hBs := HB.out.size
    rcases htt with rfl | rfl
    all_goals
      cases z with
      | true =>
        have HU1 : Hid (underP d (ps.take (k + 1)) = qs ++ [(b, nd)]) := Lib.hid HU.out
        clear HU
        go_wp2_with (first
          | (go_at_call 254; refine (CB _).mono ?_; rintro e w' ⟨rfl, rfl⟩)
          | (go_at_call 180; refine CU.mono ?_; rintro e w' ⟨rfl, rfl⟩)
          | (at_builtin; refine wpList_append_lies _ rfl _ _ _ rfl w.heap.size 149 j0 .nilIface 1 16 Tryz.underlying135 ji jz0 jz1 jz2 rfl (by decide) _ qs.length (qs.map wkVal) rfl (HR.out.alloc _) ⟨wr.heap.size, 0, none⟩ 1 1 [wkVal (b, nd)] rfl rfl (by rw [HT.out]; exact cell_one0 _ _) (by simp; rfl) (by decide) (by unfold maxLen; omega) (by omega) (by simp; omega) _ rfl ?_; intro g1 cap1 w1 hown1 hgrow1 hat1 hlt1))
        go_roundw
        case rel => exact ⟨k + 1, qs ++ [(b, nd)], by omega, by go_num, Lib.hid HU1.out.symm, by simp; omega, by simpa using hown1, (HB.out.alloc (by omega) _).grown hgrow1 (by simp; omega) (fun j e => by have := (World.ownsRow.lt HR.out j e).1; omega)⟩
        case measure => simp [intOf]; omega
      | false =>
        have HU1 : Hid (underP d (ps.take (k + 1)) = qs) := Lib.hid HU.out
        clear HU
        go_wp2_with (first
          | (go_at_call 254; refine (CB _).mono ?_; rintro e w' ⟨rfl, rfl⟩)
          | (go_at_call 180; refine CU.mono ?_; rintro e w' ⟨rfl, rfl⟩))
        go_roundw
        case rel => exact ⟨k + 1, qs, by omega, by go_num, Lib.hid HU1.out.symm, by omega, HR.out, HB.out⟩
        case measure => simp [intOf]; omega
end Go.Proofs.YtipedabppgbfcaaGreatDoor
