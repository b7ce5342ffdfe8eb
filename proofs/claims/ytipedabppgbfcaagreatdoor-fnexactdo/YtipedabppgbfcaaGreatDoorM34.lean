/- impl.DoAll of a list that isn't empty, impl.Do. The contract of spec.l07Without: a tree without a node of a path. -/
import Derived.Test.YtipedabppgbfcaaGreatDoorM32
import Derived.Test.YtipedabppgbfcaaGreatDoorM19
import Derived.Test.YtipedabppgbfcaaGreatDoorM33
import Derived.Test.YtipedabppgbfcaaGreatDoorM20
import Derived.Test.YtipedabppgbfcaaGreatDoorM18
namespace Go.Proofs.YtipedabppgbfcaaGreatDoor
open Go.RowKit
variable {R : World}

structure OpAt (w : World) (g o : Nat) (x : Ov) : Prop where
  c0 : w.cell? ⟨g, o, none⟩ = some (.int .i64 x.kind)
  c1 : w.cell? ⟨g, o + 1, none⟩ = some (.string (strOf x.path))
  c2 : w.cell? ⟨g, o + 2, none⟩ = some (.string (strOf x.dest))
  c3 : w.cell? ⟨g, o + 3, none⟩ = some (.string (strOf x.data))
  c4 : w.cell? ⟨g, o + 4, none⟩ = some (.int .i64 x.mode)
  c5 : w.cell? ⟨g, o + 5, none⟩ = some (.int .i64 x.time)
theorem OpAt.on {w w' : World} {g o : Nat} {n : Ov} (h : OpAt w g o n) (hg : g < w.heap.size) (hb : Below w.heap.size w w') : OpAt w' g o n :=
  ⟨(hb.cell (p := ⟨g, o, none⟩) hg).trans h.c0, (hb.cell (p := ⟨g, o + 1, none⟩) hg).trans h.c1, (hb.cell (p := ⟨g, o + 2, none⟩) hg).trans h.c2, (hb.cell (p := ⟨g, o + 3, none⟩) hg).trans h.c3, (hb.cell (p := ⟨g, o + 4, none⟩) hg).trans h.c4, (hb.cell (p := ⟨g, o + 5, none⟩) hg).trans h.c5⟩
/-- A row of ops that is read. -/
def ORd (w : World) (v : Value) (os : List Ov) : Prop :=
  ∃ g cap, v = .slice (some ⟨g, 0, none⟩) os.length cap ∧ os.length ≤ cap ∧ cap ≤ maxLen ∧ g < w.heap.size ∧ ∀ i (hi : i < os.length), OpAt w g (i * 6) os[i]
theorem ORd.on {w w' : World} {v : Value} {os : List Ov} (h : ORd w v os) (hb : Below w.heap.size w w') : ORd w' v os := by
  obtain ⟨g, cap, hv, hl, hm, hg, hc⟩ := h
  exact ⟨g, cap, hv, hl, hm, Nat.lt_of_lt_of_le hg hb.size, fun i hi => (hc i hi).on hg hb⟩
/-- Of what is refused nothing is done. -/
theorem do_same {t : Tv} {o : Ov} (h : (doV t o).2 ≠ 0) : (doV t o).1 = t := by
  unfold doV at h ⊢
  split at h <;> rename_i h1
  · rw [if_pos h1]
    split at h <;> rename_i h2
    · exact absurd rfl h
    · rw [if_neg h2]
      split at h <;> rename_i h3
      · rw [if_pos h3]
        unfold newV at h ⊢
        split at h <;> rename_i h4
        · rw [if_pos h4]
        · rw [if_neg h4]
          split at h <;> rename_i h5
          · rw [if_pos h5]
            split at h <;> rename_i h6
            · rw [if_pos h6]
            · exact absurd rfl h
          · rw [if_neg h5]
      · rw [if_neg h3]
        split at h <;> rename_i h4
        · rw [if_pos h4]
          split at h <;> rename_i h5
          · rw [if_pos h5]
            unfold moveV at h ⊢
            split at h <;> rename_i h6
            · rw [if_pos h6]
            · rw [if_neg h6]
              split at h <;> rename_i h7
              · rw [if_pos h7]
                cases hm : moveGo o [] t.ns with
                | none => rfl
                | some a => rw [hm] at h; exact absurd rfl h
              · rw [if_neg h7]
          · rw [if_neg h5]
            split at h <;> rename_i h6
            · rw [if_pos h6]
              split at h <;> rename_i h7
              · rw [if_pos h7]
              · exact absurd rfl h
            · rw [if_neg h6]
              unfold changeV at h ⊢
              cases hf : findV o.path t.ns with
              | none => rfl
              | some i =>
                rw [hf] at h
                simp only at h ⊢
                cases hn : t.ns[i]? with
                | none => rfl
                | some n =>
                  rw [hn] at h
                  simp only at h ⊢
                  split at h <;> rename_i h8
                  · exact absurd rfl h
                  · rw [if_neg h8]
        · rw [if_neg h4]
  · rw [if_neg h1]
theorem node_bare {n : Nd} {next : Int} (h : nodeB n next = true) (hd : n.dir = true) : n.data = [] := by
  unfold nodeB at h
  simp only [Bool.and_eq_true, Bool.or_eq_true] at h
  rcases h.2.2.2.2.2 with h | h
  · rw [hd] at h; cases h
  · simpa using h
theorem all_bad {t : Tv} {os : List Ov} (h : treeB t.ns t.next = false) (hne : os ≠ []) : doAllV t os = (⟨[], 0⟩, 0, 1) := by unfold doAllV; rw [h, if_neg (by decide), if_neg hne]
theorem all_go {t : Tv} {os : List Ov} (h : treeB t.ns t.next = true) : doAllV t os = doGo t os 0 := by unfold doAllV; rw [if_pos h]
theorem doGo_stop {t : Tv} {o : Ov} {r : List Ov} {k : Nat} (h : (doV t o).2 ≠ 0) : doGo t (o :: r) k = (t, k, (doV t o).2) := by
  show (if (doV t o).2 = 0 then _ else _) = _
  rw [if_neg h]
theorem doGo_on {t : Tv} {o : Ov} {r : List Ov} {k : Nat} (h : (doV t o).2 = 0) : doGo t (o :: r) k = doGo (doV t o).1 r (k + 1) := by
  show (if (doV t o).2 = 0 then _ else _) = _
  rw [if_pos h]

set_option maxRecDepth 100000 in
set_option maxHeartbeats 2000000 in
theorem implDoAllN (w : World) (v v2 : Value) (ns : List Nd) (next : Int) (os : List Ov) (h : NRd w v ns) (ho : ORd w v2 os) (hne : os ≠ []) (hol : os.length ≤ 2000000) (hz : ∀ n ∈ ns, n.path.length ≤ 2000000 ∧ n.data.length ≤ 2000000) (hoz : ∀ o ∈ os, o.path.length ≤ 2000000 ∧ o.dest.length ≤ 2000000 ∧ o.data.length ≤ 2000000) :
    Calls Tryz.prog 25 #[.agg #[v, .int .i64 next], v2] w fun e w' => ∃ v', e = .returned (.tuple #[.agg #[v', .int .i64 (doAllV ⟨ns, next⟩ os).1.next], .int .i64 (doAllV ⟨ns, next⟩ os).2.1, .int .i64 (doAllV ⟨ns, next⟩ os).2.2]) ∧ NRow w' w.heap.size v' (doAllV ⟨ns, next⟩ os).1.ns ∧ Below w.heap.size w w' := by
  obtain ⟨a1, k1, rfl⟩ : ∃ a c, v = .slice a ns.length c := by obtain ⟨a, c, h, _⟩ := h; exact ⟨a, c, h⟩
  have HO := Lib.hid ho
  obtain ⟨g, cap, rfl, hl, hm, hg, hc⟩ := ho
  have HN := Lib.hid h
  obtain ⟨wa, hwa⟩ : ∃ wa, w.alloc (.cells #[.slice a1 ns.length k1, .int .i64 next] 26) = wa := ⟨_, rfl⟩
  obtain ⟨wb, hwb⟩ : ∃ wb, wa.alloc (.cells #[.slice none 0 0, .int .i64 0] 26) = wb := ⟨_, rfl⟩
  have hsa : wa.heap.size = w.heap.size + 1 := by rw [← hwa]; simp
  have hsb : wb.heap.size = w.heap.size + 2 := by rw [← hwb]; simp [hsa]
  have ba : Below w.heap.size w wa := by rw [← hwa]; exact (Below.refl _ _).alloc (Nat.le_refl _) _
  have bb : Below wa.heap.size wa wb := by rw [← hwb]; exact (Below.refl _ _).alloc (Nat.le_refl _) _
  have T0 := (show Blk wa w.heap.size #[.slice a1 ns.length k1, .int .i64 next] 26 by rw [← hwa]; exact Blk.new _ _ _).on bb
  have R0 : Blk wb (w.heap.size + 1) #[.slice none 0 0, .int .i64 0] 26 := by rw [← hwb, ← hsa]; exact Blk.new _ _ _
  have t0 := T0.cell 0
  have t1 := T0.cell 1
  have r0 := R0.cell 0
  have r1 := R0.cell 1
  simp at t0 t1 r0 r1
  have hab := ba.trans (bb.mono ba.size)
  have CT := implTreeOk wb _ ns next (HN.out.on hab) hz
  have HB := Lib.hid hab
  have HT := Lib.hid T0
  have HRB := Lib.hid R0
  have hpos : (0 : Int) < (os.length : Int) := by have := List.length_pos_iff.2 hne; omega
  have hn0 : ((os.length : Int) == 0) = false := by simp; omega
  clear ba bb hab T0 R0 h hc
  cases htb : treeB ns next with
  | false =>
    have HE := Lib.hid (all_bad (t := ⟨ns, next⟩) htb hne)
    rw [htb] at CT
    clear htb
    go_enter Tryz.func25, Tryz.ntmps25
    go_wp2_with (go_at_call 20; refine CT.mono ?_; rintro e W1 ⟨rfl, hb1⟩; (have HB1 := Lib.hid hb1); (have c0 := (HRB.out.on hb1).cell 0); (have c1 := (HRB.out.on hb1).cell 1); (have f0 := (HRB.out.on hb1).frozen 0); (have f1 := (HRB.out.on hb1).frozen 1); simp at c0 c1; clear r0 r1 hb1)
    refine bodyPost_ret (v := .tuple #[.agg #[.slice none 0 0, .int .i64 0], .int .i64 0, .int .i64 1]) ?_ rfl ⟨.slice none 0 0, by rw [HE.out]; rfl, by rw [HE.out]; exact NRow.nil _ _, ?_⟩
    · simp [results, Tryz.results25, go_sem, c0, c1]
    · iterate 2 (refine Below.setCell ?_ (by simp) _)
      exact HB.out.trans (HB1.out.mono HB.out.size)
  | true =>
    have HR := Lib.hid (Right.of htb)
    have HE := Lib.hid (all_go (t := ⟨ns, next⟩) (os := os) htb)
    rw [htb] at CT
    clear htb
    have CW := Lib.hid (fun W (hb : Below wb.heap.size wb W) => wkOn W _ ns next ((HN.out.on HB.out).on hb) (fun n hn hd => node_bare (HR.out.node n hn) hd) HR.out.len)
    go_enter Tryz.func25, Tryz.ntmps25
    go_wp2_with (first | (go_at_call 20; refine CT.mono ?_; rintro e W1 ⟨rfl, hb1⟩; (have HB1 := Lib.hid hb1); (have c0 := (HT.out.on hb1).cell 0); (have c1 := (HT.out.on hb1).cell 1); simp at c0 c1; clear t0 t1 hb1) | (go_at_call 73; refine (CW.out _ HB1.out).mono ?_; rintro e W2 ⟨p, rfl, v2, ps, hW2, hn2, hb2⟩))
    have HBW2 := Lib.hid (show Below w.heap.size w W2 from (HB.out.trans (HB1.out.mono HB.out.size)).trans (hb2.mono (by have := HB1.out.size; omega)))
    have HRB2 := Lib.hid ((HRB.out.on HB1.out).on hb2)
    have HWK := Lib.hid (hW2.base (B' := w.heap.size + 2) (by have := HB1.out.size; omega))
    have HR2 := Lib.hid (show Right (nds ps) next by rw [hn2]; exact HR.out)
    have HE2 := Lib.hid (show doAllV ⟨ns, next⟩ os = doGo ⟨nds ps, next⟩ (os.drop 0) 0 by rw [hn2]; exact HE.out)
    have hs12 := HB1.out.size
    have hs2 := hb2.size
    clear hW2 hn2 hb2 c0 c1 r0 r1 HE HR CW CT
    go_loopw [28] (fun iv W => ∃ (k : Nat) (v : Value) (ps : List (Nat × Nd)) (nx : Int), k ≤ os.length ∧ iv = .int .i64 k ∧ Hid (Work W1 W (w.heap.size + 2) p v ps nx) ∧ Hid (Right (nds ps) nx) ∧ Hid (doAllV ⟨ns, next⟩ os = doGo ⟨nds ps, nx⟩ (os.drop k) k) ∧ Hid (Blk W (w.heap.size + 1) #[.slice none 0 0, .int .i64 0] 26) ∧ Hid (Below w.heap.size w W)) (fun iv _ => os.length - (intOf iv).toNat)
    case atStart => exact ⟨0, v2, ps, next, Nat.zero_le _, rfl, HWK, HR2, HE2, HRB2, HBW2⟩
    case round =>
      clear HWK HR2 HE2 HRB2 HBW2 HRB
      obtain ⟨k, v, ps, nx, hk, rfl, HWK, HR, HE, HRB, HBW⟩ := hrel
      by_cases hlt : k < os.length
      · have hki : (k : Int) < (os.length : Int) := by omega
        obtain ⟨g2, cap2, hs, _, _, hg2, hc⟩ := HO.out
        simp only [Value.slice.injEq, Option.some.injEq, Addr.mk.injEq] at hs
        obtain ⟨⟨rfl, _⟩, _, rfl⟩ := hs
        have hck := (hc k hlt).on hg2 HBW.out
        have hzk := hoz os[k] (List.getElem_mem hlt)
        have HDR := Lib.hid (List.drop_eq_getElem_cons hlt)
        generalize hq : os[k] = o at hck hzk
        have HQ := Lib.hid hq
        obtain ⟨kind, path, dest, data, mode, time⟩ := o
        obtain ⟨e0, e1, e2, e3, e4, e5⟩ := hck
        obtain ⟨z1, z2, z3⟩ := hzk
        simp only at e0 e1 e2 e3 e4 e5 z1 z2 z3
        obtain ⟨W3, hW3⟩ : ∃ W, wr.alloc (.cells #[.int .i64 kind, .string (strOf path), .string (strOf dest), .string (strOf data), .int .i64 mode, .int .i64 time] 28) = W := ⟨_, rfl⟩
        have b3 : Below wr.heap.size wr W3 := by rw [← hW3]; exact (Below.refl _ _).alloc (Nat.le_refl _) _
        have O3 : Blk W3 wr.heap.size #[.int .i64 kind, .string (strOf path), .string (strOf dest), .string (strOf data), .int .i64 mode, .int .i64 time] 28 := by rw [← hW3]; exact Blk.new _ _ _
        have s0 := O3.cell 0
        have s1 := O3.cell 1
        have s2 := O3.cell 2
        have s3 := O3.cell 3
        have s4 := O3.cell 4
        have s5 := O3.cell 5
        simp at s0 s1 s2 s3 s4 s5
        have HW3 := Lib.hid (HWK.out.on b3)
        have HRB3 := Lib.hid (HRB.out.on b3)
        have HB3 := Lib.hid (HBW.out.trans (b3.mono HBW.out.size))
        have CD := wkDo6 kind mode time path dest data W3 (w.heap.size + 2) p v ps nx HW3.out HR.out z1 z2 z3
        have HKR := Lib.hid (do_right (t := ⟨nds ps, nx⟩) (o := ⟨kind, path, dest, data, mode, time⟩) HR.out)
        have HSM := Lib.hid (do_same (t := ⟨nds ps, nx⟩) (o := ⟨kind, path, dest, data, mode, time⟩))
        have HST := Lib.hid (doGo_stop (t := ⟨nds ps, nx⟩) (o := ⟨kind, path, dest, data, mode, time⟩) (r := os.drop (k + 1)) (k := k))
        have HON := Lib.hid (doGo_on (t := ⟨nds ps, nx⟩) (o := ⟨kind, path, dest, data, mode, time⟩) (r := os.drop (k + 1)) (k := k))
        have HE3 := Lib.hid (show doAllV ⟨ns, next⟩ os = doGo ⟨nds ps, nx⟩ (⟨kind, path, dest, data, mode, time⟩ :: os.drop (k + 1)) k by rw [HE.out, HDR.out, HQ.out])
        generalize doV ⟨nds ps, nx⟩ ⟨kind, path, dest, data, mode, time⟩ = r at CD HKR HSM HST HON
        obtain ⟨⟨rns, rnx⟩, code⟩ := r
        simp only at HKR HSM HST HON
        clear O3 b3 hc hq z1 z2 z3 HWK HRB HE
        by_cases h0 : code = 0
        · subst h0
          go_wp2_with (go_at_call 74; refine CD.mono ?_; rintro e W4 ⟨rfl, v4, ps4, hW4, hn4, hb4⟩)
          go_roundw
          case rel =>
            refine ⟨k + 1, v4, ps4, rnx, by omega, by go_num, Lib.hid hW4, Lib.hid (by rw [hn4]; exact HKR.out), Lib.hid ?_, Lib.hid (HRB3.out.below hb4 (by omega)), Lib.hid (HB3.out.trans (hb4.mono (by omega)))⟩
            rw [HE3.out, HON.out (by first | rfl | trivial), hn4]
          case measure => simp [intOf]; omega
        · have hcb : (code != 0) = true := by simp [h0]
          have hns : (⟨rns, rnx⟩ : Tv) = ⟨nds ps, nx⟩ := HSM.out h0
          have hn1 : rns = nds ps := congrArg Tv.ns hns
          have hn2 : rnx = nx := congrArg Tv.next hns
          subst hn2
          have HE4 := Lib.hid (show doAllV ⟨ns, next⟩ os = (⟨nds ps, rnx⟩, k, code) by rw [HE3.out, HST.out h0])
          have HN1 := Lib.hid hn1
          clear hns hn1 HSM HST HON
          go_wp2_with (first
            | (go_at_call 74; refine CD.mono ?_; rintro e W4 ⟨rfl, v4, ps4, hW4, hn4, hb4⟩; (have HN4 := Lib.hid (hn4.trans HN1.out)); (have HL4 := Lib.hid (show ps4.length ≤ 60 by have := HR.out.len; rw [← HN1.out] at this; rw [← nds_len ps4, hn4]; exact this)); (have CT := wkTree W4 (w.heap.size + 2) p v4 ps4 rnx hW4 HL4.out); (have HRX := Lib.hid (HRB3.out.below hb4 (by omega))); (have HB4 := Lib.hid (HB3.out.trans (hb4.mono (by omega)))); (have hs4 : w.heap.size + 2 ≤ W4.heap.size := by have := hW4.plt; omega); clear hW4 hb4 hn4 CD)
            | (go_at_call 75; refine CT.mono ?_; rintro e W5 ⟨v5, rfl, hR5, hb5⟩; (obtain ⟨a5, k5, rfl⟩ := hR5.shape); (have HR5 := Lib.hid hR5); (have HB5 := Lib.hid hb5); (have c0 := (HRX.out.on hb5).cell 0); (have c1 := (HRX.out.on hb5).cell 1); (have f0 := (HRX.out.on hb5).frozen 0); (have f1 := (HRX.out.on hb5).frozen 1); simp at c0 c1; clear hR5 hb5))
          refine bodyPost_ret (v := .tuple #[.agg #[.slice a5 (nds ps4).length k5, .int .i64 rnx], .int .i64 k, .int .i64 code]) ?_ rfl ⟨.slice a5 (nds ps4).length k5, by rw [HE4.out], ?_, ?_⟩
          · simp [results, Tryz.results25, go_sem, c0, c1]
          · rw [HE4.out]
            refine NRow.base (B := W4.heap.size) ?_ (by omega)
            iterate 2 (refine NRow.other ?_ _ _ (by show w.heap.size + 1 < W4.heap.size; omega))
            rw [← HN4.out]; exact HR5.out
          · iterate 2 (refine Below.setCell ?_ (by simp) _)
            exact HB4.out.trans (HB5.out.mono HB4.out.size)
      · have hki : ¬ (k : Int) < (os.length : Int) := by omega
        obtain rfl : k = os.length := by omega
        have CT := wkTree wr (w.heap.size + 2) p v ps nx HWK.out (by have := HR.out.len; rw [nds_len] at this; exact this)
        have HRX := HRB
        have HE4 := Lib.hid (show doAllV ⟨ns, next⟩ os = (⟨nds ps, nx⟩, os.length, 0) by rw [HE.out, List.drop_length]; rfl)
        have hs4 : w.heap.size + 2 ≤ wr.heap.size := by have := HWK.out.plt; omega
        go_wp2_with (go_at_call 75; refine CT.mono ?_; rintro e W5 ⟨v5, rfl, hR5, hb5⟩; (obtain ⟨a5, k5, rfl⟩ := hR5.shape); (have HR5 := Lib.hid hR5); (have HB5 := Lib.hid hb5); (have c0 := (HRX.out.on hb5).cell 0); (have c1 := (HRX.out.on hb5).cell 1); (have f0 := (HRX.out.on hb5).frozen 0); (have f1 := (HRX.out.on hb5).frozen 1); simp at c0 c1; clear hR5 hb5)
        refine bodyPost_ret (v := .tuple #[.agg #[.slice a5 (nds ps).length k5, .int .i64 nx], .int .i64 os.length, .int .i64 0]) ?_ rfl ⟨.slice a5 (nds ps).length k5, by rw [HE4.out], ?_, ?_⟩
        · simp [results, Tryz.results25, go_sem, c0, c1]
        · rw [HE4.out]
          refine NRow.base (B := wr.heap.size) ?_ (by omega)
          iterate 2 (refine NRow.other ?_ _ _ (by show w.heap.size + 1 < wr.heap.size; omega))
          exact HR5.out
        · iterate 2 (refine Below.setCell ?_ (by simp) _)
          exact HBW.out.trans (HB5.out.mono HBW.out.size)
theorem all_one (t : Tv) (o : Ov) : (doAllV t [o]).1 = (doOneV t o).1 ∧ (doAllV t [o]).2.2 = (doOneV t o).2 := by
  unfold doAllV doOneV
  by_cases h : treeB t.ns t.next = true
  · rw [if_pos h, if_pos h]
    by_cases h0 : (doV t o).2 = 0
    · rw [doGo_on h0]; exact ⟨rfl, h0.symm⟩
    · rw [doGo_stop h0]; exact ⟨(do_same h0).symm, rfl⟩
  · rw [if_neg h, if_neg h, if_neg (by simp)]; exact ⟨rfl, rfl⟩

set_option maxRecDepth 100000 in
set_option maxHeartbeats 2000000 in
theorem implDo6 (w : World) (v : Value) (ns : List Nd) (next : Int) (kind mode time : Int) (path dest data : List UInt8) (h : NRd w v ns) (hz : ∀ n ∈ ns, n.path.length ≤ 2000000 ∧ n.data.length ≤ 2000000) (h1 : path.length ≤ 2000000) (h2 : dest.length ≤ 2000000) (h3 : data.length ≤ 2000000) :
    Calls Tryz.prog 17 #[.agg #[v, .int .i64 next], .agg #[.int .i64 kind, .string (strOf path), .string (strOf dest), .string (strOf data), .int .i64 mode, .int .i64 time]] w fun e w' => ∃ v', e = .returned (.tuple #[.agg #[v', .int .i64 (doOneV ⟨ns, next⟩ ⟨kind, path, dest, data, mode, time⟩).1.next], .int .i64 (doOneV ⟨ns, next⟩ ⟨kind, path, dest, data, mode, time⟩).2]) ∧ NRow w' w.heap.size v' (doOneV ⟨ns, next⟩ ⟨kind, path, dest, data, mode, time⟩).1.ns ∧ Below w.heap.size w w' := by
  obtain ⟨a1, k1, rfl⟩ : ∃ a c, v = .slice a ns.length c := by obtain ⟨a, c, h, _⟩ := h; exact ⟨a, c, h⟩
  have HN := Lib.hid h
  have HC := Lib.hid (fun W g (hb : Below w.heap.size w W) (ho : ORd W (.slice (some ⟨g, 0, none⟩) 1 1) [⟨kind, path, dest, data, mode, time⟩]) => implDoAllN W (.slice a1 ns.length k1) (.slice (some ⟨g, 0, none⟩) 1 1) ns next [⟨kind, path, dest, data, mode, time⟩] (HN.out.on hb) ho (by simp) (by simp) hz (by intro o ho; simp at ho; subst ho; exact ⟨h1, h2, h3⟩))
  have HA := Lib.hid (all_one ⟨ns, next⟩ ⟨kind, path, dest, data, mode, time⟩)
  obtain ⟨wa, hwa⟩ : ∃ wa, w.alloc (.cells #[.slice a1 ns.length k1, .int .i64 next] 26) = wa := ⟨_, rfl⟩
  obtain ⟨wb, hwb⟩ : ∃ wb, wa.alloc (.cells #[.int .i64 kind, .string (strOf path), .string (strOf dest), .string (strOf data), .int .i64 mode, .int .i64 time] 28) = wb := ⟨_, rfl⟩
  obtain ⟨wc, hwc⟩ : ∃ wc, wb.alloc (.cells #[.slice none 0 0, .int .i64 0] 26) = wc := ⟨_, rfl⟩
  obtain ⟨wd, hwd⟩ : ∃ wd, wc.alloc (.cells #[.int .i64 kind, .string (strOf path), .string (strOf dest), .string (strOf data), .int .i64 mode, .int .i64 time] 28) = wd := ⟨_, rfl⟩
  have hsa : wa.heap.size = w.heap.size + 1 := by rw [← hwa]; simp
  have hsb : wb.heap.size = w.heap.size + 2 := by rw [← hwb]; simp [hsa]
  have hsc : wc.heap.size = w.heap.size + 3 := by rw [← hwc]; simp [hsb]
  have hsd : wd.heap.size = w.heap.size + 4 := by rw [← hwd]; simp [hsc]
  have ba : Below w.heap.size w wa := by rw [← hwa]; exact (Below.refl _ _).alloc (Nat.le_refl _) _
  have bb : Below wa.heap.size wa wb := by rw [← hwb]; exact (Below.refl _ _).alloc (Nat.le_refl _) _
  have bc : Below wb.heap.size wb wc := by rw [← hwc]; exact (Below.refl _ _).alloc (Nat.le_refl _) _
  have bd : Below wc.heap.size wc wd := by rw [← hwd]; exact (Below.refl _ _).alloc (Nat.le_refl _) _
  have T0 := (show Blk wa w.heap.size #[.slice a1 ns.length k1, .int .i64 next] 26 by rw [← hwa]; exact Blk.new _ _ _)
  have O0 := (show Blk wb (w.heap.size + 1) #[.int .i64 kind, .string (strOf path), .string (strOf dest), .string (strOf data), .int .i64 mode, .int .i64 time] 28 by rw [← hwb, ← hsa]; exact Blk.new _ _ _)
  have R0 := (show Blk wc (w.heap.size + 2) #[.slice none 0 0, .int .i64 0] 26 by rw [← hwc, ← hsb]; exact Blk.new _ _ _)
  have L0 := (show Blk wd (w.heap.size + 3) #[.int .i64 kind, .string (strOf path), .string (strOf dest), .string (strOf data), .int .i64 mode, .int .i64 time] 28 by rw [← hwd, ← hsc]; exact Blk.new _ _ _)
  have HB := Lib.hid (((ba.trans (bb.mono (by omega))).trans (bc.mono (by omega))).trans (bd.mono (by omega)))
  have HRB := Lib.hid (R0.on bd)
  have CD := HC.out wd (w.heap.size + 3) HB.out ⟨w.heap.size + 3, 1, rfl, Nat.le_refl _, by decide, by omega, fun i hi => by
    have : i = 0 := by simpa using hi
    subst this
    exact ⟨L0.cell 0, L0.cell 1, L0.cell 2, L0.cell 3, L0.cell 4, L0.cell 5⟩⟩
  have t0 := ((T0.on bb).on bc).cell 0
  have t1 := ((T0.on bb).on bc).cell 1
  have t2 := (((T0.on bb).on bc).on bd).cell 0
  have t3 := (((T0.on bb).on bc).on bd).cell 1
  have s0 := (O0.on bc).cell 0
  have s1 := (O0.on bc).cell 1
  have s2 := (O0.on bc).cell 2
  have s3 := (O0.on bc).cell 3
  have s4 := (O0.on bc).cell 4
  have s5 := (O0.on bc).cell 5
  simp at t0 t1 t2 t3 s0 s1 s2 s3 s4 s5
  rw [HA.out.1, HA.out.2] at CD
  generalize doOneV ⟨ns, next⟩ ⟨kind, path, dest, data, mode, time⟩ = r at CD ⊢
  generalize (doAllV ⟨ns, next⟩ [⟨kind, path, dest, data, mode, time⟩]).2.1 = nd at CD
  obtain ⟨⟨rns, rnx⟩, code⟩ := r
  clear h T0 O0 R0 L0 ba bb bc bd HA HC
  go_enter Tryz.func17, Tryz.ntmps17
  go_wp2_with (go_at_call 25; refine CD.mono ?_; rintro e W5 ⟨v5, rfl, hR5, hb5⟩; (obtain ⟨a5, k5, rfl⟩ := hR5.shape); (have HR5 := Lib.hid hR5); (have HB5 := Lib.hid hb5); (have c0 := fun ob => ((HRB.out.on hb5).alloc ob).cell 0); (have c1 := fun ob => ((HRB.out.on hb5).alloc ob).cell 1); (have f0 := fun ob => ((HRB.out.on hb5).alloc ob).frozen 0); (have f1 := fun ob => ((HRB.out.on hb5).alloc ob).frozen 1); simp at c0 c1 f0 f1; clear hR5 hb5)
  have hs5 := HB5.out.size
  refine bodyPost_ret (v := .tuple #[.agg #[.slice a5 rns.length k5, .int .i64 rnx], .int .i64 code]) ?_ rfl ⟨.slice a5 rns.length k5, rfl, ?_, ?_⟩
  · simp [results, Tryz.results17, go_sem, c0, c1]
  · refine NRow.base (B := wd.heap.size) ?_ (by omega)
    iterate 2 (refine NRow.other ?_ _ _ (by show w.heap.size + 2 < wd.heap.size; omega))
    exact HR5.out.on ((Below.refl _ _).alloc (Nat.le_refl _) _)
  · iterate 2 (refine Below.setCell ?_ (by simp) _)
    exact (HB.out.trans (HB5.out.mono HB.out.size)).alloc (by omega) _
end Go.Proofs.YtipedabppgbfcaaGreatDoor
namespace Go.Proofs.YtipedabppgbfcaaGreatDoor
open Go.RowKit

theorem without_in {p : List UInt8} {ns : List Nd} {k : Nat} (h : k < ns.length) (e : ns[k].path ≠ p) : withoutN p (ns.take (k + 1)) = withoutN p (ns.take k) ++ [ns[k]] := by
  unfold withoutN
  rw [List.take_succ_eq_append_getElem h, List.filter_append]
  simp [e]
theorem without_out {p : List UInt8} {ns : List Nd} {k : Nat} (h : k < ns.length) (e : ns[k].path = p) : withoutN p (ns.take (k + 1)) = withoutN p (ns.take k) := by
  unfold withoutN
  rw [List.take_succ_eq_append_getElem h, List.filter_append]
  simp [e]

set_option maxRecDepth 100000 in
set_option maxHeartbeats 8000000 in
theorem specWithout (w : World) (v : Value) (ns : List Nd) (next : Int) (p : List UInt8) (h : NRd w v ns) (hl : ns.length ≤ 1048576) :
    Calls Tryz.prog 101 #[.agg #[v, .int .i64 next], .string (strOf p)] w fun e w' => ∃ v', e = .returned (.agg #[v', .int .i64 next]) ∧ NRow w' w.heap.size v' (withoutN p ns) ∧ Below w.heap.size w w' := by
  obtain ⟨j0, ji, jz0, jz1, jz2⟩ := info_parts infoN
  obtain ⟨a1, k1, rfl⟩ : ∃ a c, v = .slice a ns.length c := by obtain ⟨a, c, h, _⟩ := h; exact ⟨a, c, h⟩
  obtain ⟨wa, hwa⟩ : ∃ wa, w.alloc (.cells #[.slice a1 ns.length k1, .int .i64 next] 26) = wa := ⟨_, rfl⟩
  obtain ⟨wb, hwb⟩ : ∃ wb, wa.alloc (.cells #[.slice none 0 0, .int .i64 0] 26) = wb := ⟨_, rfl⟩
  obtain ⟨wd, hwd⟩ : ∃ wd, wb.alloc (.cells #[.slice none 0 0, .int .i64 next] 26) = wd := ⟨_, rfl⟩
  have hsa : wa.heap.size = w.heap.size + 1 := by rw [← hwa]; simp
  have hsb : wb.heap.size = w.heap.size + 2 := by rw [← hwb]; simp [hsa]
  have hsd : wd.heap.size = w.heap.size + 3 := by rw [← hwd]; simp [hsb]
  have ba : Below w.heap.size w wa := by rw [← hwa]; exact (Below.refl _ _).alloc (Nat.le_refl _) _
  have bb : Below wa.heap.size wa wb := by rw [← hwb]; exact (Below.refl _ _).alloc (Nat.le_refl _) _
  have bd : Below wb.heap.size wb wd := by rw [← hwd]; exact (Below.refl _ _).alloc (Nat.le_refl _) _
  have T1 : Blk wa w.heap.size #[.slice a1 ns.length k1, .int .i64 next] 26 := by rw [← hwa]; exact Blk.new _ _ _
  have R1 : Blk wb (w.heap.size + 1) #[.slice none 0 0, .int .i64 0] 26 := by rw [← hwb, ← hsa]; exact Blk.new _ _ _
  have O1 := Lib.hid (show Blk wd (w.heap.size + 2) #[.slice none 0 0, .int .i64 next] 26 by rw [← hwd, ← hsb]; exact Blk.new _ _ _)
  have TC := Lib.hid (T1.on bb)
  have RC := Lib.hid R1
  have HWC := Lib.hid (ba.trans (bb.mono (by omega)))
  have HBD := Lib.hid (show Below (w.heap.size + 2) wb wd from bd.mono (by omega))
  have HN0 := Lib.hid h
  have t0 := T1.cell 0
  have t1 := T1.cell 1
  have u0 := (T1.on bb).cell 0
  have u1 := (T1.on bb).cell 1
  simp at t0 t1 u0 u1
  clear h ba bb bd T1 R1
  go_enter Tryz.func101, Tryz.ntmps101
  go_wp2
  go_loopw [6] (fun i W => ∃ (k : Nat) (acc : List Nd) (v : Value), k ≤ ns.length ∧ i = .int .i64 k ∧ Hid (acc = withoutN p (ns.take k)) ∧ Blk W (w.heap.size + 2) #[v, .int .i64 next] 26 ∧ NRow W (w.heap.size + 3) v acc ∧ acc.length ≤ k ∧ Below (w.heap.size + 2) wb W ∧ w.heap.size + 3 ≤ W.heap.size) (fun i _ => ns.length - (intOf i).toNat)
  case atStart => exact ⟨0, [], _, Nat.zero_le _, rfl, Lib.hid (by simp [withoutN]), O1.out, NRow.nil _ _, by simp, HBD.out, by omega⟩
  case round =>
    obtain ⟨k, acc, v, hk, rfl, HA, hO, hR, hal, hb, hsz⟩ := hrel
    obtain ⟨a2, k2, rfl⟩ := hR.shape
    have HO := Lib.hid hO
    have HR := Lib.hid hR
    have HB := Lib.hid hb
    have TW := Lib.hid (TC.out.below hb (by omega))
    have RW := Lib.hid (RC.out.below hb (by omega))
    have HW := Lib.hid (HWC.out.trans (hb.mono (by omega)))
    have c0 := TW.out.cell 0
    have c1 := TW.out.cell 1
    have o0 := HO.out.cell 0
    have o1 := HO.out.cell 1
    simp at c0 c1 o0 o1
    clear hO hR hb
    by_cases hlt : k < ns.length
    rotate_left
    · have hki : ¬ (k : Int) < (ns.length : Int) := by omega
      have r0 := RW.out.cell 0
      have r1 := RW.out.cell 1
      have g0 := RW.out.frozen 0
      have g1 := RW.out.frozen 1
      simp at r0 r1
      have he : acc = withoutN p ns := by rw [HA.out, List.take_of_length_le (by omega)]
      have HE := Lib.hid he
      clear he
      go_wp2
      refine bodyPost_ret (v := .agg #[.slice a2 acc.length k2, .int .i64 next]) ?_ rfl ⟨_, rfl, ?_, ?_⟩
      · simp [results, Tryz.results101, go_sem, r0, r1, o0, o1]
      · rw [← HE.out]
        refine NRow.base (B := w.heap.size + 3) ?_ (by omega)
        iterate 2 (refine NRow.other ?_ _ _ (by simp))
        exact HR.out
      · iterate 2 (refine Below.setCell ?_ (by simp <;> omega) _)
        exact HW.out
    have hki : (k : Int) < (ns.length : Int) := by omega
    obtain ⟨g, cap, hs, hg, hlc, hcm, hc⟩ := HN0.out.at (by intro e; subst e; simp at hlt)
    simp only [Value.slice.injEq] at hs
    obtain ⟨rfl, _, rfl⟩ := hs
    unfold maxLen at hcm
    have HIN := Lib.hid (fun h => without_in (p := p) hlt h)
    have HOUT := Lib.hid (fun h => without_out (p := p) hlt h)
    have hck := (hc k hlt).on hg HW.out
    obtain ⟨md, hmd⟩ : ∃ md, ns[k] = md := ⟨_, rfl⟩
    rw [hmd] at hck HIN HOUT
    obtain ⟨e0, e1, e2, e3, e4, e5⟩ := hck
    have HMD := Lib.hid hmd
    clear hc hmd
    by_cases hmp : md.path = p
    · have ht := str_t hmp
      have hne : ((strOf md.path).toList != (strOf p).toList) = false := by simp [bne, ht]
      have HP := Lib.hid (HOUT.out hmp)
      clear hmp
      go_wp2
      go_roundw
      case rel => exact ⟨k + 1, acc, _, by omega, by go_num, Lib.hid (by rw [HP.out]; exact HA.out), HO.out, HR.out, by omega, HB.out, hsz⟩
      case measure => simp [intOf]; omega
    · have ht := str_f hmp
      have hne : ((strOf md.path).toList != (strOf p).toList) = true := by simp [bne, ht]
      have HP := Lib.hid (HIN.out hmp)
      have oA : (wr.alloc (.cells #[.string (strOf md.path), .bool md.dir, .int .i64 md.mode, .int .i64 md.time, .int .i64 md.id, .string (strOf md.data)] 37)).cell? ⟨w.heap.size + 2, 0, none⟩ = some (.slice a2 acc.length k2) := (HO.out.alloc _).cell 0
      have HO7 := Lib.hid (fun (o : Obj) (w1 : World) (hg : (wr.alloc o).drew.grownBy w1 (Value.ownBlock (.slice a2 acc.length k2))) => ((HO.out.alloc o).drew 1).grown hg (by intro e; have := (World.ownsRow.lt (HR.out.own) _ e.symm).1; omega))
      clear hmp
      go_wp2
      go_region_law (refine step_append_lies _ (by rfl) _ _ _ (by rfl) (w.heap.size + 3) 37 j0 (.agg #[.string ⟨#[]⟩, .bool false, .int .i64 0, .int .i64 0, .int .i64 0, .string ⟨#[]⟩]) 6 64 Tryz.underlying24 ji jz0 jz1 jz2 rfl (by omega) _ acc.length (nodesVals acc) (by rfl) (ownsN_push HR.out.own (by rfl)) ⟨wr.heap.size, 0, none⟩ 1 1 (nodeVals md) (by rfl) (by rfl) (cell_six_new _ _ _) (nodeVals_one _) (by omega) (by unfold maxLen; omega) (by omega) (by simp; omega) (wr.heap.size + 1) (by simp) ?_; intro g1 cap1 w1 hown1 hgrow1 hat1 hlt1; (have hO8 := HO7.out _ _ hgrow1); (have o8 := hO8.cell 0); (have p8 := hO8.frozen 0); simp at o8)
      all_goals
        go_wp2
        go_roundw
        case rel =>
          have hB5 : Below (w.heap.size + 2) wb w1 := (HB.out.alloc (by omega) _).drew.grown hgrow1 (by first | omega | (simp; omega)) (fun j e => by have := (World.ownsRow.lt HR.out.own j e).1; omega)
          have hs5 := hgrow1.size
          simp at hs5
          exact ⟨k + 1, acc ++ [md], _, by omega, by go_num, Lib.hid (by rw [HP.out, HA.out]), hO8.set 0 _, (NRow.snoc hown1).other _ _ (show w.heap.size + 2 < w.heap.size + 3 by omega), by simp; omega, hB5.setCell (Nat.le_refl (w.heap.size + 2)) _, by simp; omega⟩
        case measure => simp [intOf]; omega
end Go.Proofs.YtipedabppgbfcaaGreatDoor
