/- move over the tree that is worked on. The contract of spec.l07Args: whether an op is one that can be done at all. -/
import Derived.Test.YtipedabppgbfcaaGreatDoorK30
import Derived.Deep.DeepCutAuto
import Derived.Test.YtipedabppgbfcaaGreatDoorK20
import Derived.Test.YtipedabppgbfcaaGreatDoorK14
import Derived.Test.YtipedabppgbfcaaGreatDoorK21
import Derived.BigQuiet
set_option linter.all false
namespace Go.Proofs.YtipedabppgbfcaaGreatDoor
open Go.RowKit
variable {R : World}

theorem cell_at0 {W : World} {q : Nat} {x : Value} (h : W.cell? ⟨q, 0, none⟩ = some x) : ∀ j u, [x][j]? = some u → W.cell? ((⟨q, 0, none⟩ : Addr).add j) = some u := by
  intro j u hj
  match j, hj with
  | 0, hj => simp at hj; subst hj; simpa [Addr.add] using h
  | j + 1, hj => simp at hj
def moveT (t : Tv) (o : Ov) : Tv × Int := if (findV o.path t.ns).isSome = true then moveV t o else (t, 2)

set_option maxRecDepth 100000 in
set_option maxHeartbeats 2000000 in
theorem wkMove (o : Ov) (w : World) (B p : Nat) (v : Value) (ps : List (Nat × Nd)) (next : Int) (h : Work R w B p v ps next) (hR : Right (nds ps) next) (ha : argsB o = true) (h4 : o.kind = 4) :
    Calls Tryz.prog 118 #[.pointer (some ⟨p, 0, none⟩), .agg #[.int .i64 o.kind, .string (strOf o.path), .string (strOf o.dest), .string (strOf o.data), .int .i64 o.mode, .int .i64 o.time]] w fun e w' => WkRes R B p w (moveT ⟨nds ps, next⟩ o) e w' := by
  have hlen : ps.length ≤ 60 := by have := hR.len; rw [nds_len] at this; exact this
  have hA := Args.of ha
  have hpos := hA.path (by omega)
  have hmv := hA.move h4
  have CP := Lib.hid (fun W path (hw : Work R W B p v ps next) => wkPlace W B p v ps next path hw hR.up hlen)
  have HR := Lib.hid hR
  have HMV := Lib.hid hmv
  have HPOS := Lib.hid hpos
  have HMAY := Lib.hid (fun hk hd => may_of (t := ⟨nds ps, next⟩) (o := o) hR ha h4 hk hd)
  have HV0 := Lib.hid (show (findV o.path (nds ps)).isSome = false → moveT ⟨nds ps, next⟩ o = (⟨nds ps, next⟩, 2) from fun hf => by unfold moveT; rw [hf]; rfl)
  have HVV := Lib.hid (show (findV o.path (nds ps)).isSome = true → moveT ⟨nds ps, next⟩ o = moveV ⟨nds ps, next⟩ o from fun hf => by unfold moveT; rw [if_pos hf])
  have HO := Lib.hid (show o = ⟨o.kind, o.path, o.dest, o.data, o.mode, o.time⟩ from rfl)
  obtain ⟨wa, hwa⟩ : ∃ wa, w.alloc (.cells #[.int .i64 o.kind, .string (strOf o.path), .string (strOf o.dest), .string (strOf o.data), .int .i64 o.mode, .int .i64 o.time] 28) = wa := ⟨_, rfl⟩
  have ba : Below w.heap.size w wa := by rw [← hwa]; exact (Below.refl _ _).alloc (Nat.le_refl _) _
  have O0 := (show Blk wa w.heap.size #[.int .i64 o.kind, .string (strOf o.path), .string (strOf o.dest), .string (strOf o.data), .int .i64 o.mode, .int .i64 o.time] 28 by rw [← hwa]; exact Blk.new _ _ _)
  have HOB := Lib.hid O0
  have HW := Lib.hid (h.on ba)
  have hlo := h.plt
  have hszA : wa.heap.size = w.heap.size + 1 := by rw [← hwa]; simp
  have HBA := Lib.hid (ba.mono (by omega : B ≤ w.heap.size))
  have CP1 := CP.out wa o.path HW.out
  have CP2 := CP.out wa o.dest HW.out
  have o1 := O0.cell 1
  have o2 := O0.cell 2
  have c0 := HW.out.top.cell 0
  simp at o1 o2 c0
  clear h hR ba O0 hA hpos hmv ha h4
  cases hf : (findV o.path (nds ps)).isSome with
  | false =>
    have HE := Lib.hid (HV0.out hf)
    rw [hf] at CP1
    generalize placeV o.path (nds ps) = i at CP1
    clear hf CP2
    go_enter Tryz.func118, Tryz.ntmps118
    go_wp2_with (go_at_call 153; refine CP1.mono ?_; rintro e W1 ⟨rfl, rfl⟩)
    go_ret
    exact WkRes.mk HE.out HW.out rfl HBA.out
  | true =>
    have HE := Lib.hid (HVV.out hf)
    obtain ⟨bf, nf, hatf, hf1, hf2⟩ := found_some HR.out.up hf
    have hfp : nf.path = o.path := by
      obtain ⟨_, hk, hp⟩ := find_is_place HR.out.up hf1
      have := List.getElem?_eq_some_iff.1 hf2
      rw [← this.2]; exact hp
    have hda : dirAt (nds ps) o.path = nf.dir := dirAt_of hf1 hf2
    have HFP := Lib.hid hfp
    have HDA := Lib.hid hda
    rw [hf] at CP1
    generalize placeV o.path (nds ps) = i at CP1 hatf
    obtain ⟨hi, hqf⟩ := List.getElem?_eq_some_iff.1 hatf
    obtain ⟨g, cap, rfl, hcf⟩ := HW.out.at hi
    rw [hqf] at hcf
    have HATF := Lib.hid hatf
    have hiI : (i : Int) < (ps.length : Int) := by omega
    have hi0 : (0 : Int) ≤ (i : Int) := by omega
    have CFF := wkFolder bf nf wa
    obtain ⟨K, hK⟩ : ∃ K, ((findV o.dest (nds ps)).isSome && (dirAt (nds ps) o.dest || dirAt (nds ps) o.path)) = K := ⟨_, rfl⟩
    have HK := Lib.hid hK
    obtain ⟨tk, htk⟩ : ∃ tk, (findV o.dest (nds ps)).isSome = tk := ⟨_, rfl⟩
    have HTKN := Lib.hid htk
    obtain ⟨j, hj⟩ : ∃ j, placeV o.dest (nds ps) = j := ⟨_, rfl⟩
    have HJ := Lib.hid hj
    rw [htk, hj] at CP2
    clear hf hf1 hf2 hfp hda hqf hatf hK htk hj
    go_enter Tryz.func118, Tryz.ntmps118
    go_upto_region 5 with (first | (go_at_call 153; refine CP1.mono ?_; rintro e W1 ⟨rfl, rfl⟩; clear CP1) | (go_at_call 153; refine CP2.mono ?_; rintro e W1 ⟨rfl, rfl⟩; clear CP2))
    go_cut [48] (fun c V => c = .bool K ∧ wa = V)
    case first =>
      have hk := HK.out
      rw [HTKN.out] at hk
      cases tk with
      | false =>
        clear CFF
        go_wp2
        go_meet
        exact ⟨by rw [← hk]; rfl, rfl⟩
      | true =>
        obtain ⟨bd, n2, hatd, hd1, hd2⟩ := found_some HR.out.up HTKN.out
        rw [HJ.out] at hatd hd2
        rw [HJ.out] at hd1
        have hdd : dirAt (nds ps) o.dest = n2.dir := dirAt_of hd1 hd2
        rw [hdd, HDA.out] at hk
        obtain ⟨hjl, hqd⟩ := List.getElem?_eq_some_iff.1 hatd
        obtain ⟨g2, cap2, hs2, hcd⟩ := HW.out.at hjl
        have hg3 : g = g2 := by
          simp only [Value.slice.injEq, Option.some.injEq, Addr.mk.injEq] at hs2
          exact hs2.1.1
        subst hg3
        rw [hqd] at hcd
        have CFD := wkFolder bd n2 wa
        have hjI : (j : Int) < (ps.length : Int) := by omega
        have hj0 : (0 : Int) ≤ (j : Int) := by omega
        obtain ⟨u, hu⟩ : ∃ u, wkVal (bd, n2) = u := ⟨_, rfl⟩
        obtain ⟨u2, hu2⟩ : ∃ u, wkVal (bf, nf) = u := ⟨_, rfl⟩
        have hux : ∃ t x, u = .iface t x := ⟨_, _, hu.symm⟩
        have hux2 : ∃ t x, u2 = .iface t x := ⟨_, _, hu2.symm⟩
        rw [hu] at hcd CFD
        rw [hu2] at hcf CFF
        obtain ⟨t1, x1, rfl⟩ := hux
        obtain ⟨t2, x2, rfl⟩ := hux2
        clear hu hu2 hqd hatd hd1 hd2 hdd hs2
        generalize n2.dir = z at CFD hk
        generalize nf.dir = z2 at CFF hk
        have HKK := Lib.hid hk
        clear hk
        cases z with
        | true =>
          go_wp2_with (go_at_call 154; refine CFD.mono ?_; rintro e w' ⟨rfl, rfl⟩)
          go_meet
          exact ⟨by rw [← HKK.out]; rfl, rfl⟩
        | false =>
          go_wp2_with (first | (go_at_call 154; refine CFD.mono ?_; rintro e w' ⟨rfl, rfl⟩; clear CFD) | (go_at_call 154; refine CFF.mono ?_; rintro e w' ⟨rfl, rfl⟩))
          go_meet
          exact ⟨by rw [← HKK.out]; rfl, rfl⟩
    case rest =>
      obtain ⟨rfl, rfl⟩ := hcut
      clear CFF
      cases K with
      | true =>
        have HE4 := Lib.hid (show moveT ⟨nds ps, next⟩ o = (⟨nds ps, next⟩, 4) by rw [HE.out]; exact move_kind (by have := HK.out; simpa using this))
        go_wp2
        go_ret
        exact WkRes.mk HE4.out HW.out rfl HBA.out
      | false =>
      have HNB := Lib.hid (show ¬ ((findV o.dest (nds ps)).isSome = true ∧ (dirAt (nds ps) o.dest = true ∨ dirAt (nds ps) o.path = true)) by have := HK.out; intro h; rw [h.1] at this; rcases h.2 with h | h <;> rw [h] at this <;> simp at this)
      have hdl := depth_short HMV.out.1
      have CDI := implDirOf (strOf o.dest) wa (by rw [strOf_size]; omega)
      rw [strOf_data] at CDI
      have CHF := Lib.hid (fun W (hw : Work R W B p (.slice (some ⟨g, 0, none⟩) ps.length cap) ps next) => wkHasFolder W B p _ ps next (dirV o.dest) hw HR.out.up hlen)
      obtain ⟨dB, hdB⟩ : ∃ dB, dirB (nds ps) (dirV o.dest) = dB := ⟨_, rfl⟩
      have HDB := Lib.hid hdB
      rw [hdB] at CHF
      clear hdl hdB
      go_wp2_with (go_at_call 68; refine CDI.mono ?_; rintro e W1 ⟨rfl, hb1⟩)
      have HW1 := Lib.hid (HW.out.on hb1)
      have HO1 := Lib.hid (HOB.out.on hb1)
      have HB1 := Lib.hid (HBA.out.trans (hb1.mono (by omega)))
      have hs1 := hb1.size
      have CH := CHF.out W1 HW1.out
      clear hb1 c0 o1 o2 hcf CDI CHF
      have o1 := HO1.out.cell 1
      have c0 := HW1.out.top.cell 0
      simp at o1 c0
      cases dB with
      | false =>
        have HE2 := Lib.hid (show moveT ⟨nds ps, next⟩ o = (⟨nds ps, next⟩, 2) by rw [HE.out]; exact move_none HNB.out HDB.out)
        go_wp2_with (go_at_call 155; refine CH.mono ?_; rintro e w' ⟨rfl, rfl⟩)
        go_ret
        exact WkRes.mk HE2.out HW1.out rfl HB1.out
      | true =>
      have HM := Lib.hid (HMAY.out HNB.out HDB.out)
      obtain ⟨hi2, hqf2⟩ := List.getElem?_eq_some_iff.1 HATF.out
      have hmemf : (bf, nf) ∈ ps := by rw [← hqf2]; exact List.getElem_mem hi2
      have HMF := Lib.hid (mv_facts HR.out.up HW1.out.apart HPOS.out hmemf HFP.out)
      obtain ⟨g2, cap2, hs2, hcf⟩ := HW1.out.at hi2
      rw [hqf2] at hcf
      have hg3 : g = g2 := by
        simp only [Value.slice.injEq, Option.some.injEq, Addr.mk.injEq] at hs2
        exact hs2.1.1
      subst hg3
      have CU := Lib.hid (fun W (hw : Work R W B p (.slice (some ⟨g, 0, none⟩) ps.length cap) ps next) => wkAllUnder W B p _ ps next o.path hw hlen (fun q hq => node_path (HR.out.node q.2 (List.mem_map_of_mem (f := Prod.snd) hq))) HPOS.out)
      obtain ⟨j0, ji, jz0, jz1, jz2⟩ := info_parts infoWk
      have hul : (underP o.path ps).length ≤ 60 := Nat.le_trans (List.length_filter_le _ _) hlen
      clear hs2 hqf2 hmemf
      go_upto_region 9 with (go_at_call 155; refine CH.mono ?_; rintro e w' ⟨rfl, rfl⟩; clear CH)
      obtain ⟨u2, hu2⟩ : ∃ u, wkVal (bf, nf) = u := ⟨_, rfl⟩
      have hux2 : ∃ t x, u2 = .iface t x := ⟨_, _, hu2.symm⟩
      rw [hu2] at hcf
      obtain ⟨t2, x2, rfl⟩ := hux2
      have HU2 := Lib.hid hu2
      have hgW1 := World.block_lt_of_cell? W1 _ hcf
      have HN2 := Lib.hid (show ∀ W, Below (W1.alloc (.cells #[.iface t2 x2] 149)).drew.heap.size (W1.alloc (.cells #[.iface t2 x2] 149)).drew W → W.cell? ⟨W1.heap.size, 0, none⟩ = some (.iface t2 x2) from fun W hb => (hb.cell (p := ⟨W1.heap.size, 0, none⟩) (show W1.heap.size < (W1.alloc _).heap.size by simp)).trans ((Blk.new W1 #[.iface t2 x2] 149).cell 0))
      have o1A : ∀ ob, (W1.alloc ob).cell? ⟨w.heap.size, 1, none⟩ = some (.string (strOf o.path)) := fun ob => (HO1.out.alloc ob).cell 1
      clear hu2
      go_cut [9] (fun v9 V => ∃ g3 cap3, v9 = .slice (some ⟨g3, 0, none⟩) ((underP o.path ps).length + 1) cap3 ∧ V.ownsRow W1.heap.size 149 1 (.slice (some ⟨g3, 0, none⟩) ((underP o.path ps).length + 1) cap3) ((underP o.path ps).length + 1) ((underP o.path ps).map wkVal ++ [.iface t2 x2]) ∧ Below W1.heap.size W1 V)
      case first =>
        go_region_law (first
          | (refine step_append_lies _ (by rfl) _ _ _ (by rfl) W1.heap.size 149 j0 .nilIface 1 16 Tryz.underlying135 ji jz0 jz1 jz2 rfl (by omega) _ (underP o.path ps).length ((underP o.path ps).map wkVal) (by rfl) (ownsN_push HR2.out (by rfl)) ⟨W2.heap.size, 0, none⟩ 1 1 [.iface t2 x2] (by rfl) (by rfl) (cell_one0 _ _) (by simp; rfl) (by omega) (by unfold maxLen; omega) (by omega) (by simp; omega) (W2.heap.size + 1) (by simp) ?_; intro g3 cap3 w3 hown3 hgrow3 hat3 hlt3; (have HBX := Lib.hid ((HB2.out.alloc (by omega) _).grown hgrow3 (by simp; omega) (fun j e => (World.ownsRow.lt HR2.out j e).1))))
          | (refine step_append_lies _ (by rfl) _ _ _ (by rfl) W1.heap.size 149 j0 .nilIface 1 16 Tryz.underlying135 ji jz0 jz1 jz2 rfl (by omega) _ (underP o.path ps).length ((underP o.path ps).map wkVal) (by rfl) HR2.out ⟨W1.heap.size, 0, none⟩ 1 1 [.iface t2 x2] (by rfl) (by rfl) (cell_at0 (HN2.out _ hb2)) (by simp; rfl) (by omega) (by unfold maxLen; omega) (by omega) (by omega) W2.heap.size (by rfl) ?_; intro g3 cap3 w3 hown3 hgrow3 hat3 hlt3; (have HBX := Lib.hid (HB2.out.grown hgrow3 hsz2 (fun j e => (World.ownsRow.lt HR2.out j e).1))))
          | (go_simp; go_at_call 156; refine (CU.out _ (HW1.out.on (by first | exact (Below.refl _ _).drew | exact ((Below.refl _ _).alloc (Nat.le_refl _) _).drew))).mono ?_; rintro e W2 ⟨v2, rfl, hr2, hb2⟩; (obtain ⟨a2, k2, rfl⟩ := own_slice hr2); (have hB2 : Below W1.heap.size W1 W2 := by first | exact ((Below.refl _ _).drew).trans (hb2.mono (Nat.le_refl _)) | exact (((Below.refl _ _).alloc (Nat.le_refl _) _).drew).trans (hb2.mono (by simp))); (have HR2 := Lib.hid (owns_base (B' := W1.heap.size) hr2 (by first | exact Nat.le_refl _ | simp))); (have HB2 := Lib.hid hB2); (have hsz2 := hB2.size); (have c02 := (HW1.out.on hB2).top.cell 0); (have hcf2 := (hB2.cell (p := ⟨g, i, none⟩) hgW1).trans hcf); simp at c02; clear hr2 hB2))
        all_goals
          have HRX := Lib.hid hown3
          clear hown3 hgrow3 hat3 hlt3
          go_wp2
          go_meet
          exact ⟨g3, cap3, rfl, HRX.out, HBX.out⟩
      case rest =>
        obtain ⟨g3, cap3, rfl, hr3, hb3⟩ := hcut
        clear o1A hcf c0 o1 CU
        have HW3 := Lib.hid (HW1.out.on hb3)
        have HO3 := Lib.hid (HO1.out.on hb3)
        have HB3 := Lib.hid (HB1.out.trans (hb3.mono (by have := HW1.out.plt; omega)))
        have hs3 := hb3.size
        have hml : (movP o ps (bf, nf)).length = (underP o.path ps).length + 1 := by simp [movP]
        have hr3' : wc.ownsRow W1.heap.size 149 1 (.slice (some ⟨g3, 0, none⟩) ((underP o.path ps).length + 1) cap3) (movP o ps (bf, nf)).length ((movP o ps (bf, nf)).map wkVal) := by
          have e : (movP o ps (bf, nf)).map wkVal = (underP o.path ps).map wkVal ++ [.iface t2 x2] := by
            rw [← HU2.out]; simp [movP]
          rw [hml, e]; exact hr3
        have hMov : Movers wc o (movP o ps (bf, nf)) := ⟨fun q hq => (HW3.out.node q (HMF.out.sub q hq)).2, fun q hq => node_path (HR.out.node q.2 (List.mem_map_of_mem (f := Prod.snd) (HMF.out.sub q hq))), HMF.out.goes⟩
        have CHB := wkHasBad o wc W1.heap.size w.heap.size _ (movP o ps (bf, nf)) hr3' hMov (by rw [hml]; omega) HO3.out HPOS.out HMV.out.1
        rw [bad_paths HMF.out HM.out] at CHB
        have HR3 := Lib.hid hr3'
        have HMS := Lib.hid hMov
        have HML := Lib.hid hml
        obtain ⟨ok, hok⟩ : ∃ ok, pathsOk (stayN o (nds ps)) = ok := ⟨_, rfl⟩
        have HOK := Lib.hid hok
        rw [hok] at CHB
        clear hr3 hb3 hr3' hMov hok hml
        have HW3b := Lib.hid (fun W (hb : Below wc.heap.size wc W) => HW3.out.on hb)
        have c03 := HW3.out.top.cell 0
        cases ok with
        | false =>
          have HE5 := Lib.hid (show moveT ⟨nds ps, next⟩ o = (⟨nds ps, next⟩, 1) by rw [HE.out, move_is HNB.out HDB.out, if_neg (by rw [HOK.out]; decide)])
          go_wp2_with (go_at_call 157; refine CHB.mono ?_; rintro e W4 ⟨rfl, hb4⟩)
          go_ret
          exact WkRes.mk HE5.out (HW3.out.on hb4) rfl (HB3.out.trans (hb4.mono (by have := HW3.out.plt; omega)))
        | true =>
          have HE5 := Lib.hid (show moveT ⟨nds ps, next⟩ o = (⟨putAll [] (stayN o (nds ps)), next⟩, 0) by rw [HE.out, move_is HNB.out HDB.out, if_pos HOK.out])
          have hgs : W1.heap.size ≤ wc.heap.size := hs3
          go_upto_if 71 with (go_at_call 157; refine CHB.mono ?_; rintro e W4 ⟨rfl, hb4⟩)
          have HW4 := Lib.hid (HW3.out.on hb4)
          have HO4 := Lib.hid (HO3.out.on hb4)
          have HR4 := Lib.hid (owns_on6 HR3.out hb4)
          rw [HML.out] at HR4
          have HB4 := Lib.hid (HB3.out.trans (hb4.mono (by have := HW3.out.plt; omega)))
          have hs4 := hb4.size
          clear hb4 CHB HW3b c03
          go_cut [72] (fun _ V => ∃ (v : Value) (ls : List (Nat × Nd)), Work R V B p v ls next ∧ nds ls = ((nds ps).filter fun n => !decide (n.path = o.dest)) ∧ (∀ q ∈ ls, q ∈ ps) ∧ (∀ q ∈ movP o ps (bf, nf), q ∈ ls) ∧ V.ownsRow W1.heap.size 149 1 (.slice (some ⟨g3, 0, none⟩) ((underP o.path ps).length + 1) cap3) ((underP o.path ps).length + 1) ((movP o ps (bf, nf)).map wkVal) ∧ Blk V w.heap.size #[.int .i64 o.kind, .string (strOf o.path), .string (strOf o.dest), .string (strOf o.data), .int .i64 o.mode, .int .i64 o.time] 28 ∧ Below B w V)
          case first =>
            cases tk with
            | false =>
              go_wp2
              go_meet
              exact ⟨_, ps, HW4.out, free_ls HTKN.out, fun q hq => hq, HMF.out.sub, HR4.out, HO4.out, HB4.out⟩
            | true =>
              obtain ⟨hjl, _, _⟩ := found_is HR.out.up HTKN.out
              have HLS0 := Lib.hid (taken_ls HR.out.up HTKN.out)
              rw [HJ.out] at hjl HLS0
              have CD := wkDelete W4 B p _ ps next HW4.out j hjl
              have c04 := HW4.out.top.cell 0
              simp at c04
              obtain ⟨ls, hls⟩ : ∃ ls, ps.take j ++ ps.drop (j + 1) = ls := ⟨_, rfl⟩
              rw [hls] at CD HLS0
              have HLS := Lib.hid hls
              have hjI : (j : Int) ≤ 60 := by omega
              clear hls
              go_wp2_with (go_at_call 160; refine CD.mono ?_; rintro e W5 ⟨v5, rfl, hr5, hg5⟩; (obtain ⟨a5, k5, rfl⟩ := own_slice hr5); (have hT5 := HW4.out.top.grown hg5 (fun e => (HW4.out.rowBlk e.symm).1 rfl)); (have z0 := hT5.cell 0); (have zf := hT5.frozen 0); simp at z0)
              go_meet
              have hsub : ∀ q ∈ ls, q ∈ ps := fun q hq => by
                rw [← HLS.out] at hq
                rcases List.mem_append.1 hq with hq | hq
                · exact List.mem_of_mem_take hq
                · exact List.mem_of_mem_drop hq
              have hap : ls.Pairwise fun a b => a.1 ≠ b.1 := by
                rw [← HLS.out]
                refine List.Pairwise.sublist ?_ HW4.out.apart
                rw [← List.eraseIdx_eq_take_drop_succ]
                exact List.eraseIdx_sublist ..
              have hin : ∀ q ∈ movP o ps (bf, nf), q ∈ ls := fun q hq => by
                have h1 : q.2 ∈ nds ls := by
                  rw [HLS0.out, List.mem_filter]
                  exact ⟨List.mem_map_of_mem (f := Prod.snd) (HMF.out.sub q hq), by simpa using move_ne HM.out (HMF.out.goes q hq)⟩
                obtain ⟨q2, hq2, e⟩ := List.mem_map.1 h1
                obtain ⟨x, hx, hxe⟩ := List.getElem_of_mem (hsub q2 hq2)
                obtain ⟨y, hy, hye⟩ := List.getElem_of_mem (HMF.out.sub q hq)
                have := path_same HR.out.up hx hy (by rw [hxe, hye, e])
                subst this
                rw [← hye, hxe]; exact hq2
              have hgb : ∀ k, Value.ownBlock (.slice (some ⟨g, 0, none⟩) ps.length cap) = some k → k < W1.heap.size := fun k hk => (World.ownsRow.lt HW1.out.row k hk).2
              refine ⟨_, ls, HW4.out.rerow hg5 hr5 hsub hap _ rfl, HLS0.out, hsub, hin, ?_, ?_, ?_⟩
              · exact owns_other (own_grown HR4.out hg5 hgb) ⟨p, 0, none⟩ _ (by show p < W1.heap.size; have := HW1.out.plt; omega)
              · exact (HO4.out.grown hg5 (HW4.out.rowNe HO4.out (by decide))).other _ _ (by show w.heap.size ≠ p; omega)
              · exact (HB4.out.grown hg5 (by have := HW4.out.plt; omega) (fun j e => (World.ownsRow.lt HW4.out.row j e).1)).setCell (p := ⟨p, 0, none⟩) hlo.1 _
          case rest =>
            obtain ⟨v, ls, hWk, hn, hsub, hin, hr, hO, hB⟩ := hcut
            have hlo2 := hWk.plt
            have HLA := Lib.hid hWk.apart
            have HN := Lib.hid hn
            have HSUB := Lib.hid hsub
            have HIN := Lib.hid hin
            have HMA := Lib.hid HMF.out.apart
            have HUP := Lib.hid (upto_zero o (movP o ps (bf, nf)) ls)
            have HLL := Lib.hid (show ls.length ≤ 60 by
              have := congrArg List.length hn
              rw [nds_len] at this
              rw [this]
              exact Nat.le_trans (List.length_filter_le _ _) (by rw [nds_len]; exact hlen))
            have HEND := Lib.hid (fun l2 hp hs => moved_end (l2 := l2) HM.out HMF.out hsub hn hp hs)
            have HMS1 := Lib.hid (fun q hq => (HMS.out.pos q hq))
            have HMS2 := Lib.hid (fun q hq => (HMS.out.goes q hq))
            have hW0 : Work R wc B p v (ls.map (upto1 o (movP o ps (bf, nf)) 0)) next := by rw [HUP.out]; exact hWk
            have HWK := Lib.hid hW0
            have HRK := Lib.hid hr
            have HOK2 := Lib.hid hO
            have HBK := Lib.hid hB
            have hml := HML.out
            have hmne : 0 < (movP o ps (bf, nf)).length := by rw [hml]; omega
            clear hWk hn hsub hin hr hO hB hW0 HUP HW4 HO4 HR4 HB4 HMS HR3 HO3 HW3 HB3 HM HNB HDB HFP HDA HATF HK HTKN HJ HV0 HVV HMF HU2
            generalize (movP o ps (bf, nf)) = ms at *
            generalize hMM : (underP o.path ps).length + 1 = M at *
            have hMi : (M : Int) ≤ 61 := by omega
            go_wp2
            go_loopw [85] (fun iv W => ∃ k : Nat, k ≤ M ∧ iv = .int .i64 k ∧ Hid (Work R W B p v (ls.map (upto1 o ms k)) next) ∧ Hid (W.ownsRow W1.heap.size 149 1 (.slice (some ⟨g3, 0, none⟩) M cap3) M (ms.map wkVal)) ∧ Hid (Blk W w.heap.size #[.int .i64 o.kind, .string (strOf o.path), .string (strOf o.dest), .string (strOf o.data), .int .i64 o.mode, .int .i64 o.time] 28) ∧ Hid (Below B w W)) (fun iv _ => M - (intOf iv).toNat)
            case atStart => exact ⟨0, Nat.zero_le _, rfl, HWK, HRK, HOK2, HBK⟩
            case round =>
              clear HWK HRK HOK2 HBK
              obtain ⟨k, hk, rfl, HWK, HRK, HOK2, HBK⟩ := hrel
              by_cases hlt : k < M
              · have hki : (k : Int) < (M : Int) := by omega
                have hkm : k < ms.length := by omega
                have hmem := List.getElem_mem hkm
                have hnk := at_mover HWK.out HMA.out hkm (HIN.out _ hmem)
                have HPO := Lib.hid (HMS1.out _ hmem)
                have HGO := Lib.hid (HMS2.out _ hmem)
                have HIL := Lib.hid (HIN.out _ hmem)
                have hcell := World.ownsRow.cellAt HRK.out k (by omega)
                have hfrz := fun j => World.ownsRow.frozenAt HRK.out j
                obtain ⟨g4, e4, -, hg4, hcc, hcm, -⟩ := own_cell HRK.out hlt
                have hg34 : g4 = g3 := by simpa using e4.symm
                subst hg34
                unfold maxLen at hcm
                rw [List.getElem?_map, List.getElem?_eq_getElem hkm] at hcell
                simp only [Option.map_some] at hcell
                obtain ⟨q, hq⟩ : ∃ q, ms[k] = q := ⟨_, rfl⟩
                have HQ := Lib.hid hq
                rw [hq] at hcell hnk
                have HPO2 := Lib.hid (show 0 < depthV q.2.path by rw [← hq]; exact HPO.out)
                have HGO2 := Lib.hid (show goesB o q.2 = true by rw [← hq]; exact HGO.out)
                have HNK := Lib.hid hnk
                clear hq hnk hmem e4 HPO HGO
                obtain ⟨b, nd⟩ := q
                have HPS := HW1.out.node _ (HSUB.out _ HIL.out)
                rw [HQ.out] at HPS
                have HBL := Lib.hid HPS.2.lt
                have HBN := Lib.hid (HPS.2.off HO1.out (by decide) (by decide))
                have HBB := Lib.hid HPS.1
                clear HPS
                have CM := Lib.hid (fun W (hb : Below wr.heap.size wr W) => wkMovedPath o b nd W (HNK.out.on hb) HPO2.out HPOS.out HMV.out.1 HGO2.out)
                have CB := fun W => wkBase b W
                have s0 := HOK2.out.cell 0
                have s1 := HOK2.out.cell 1
                have s2 := HOK2.out.cell 2
                have s3 := HOK2.out.cell 3
                have s4 := HOK2.out.cell 4
                have s5 := HOK2.out.cell 5
                simp at s0 s1 s2 s3 s4 s5
                obtain ⟨mp, hmp⟩ : ∃ mp, (movedN o nd).path = mp := ⟨_, rfl⟩
                have HMP := Lib.hid hmp
                rw [hmp] at CM
                have p1 := fun W => nil_folder "loop.example/g00704/impl.base" b W (.inl rfl)
                have p2 := fun W => nil_file "loop.example/g00704/impl.base" b W (.inl rfl)
                have m1 := fun W => base_folder b W
                have m2 := fun W => base_file b W
                have hcl : ∃ t, wkVal (b, nd) = .iface t (.pointer (some ⟨b, 0, none⟩)) ∧ (t = 140 ∨ t = 143) := by
                  cases hd : nd.dir with
                  | true => exact ⟨_, wkVal_dir hd, .inl rfl⟩
                  | false => exact ⟨_, wkVal_file hd, .inr rfl⟩
                obtain ⟨t, ht, htt⟩ := hcl
                rw [ht] at hcell
                clear ht hmp HPO2 HGO2
                rcases htt with rfl | rfl
                all_goals
                  go_wp2_with fail
                  go_region_law (first
                    | (go_simp; go_at_call 254; refine (CB _).mono ?_; rintro e w' ⟨rfl, rfl⟩)
                    | (go_simp; go_at_call 159; refine (CM.out _ (Below.refl _ _).drew).mono ?_; rintro e W5 ⟨rfl, hb5⟩; (have HN5 := Lib.hid ((HNK.out.on (Below.refl _ _).drew).on hb5)); (have n5 := HN5.out.cells.1); (have f5 := HN5.out.frozen 0); (have HB5 := Lib.hid hb5); clear hb5))
                  all_goals
                    have hW6 := ((HWK.out.on (Below.refl _ _).drew).on HB5.out).moved HMA.out HLA.out hkm HIL.out HQ.out
                    rw [HMP.out] at hW6
                    have HW6 := Lib.hid hW6
                    have HR6 := Lib.hid (owns_other (owns_on6 (owns_on6 HRK.out (Below.refl _ _).drew) HB5.out) ⟨b, 0, none⟩ (.string (strOf mp)) HBL.out)
                    have HO6 := Lib.hid (((HOK2.out.on (Below.refl _ _).drew).on HB5.out).other ⟨b, 0, none⟩ (.string (strOf mp)) HBN.out)
                    have HB6 := Lib.hid ((HBK.out.drew.trans (HB5.out.mono (by show B ≤ wr.heap.size; have := HWK.out.plt; omega))).setCell (p := ⟨b, 0, none⟩) HBB.out (.string (strOf mp)))
                    clear hW6
                    go_wp2
                    go_roundw
                    case rel => exact ⟨k + 1, by omega, by go_num, HW6, HR6, HO6, HB6⟩
                    case measure => simp [intOf]; omega
              · have hki : ¬ (k : Int) < (M : Int) := by omega
                obtain rfl : k = M := by omega
                rw [← HML.out] at HWK
                have HNE := Lib.hid (show ls.map (upto1 o ms ms.length) ≠ [] by
                  intro e
                  have := List.map_eq_nil_iff.1 e
                  have h0 := HIN.out ms[0] (List.getElem_mem hmne)
                  rw [this] at h0; cases h0)
                have HL2 := Lib.hid (show (ls.map (upto1 o ms ms.length)).length ≤ 60 by rw [List.length_map]; exact HLL.out)
                generalize hLL : ls.map (upto1 o ms ms.length) = L at *
                have CS := wkSorts wr B p v L next HWK.out HNE.out HL2.out
                have c0 := HWK.out.top.cell 0
                simp at c0
                clear hLL
                go_wp2_with (go_at_call 161; refine CS.mono ?_; rintro e W5 ⟨rfl, l2, hr5, hp5, hs5, hg5⟩)
                go_ret
                exact WkRes.mk HE5.out (HWK.out.reorder hg5 hr5 hp5) (HEND.out l2 hp5 hs5) (HBK.out.grown hg5 (by have := HWK.out.plt; omega) (fun j e => (World.ownsRow.lt HWK.out.row j e).1))
end Go.Proofs.YtipedabppgbfcaaGreatDoor
namespace Go.Proofs.YtipedabppgbfcaaGreatDoor
open Go.RowKit

def argsK (kind : Int) (pb m t q ne un : Bool) : Bool :=
  if kind = 8 then true
  else if pb = true then
    if kind = 0 ∨ kind = 1 then m && t
    else if kind = 6 then m
    else if kind = 2 ∨ kind = 3 ∨ kind = 7 then t
    else if kind = 4 then q && (!ne && !un)
    else true
  else false
theorem args_in (o : Ov) (h : 0 ≤ o.kind ∧ o.kind ≤ 8) : argsB o = argsK o.kind (decide (0 < depthV o.path)) (inB o.mode 0 511) (timeOk o.time) (decide (0 < depthV o.dest)) (decide (o.dest = o.path)) (underV o.dest o.path) := by
  unfold argsB argsK
  rw [inB_t h.1 h.2]
  simp only [decide_eq_true_eq]
  rfl
theorem args_out (o : Ov) (h : ¬ (0 ≤ o.kind ∧ o.kind ≤ 8)) : argsB o = false := by
  unfold argsB
  rw [inB_f h]; rfl

set_option maxRecDepth 100000 in
set_option maxHeartbeats 8000000 in
theorem specArgs6 (kind mode time : Int) (path dest data : List UInt8) (w : World) (hp : path.length ≤ 2000000) (hd : dest.length ≤ 2000000) :
    Calls Tryz.prog 96 #[.agg #[.int .i64 kind, .string (strOf path), .string (strOf dest), .string (strOf data), .int .i64 mode, .int .i64 time]] w fun e w' => e = .returned (.bool (argsB ⟨kind, path, dest, data, mode, time⟩)) ∧ Below w.heap.size w w' := by
  obtain ⟨W, hW⟩ : ∃ W, w.alloc (.cells #[.int .i64 kind, .string (strOf path), .string (strOf dest), .string (strOf data), .int .i64 mode, .int .i64 time] 28) = W := ⟨_, rfl⟩
  have BK := Lib.hid (show Blk W w.heap.size #[.int .i64 kind, .string (strOf path), .string (strOf dest), .string (strOf data), .int .i64 mode, .int .i64 time] 28 by rw [← hW]; exact Blk.new _ _ _)
  have HB0 := Lib.hid (show Below w.heap.size w W by rw [← hW]; exact (Below.refl _ _).alloc (Nat.le_refl _) _)
  have hs0 : W.heap.size = w.heap.size + 1 := by rw [← hW]; simp
  have f4 := fun d os => (BK.out.on (below_regrown W d os)).cell 4
  have f5 := fun d os => (BK.out.on (below_regrown W d os)).cell 5
  simp at f4 f5
  have K1 := Lib.hid (show ∀ d os, Calls Tryz.prog 61 #[.int .i64 mode, .int .i64 0, .int .i64 511] (Sort.grow (redrawn W d) os) fun e w'' => e = .returned (.bool (inB mode 0 511)) ∧ ∃ p : Regrown, w'' = Sort.grow (redrawn W p.d) p.os from fun d os => Calls.regrown_of ((specIn mode 0 511 _).mono fun e w' h => ⟨h.1, h.2 ▸ Below.refl _ _⟩))
  have K2 := Lib.hid (show ∀ d os, Calls Tryz.prog 104 #[.int .i64 time] (Sort.grow (redrawn W d) os) fun e w'' => e = .returned (.bool (timeOk time)) ∧ ∃ p : Regrown, w'' = Sort.grow (redrawn W p.d) p.os from fun d os => Calls.regrown_of ((specTimeN time _).mono fun e w' h => ⟨h.1, h.2 ▸ Below.refl _ _⟩))
  have CP := fun W => specPathOk (strOf path) W (by rw [strOf_size]; unfold maxLen; omega)
  have CD := fun W => specPathOk (strOf dest) W (by rw [strOf_size]; unfold maxLen; omega)
  have CU := fun W => specUnder (strOf dest) (strOf path) W (by rw [strOf_size]; exact hd) (by rw [strOf_size]; exact hp)
  simp only [strOf_data] at CP CD CU
  have HIN := Lib.hid (args_in ⟨kind, path, dest, data, mode, time⟩)
  have HOUT := Lib.hid (args_out ⟨kind, path, dest, data, mode, time⟩)
  have hne : (((strOf dest).toList != (strOf path).toList) = !decide (dest = path)) ∧ (((strOf dest).toList == (strOf path).toList) = decide (dest = path)) := by
    by_cases e : dest = path
    · simp [bne, str_t e, e]
    · simp [bne, str_f e, e]
  generalize inB mode 0 511 = m at K1 HIN
  generalize timeOk time = t at K2 HIN
  generalize decide (0 < depthV path) = pb at CP HIN
  generalize decide (0 < depthV dest) = q at CD HIN
  generalize underV dest path = un at CU HIN
  generalize decide (dest = path) = ne at hne HIN
  have HCP := Lib.hid CP
  have HCD := Lib.hid CD
  have HCU := Lib.hid CU
  have HNE := Lib.hid hne
  clear CP CD CU hne
  go_enter Tryz.func96, Tryz.ntmps96
  go_wp2
  refine wp_region_quiet_below (by kernel_rfl) (by kernel_rfl) ?_
  repeat (go_big_quiet_step (first | exact K1.out _ _ | exact K2.out _ _))
  refine wpQuiet_nil ?_
  intro w6 hw6
  obtain ⟨r, rfl⟩ := hw6
  have hbr := below_regrown W r.d r.os
  have BR := Lib.hid (BK.out.on hbr)
  have HBR := Lib.hid (HB0.out.trans (hbr.mono HB0.out.size))
  generalize Sort.grow (redrawn W r.d) r.os = V at hbr BR HBR ⊢
  have hsV := hbr.size
  have c0 := BR.out.cell 0
  have c1 := BR.out.cell 1
  have c2 := BR.out.cell 2
  simp at c0 c1 c2
  clear K1 K2 f4 f5 hW hbr
  by_cases hk : 0 ≤ kind ∧ kind ≤ 8
  rotate_left
  · have HV := Lib.hid (HOUT.out hk)
    have hf := inB_f hk
    have C0 := Lib.hid (show ∀ W, Calls Tryz.prog 61 #[.int .i64 kind, .int .i64 0, .int .i64 8] W fun e w' => e = .returned (.bool false) ∧ W = w' from fun W => hf ▸ specIn kind 0 8 W)
    clear hk hf
    go_wp2_with fail
    refine (C0.out _).mono ?_
    rintro e w' ⟨rfl, rfl⟩
    go_wp2
    go_ret
    exact ⟨ret_bool (by rw [HV.out]), HBR.out⟩
  have HV := Lib.hid (HIN.out hk)
  have hf := inB_t hk.1 hk.2
  have C0 := Lib.hid (show ∀ W, Calls Tryz.prog 61 #[.int .i64 kind, .int .i64 0, .int .i64 8] W fun e w' => e = .returned (.bool true) ∧ W = w' from fun W => hf ▸ specIn kind 0 8 W)
  clear hf HIN HOUT
  go_wp2_with fail
  refine (C0.out _).mono ?_
  rintro e w' ⟨rfl, rfl⟩
  clear C0
  have hks : kind = 0 ∨ kind = 1 ∨ kind = 2 ∨ kind = 3 ∨ kind = 4 ∨ kind = 5 ∨ kind = 6 ∨ kind = 7 ∨ kind = 8 := by omega
  clear hk
  rcases hks with rfl | rfl | rfl | rfl | rfl | rfl | rfl | rfl | rfl
  · cases pb with
    | false =>
      go_wp2_with fail
      refine (HCP.out _).mono ?_
      rintro e V1 ⟨rfl, hb1⟩
      have HBV1 := Lib.hid (HBR.out.trans (hb1.mono HBR.out.size))
      have BV1 := Lib.hid (BR.out.on hb1)
      have c10 := BV1.out.cell 0
      have c11 := BV1.out.cell 1
      have c12 := BV1.out.cell 2
      simp at c10 c11 c12
      clear hb1
      go_wp2
      go_ret
      exact ⟨ret_bool (by rw [HV.out]; simp [argsK]), HBV1.out⟩
    | true =>
      go_wp2_with fail
      refine (HCP.out _).mono ?_
      rintro e V1 ⟨rfl, hb1⟩
      have HBV1 := Lib.hid (HBR.out.trans (hb1.mono HBR.out.size))
      have BV1 := Lib.hid (BR.out.on hb1)
      have c10 := BV1.out.cell 0
      have c11 := BV1.out.cell 1
      have c12 := BV1.out.cell 2
      simp at c10 c11 c12
      clear hb1
      cases m with
      | false =>
        go_wp2
        go_ret
        exact ⟨ret_bool (by rw [HV.out]; simp [argsK]), HBV1.out⟩
      | true =>
        go_wp2
        go_ret
        exact ⟨ret_bool (by rw [HV.out]; simp [argsK]), HBV1.out⟩
  · cases pb with
    | false =>
      go_wp2_with fail
      refine (HCP.out _).mono ?_
      rintro e V1 ⟨rfl, hb1⟩
      have HBV1 := Lib.hid (HBR.out.trans (hb1.mono HBR.out.size))
      have BV1 := Lib.hid (BR.out.on hb1)
      have c10 := BV1.out.cell 0
      have c11 := BV1.out.cell 1
      have c12 := BV1.out.cell 2
      simp at c10 c11 c12
      clear hb1
      go_wp2
      go_ret
      exact ⟨ret_bool (by rw [HV.out]; simp [argsK]), HBV1.out⟩
    | true =>
      go_wp2_with fail
      refine (HCP.out _).mono ?_
      rintro e V1 ⟨rfl, hb1⟩
      have HBV1 := Lib.hid (HBR.out.trans (hb1.mono HBR.out.size))
      have BV1 := Lib.hid (BR.out.on hb1)
      have c10 := BV1.out.cell 0
      have c11 := BV1.out.cell 1
      have c12 := BV1.out.cell 2
      simp at c10 c11 c12
      clear hb1
      cases m with
      | false =>
        go_wp2
        go_ret
        exact ⟨ret_bool (by rw [HV.out]; simp [argsK]), HBV1.out⟩
      | true =>
        go_wp2
        go_ret
        exact ⟨ret_bool (by rw [HV.out]; simp [argsK]), HBV1.out⟩
  · cases pb with
    | false =>
      go_wp2_with fail
      refine (HCP.out _).mono ?_
      rintro e V1 ⟨rfl, hb1⟩
      have HBV1 := Lib.hid (HBR.out.trans (hb1.mono HBR.out.size))
      have BV1 := Lib.hid (BR.out.on hb1)
      have c10 := BV1.out.cell 0
      have c11 := BV1.out.cell 1
      have c12 := BV1.out.cell 2
      simp at c10 c11 c12
      clear hb1
      go_wp2
      go_ret
      exact ⟨ret_bool (by rw [HV.out]; simp [argsK]), HBV1.out⟩
    | true =>
      go_wp2_with fail
      refine (HCP.out _).mono ?_
      rintro e V1 ⟨rfl, hb1⟩
      have HBV1 := Lib.hid (HBR.out.trans (hb1.mono HBR.out.size))
      have BV1 := Lib.hid (BR.out.on hb1)
      have c10 := BV1.out.cell 0
      have c11 := BV1.out.cell 1
      have c12 := BV1.out.cell 2
      simp at c10 c11 c12
      clear hb1
      go_wp2
      go_ret
      exact ⟨ret_bool (by rw [HV.out]; simp [argsK]), HBV1.out⟩
  · cases pb with
    | false =>
      go_wp2_with fail
      refine (HCP.out _).mono ?_
      rintro e V1 ⟨rfl, hb1⟩
      have HBV1 := Lib.hid (HBR.out.trans (hb1.mono HBR.out.size))
      have BV1 := Lib.hid (BR.out.on hb1)
      have c10 := BV1.out.cell 0
      have c11 := BV1.out.cell 1
      have c12 := BV1.out.cell 2
      simp at c10 c11 c12
      clear hb1
      go_wp2
      go_ret
      exact ⟨ret_bool (by rw [HV.out]; simp [argsK]), HBV1.out⟩
    | true =>
      go_wp2_with fail
      refine (HCP.out _).mono ?_
      rintro e V1 ⟨rfl, hb1⟩
      have HBV1 := Lib.hid (HBR.out.trans (hb1.mono HBR.out.size))
      have BV1 := Lib.hid (BR.out.on hb1)
      have c10 := BV1.out.cell 0
      have c11 := BV1.out.cell 1
      have c12 := BV1.out.cell 2
      simp at c10 c11 c12
      clear hb1
      go_wp2
      go_ret
      exact ⟨ret_bool (by rw [HV.out]; simp [argsK]), HBV1.out⟩
  · cases pb with
    | false =>
      go_wp2_with fail
      refine (HCP.out _).mono ?_
      rintro e V1 ⟨rfl, hb1⟩
      have HBV1 := Lib.hid (HBR.out.trans (hb1.mono HBR.out.size))
      have BV1 := Lib.hid (BR.out.on hb1)
      have c10 := BV1.out.cell 0
      have c11 := BV1.out.cell 1
      have c12 := BV1.out.cell 2
      simp at c10 c11 c12
      clear hb1
      go_wp2
      go_ret
      exact ⟨ret_bool (by rw [HV.out]; simp [argsK]), HBV1.out⟩
    | true =>
      go_wp2_with fail
      refine (HCP.out _).mono ?_
      rintro e V1 ⟨rfl, hb1⟩
      have HBV1 := Lib.hid (HBR.out.trans (hb1.mono HBR.out.size))
      have BV1 := Lib.hid (BR.out.on hb1)
      have c10 := BV1.out.cell 0
      have c11 := BV1.out.cell 1
      have c12 := BV1.out.cell 2
      simp at c10 c11 c12
      clear hb1
      cases q with
      | false =>
        go_wp2_with fail
        refine (HCD.out _).mono ?_
        rintro e V2 ⟨rfl, hb2⟩
        have HBV2 := Lib.hid (HBV1.out.trans (hb2.mono HBV1.out.size))
        have BV2 := Lib.hid (BV1.out.on hb2)
        have c20 := BV2.out.cell 0
        have c21 := BV2.out.cell 1
        have c22 := BV2.out.cell 2
        simp at c20 c21 c22
        clear hb2
        go_wp2
        go_ret
        exact ⟨ret_bool (by rw [HV.out]; simp [argsK]), HBV2.out⟩
      | true =>
        go_wp2_with fail
        refine (HCD.out _).mono ?_
        rintro e V2 ⟨rfl, hb2⟩
        have HBV2 := Lib.hid (HBV1.out.trans (hb2.mono HBV1.out.size))
        have BV2 := Lib.hid (BV1.out.on hb2)
        have c20 := BV2.out.cell 0
        have c21 := BV2.out.cell 1
        have c22 := BV2.out.cell 2
        simp at c20 c21 c22
        clear hb2
        cases ne with
        | true =>
          have hn1 : ((strOf dest).toList != (strOf path).toList) = false := HNE.out.1
          have hn2 : ((strOf dest).toList == (strOf path).toList) = true := HNE.out.2
          go_wp2
          go_ret
          exact ⟨ret_bool (by rw [HV.out]; simp [argsK]), HBV2.out⟩
        | false =>
          have hn1 : ((strOf dest).toList != (strOf path).toList) = true := HNE.out.1
          have hn2 : ((strOf dest).toList == (strOf path).toList) = false := HNE.out.2
          go_wp2_with fail
          refine (HCU.out _).mono ?_
          rintro e V3 ⟨rfl, hb3⟩
          have HBV3 := Lib.hid (HBV2.out.trans (hb3.mono HBV2.out.size))
          have BV3 := Lib.hid (BV2.out.on hb3)
          have c30 := BV3.out.cell 0
          have c31 := BV3.out.cell 1
          have c32 := BV3.out.cell 2
          simp at c30 c31 c32
          clear hb3
          go_wp2
          go_ret
          exact ⟨ret_bool (by rw [HV.out]; simp [argsK]), HBV3.out⟩
  · cases pb with
    | false =>
      go_wp2_with fail
      refine (HCP.out _).mono ?_
      rintro e V1 ⟨rfl, hb1⟩
      have HBV1 := Lib.hid (HBR.out.trans (hb1.mono HBR.out.size))
      have BV1 := Lib.hid (BR.out.on hb1)
      have c10 := BV1.out.cell 0
      have c11 := BV1.out.cell 1
      have c12 := BV1.out.cell 2
      simp at c10 c11 c12
      clear hb1
      go_wp2
      go_ret
      exact ⟨ret_bool (by rw [HV.out]; simp [argsK]), HBV1.out⟩
    | true =>
      go_wp2_with fail
      refine (HCP.out _).mono ?_
      rintro e V1 ⟨rfl, hb1⟩
      have HBV1 := Lib.hid (HBR.out.trans (hb1.mono HBR.out.size))
      have BV1 := Lib.hid (BR.out.on hb1)
      have c10 := BV1.out.cell 0
      have c11 := BV1.out.cell 1
      have c12 := BV1.out.cell 2
      simp at c10 c11 c12
      clear hb1
      go_wp2
      go_ret
      exact ⟨ret_bool (by rw [HV.out]; simp [argsK]), HBV1.out⟩
  · cases pb with
    | false =>
      go_wp2_with fail
      refine (HCP.out _).mono ?_
      rintro e V1 ⟨rfl, hb1⟩
      have HBV1 := Lib.hid (HBR.out.trans (hb1.mono HBR.out.size))
      have BV1 := Lib.hid (BR.out.on hb1)
      have c10 := BV1.out.cell 0
      have c11 := BV1.out.cell 1
      have c12 := BV1.out.cell 2
      simp at c10 c11 c12
      clear hb1
      go_wp2
      go_ret
      exact ⟨ret_bool (by rw [HV.out]; simp [argsK]), HBV1.out⟩
    | true =>
      go_wp2_with fail
      refine (HCP.out _).mono ?_
      rintro e V1 ⟨rfl, hb1⟩
      have HBV1 := Lib.hid (HBR.out.trans (hb1.mono HBR.out.size))
      have BV1 := Lib.hid (BR.out.on hb1)
      have c10 := BV1.out.cell 0
      have c11 := BV1.out.cell 1
      have c12 := BV1.out.cell 2
      simp at c10 c11 c12
      clear hb1
      go_wp2
      go_ret
      exact ⟨ret_bool (by rw [HV.out]; simp [argsK]), HBV1.out⟩
  · cases pb with
    | false =>
      go_wp2_with fail
      refine (HCP.out _).mono ?_
      rintro e V1 ⟨rfl, hb1⟩
      have HBV1 := Lib.hid (HBR.out.trans (hb1.mono HBR.out.size))
      have BV1 := Lib.hid (BR.out.on hb1)
      have c10 := BV1.out.cell 0
      have c11 := BV1.out.cell 1
      have c12 := BV1.out.cell 2
      simp at c10 c11 c12
      clear hb1
      go_wp2
      go_ret
      exact ⟨ret_bool (by rw [HV.out]; simp [argsK]), HBV1.out⟩
    | true =>
      go_wp2_with fail
      refine (HCP.out _).mono ?_
      rintro e V1 ⟨rfl, hb1⟩
      have HBV1 := Lib.hid (HBR.out.trans (hb1.mono HBR.out.size))
      have BV1 := Lib.hid (BR.out.on hb1)
      have c10 := BV1.out.cell 0
      have c11 := BV1.out.cell 1
      have c12 := BV1.out.cell 2
      simp at c10 c11 c12
      clear hb1
      go_wp2
      go_ret
      exact ⟨ret_bool (by rw [HV.out]; simp [argsK]), HBV1.out⟩
  · skip
    go_wp2
    go_ret
    exact ⟨ret_bool (by rw [HV.out]; simp [argsK]), HBR.out⟩
theorem specArgs (o : Ov) (w : World) (hp : o.path.length ≤ 2000000) (hd : o.dest.length ≤ 2000000) :
    Calls Tryz.prog 96 #[.agg #[.int .i64 o.kind, .string (strOf o.path), .string (strOf o.dest), .string (strOf o.data), .int .i64 o.mode, .int .i64 o.time]] w fun e w' => e = .returned (.bool (argsB o)) ∧ Below w.heap.size w w' :=
  specArgs6 o.kind o.mode o.time o.path o.dest o.data w hp hd
end Go.Proofs.YtipedabppgbfcaaGreatDoor
