/- drop over the tree that is worked on. slices.SortFunc over the row of the tree that is worked on. -/
import Derived.Test.YtipedabppgbfcaaGreatDoorK27
set_option linter.all false
namespace Go.Proofs.YtipedabppgbfcaaGreatDoor
open Go.RowKit
variable {R : World}

def dropV (t : Tv) (o : Ov) : Tv × Int := if (findV o.path t.ns).isSome = true then (if busyB t.ns o.path = true then (t, 6) else (⟨withoutN o.path t.ns, t.next⟩, 0)) else (t, 2)
theorem busy_under (ps : List (Nat × Nd)) (d : List UInt8) : busyB (nds ps) d = decide (0 < (underP d ps).length) := by
  unfold busyB underP nds
  rw [List.any_map, Bool.eq_iff_iff, decide_eq_true_eq, List.any_eq_true, List.length_pos_iff_exists_mem]
  constructor
  · rintro ⟨q, hq, h⟩; exact ⟨q, List.mem_filter.2 ⟨hq, h⟩⟩
  · rintro ⟨q, h⟩; exact ⟨q, (List.mem_filter.1 h).1, (List.mem_filter.1 h).2⟩

set_option maxRecDepth 100000 in
set_option maxHeartbeats 1000000 in
theorem wkDrop (o : Ov) (w : World) (B p : Nat) (v : Value) (ps : List (Nat × Nd)) (next : Int) (h : Work R w B p v ps next) (hR : Right (nds ps) next) (hpos : 0 < depthV o.path) :
    Calls Tryz.prog 119 #[.pointer (some ⟨p, 0, none⟩), .agg #[.int .i64 o.kind, .string (strOf o.path), .string (strOf o.dest), .string (strOf o.data), .int .i64 o.mode, .int .i64 o.time]] w fun e w' => WkRes R B p w (dropV ⟨nds ps, next⟩ o) e w' := by
  have hlen : ps.length ≤ 60 := by have := hR.len; rw [nds_len] at this; exact this
  have CP := Lib.hid (fun W (hw : Work R W B p v ps next) => wkPlace W B p v ps next o.path hw hR.up hlen)
  have CU := Lib.hid (fun W (hw : Work R W B p v ps next) => wkAllUnder W B p v ps next o.path hw hlen (fun q hq => node_path (hR.node q.2 (List.mem_map_of_mem (f := Prod.snd) hq))) hpos)
  have HV0 := Lib.hid (show (findV o.path (nds ps)).isSome = false → dropV ⟨nds ps, next⟩ o = (⟨nds ps, next⟩, 2) from fun hf => by unfold dropV; rw [hf]; rfl)
  have HV6 := Lib.hid (show (findV o.path (nds ps)).isSome = true → 0 < (underP o.path ps).length → dropV ⟨nds ps, next⟩ o = (⟨nds ps, next⟩, 6) from fun hf hb => by
    unfold dropV
    rw [if_pos hf, if_pos (by rw [busy_under]; exact decide_eq_true hb)])
  have HV1 := Lib.hid (show (findV o.path (nds ps)).isSome = true → ¬ 0 < (underP o.path ps).length → dropV ⟨nds ps, next⟩ o = (⟨nds (ps.take (placeV o.path (nds ps)) ++ ps.drop (placeV o.path (nds ps) + 1)), next⟩, 0) from fun hf hb => by
    obtain ⟨hi, h1, h2⟩ := found_is hR.up hf
    unfold dropV
    rw [if_pos hf, if_neg (by rw [busy_under]; simpa using hb), without_place hR.up h1]
    simp [nds, List.map_take, List.map_drop])
  have HI := Lib.hid (show (findV o.path (nds ps)).isSome = true → placeV o.path (nds ps) < ps.length from fun hf => (found_is hR.up hf).1)
  obtain ⟨kind, path, dest, data, mode, time⟩ := o
  simp only at CP CU HV0 HV6 HV1 HI hpos ⊢
  obtain ⟨wa, hwa⟩ : ∃ wa, w.alloc (.cells #[.int .i64 kind, .string (strOf path), .string (strOf dest), .string (strOf data), .int .i64 mode, .int .i64 time] 28) = wa := ⟨_, rfl⟩
  have ba : Below w.heap.size w wa := by rw [← hwa]; exact (Below.refl _ _).alloc (Nat.le_refl _) _
  have O0 := (show Blk wa w.heap.size #[.int .i64 kind, .string (strOf path), .string (strOf dest), .string (strOf data), .int .i64 mode, .int .i64 time] 28 by rw [← hwa]; exact Blk.new _ _ _)
  have HO := Lib.hid O0
  have HW := Lib.hid (h.on ba)
  have hlo := h.plt
  have HBA := Lib.hid (ba.mono (by omega : B ≤ w.heap.size))
  have CP2 := CP.out wa HW.out
  have CU2 := CU.out wa HW.out
  have o1 := O0.cell 1
  simp at o1
  clear h hR ba O0 CP CU hpos
  cases hf : (findV path (nds ps)).isSome with
  | false =>
    have HE := Lib.hid (HV0.out hf)
    rw [hf] at CP2
    generalize placeV path (nds ps) = i at CP2
    clear hf HV0 HV1 HV6 HI CU2
    go_enter Tryz.func119, Tryz.ntmps119
    go_wp2_with (go_at_call 153; refine CP2.mono ?_; rintro e W1 ⟨rfl, rfl⟩)
    go_ret
    exact WkRes.mk HE.out HW.out rfl HBA.out
  | true =>
    have hi := HI.out hf
    rw [hf] at CP2
    have HE6 := Lib.hid (HV6.out hf)
    have HE1 := Lib.hid (HV1.out hf)
    generalize placeV path (nds ps) = i at CP2 hi HE1
    clear hf HV0 HV1 HV6 HI
    go_enter Tryz.func119, Tryz.ntmps119
    go_wp2_with (go_at_call 153; refine CP2.mono ?_; rintro e W1 ⟨rfl, rfl⟩; clear CP2)
    refine CU2.mono ?_
    rintro e W1 ⟨v1, rfl, hr1, hb1⟩
    obtain ⟨a1, k1, rfl⟩ := own_slice hr1
    have HW1 := Lib.hid (HW.out.on hb1)
    have HB1 := Lib.hid (HBA.out.trans (hb1.mono (by have := HW.out.plt; omega)))
    clear hr1 hb1 CU2
    by_cases hu : 0 < (underP path ps).length
    · have huI : (0 : Int) < ((underP path ps).length : Int) := by omega
      have HE := Lib.hid (HE6.out hu)
      clear HE6 HE1 hu
      go_wp2
      go_ret
      exact WkRes.mk HE.out HW1.out rfl HB1.out
    · have huI : ¬ (0 : Int) < ((underP path ps).length : Int) := by omega
      have HE := Lib.hid (HE1.out hu)
      have c0 := HW1.out.top.cell 0
      simp at c0
      have CD := wkDelete W1 B p v ps next HW1.out i hi
      obtain ⟨ls, hls⟩ : ∃ ls, ps.take i ++ ps.drop (i + 1) = ls := ⟨_, rfl⟩
      rw [hls] at CD HE
      have HLS := Lib.hid hls
      clear hls
      obtain ⟨a, cap, rfl⟩ := HW1.out.shape
      have hiI : (i : Int) ≤ 60 := by omega
      clear HE6 HE1 hu o1
      go_wp2_with (go_at_call 160; refine CD.mono ?_; rintro e W2 ⟨v2, rfl, hr2, hg2⟩; (obtain ⟨a2, k2, rfl⟩ := own_slice hr2); (have hT2 := HW1.out.top.grown hg2 (fun e => (HW1.out.rowBlk e.symm).1 rfl)); (have z0 := hT2.cell 0); (have zf := hT2.frozen 0); simp at z0)
      have hsub : ∀ q ∈ ls, q ∈ ps := fun q hq => by
        rw [← HLS.out] at hq
        rcases List.mem_append.1 hq with hq | hq
        · exact List.mem_of_mem_take hq
        · exact List.mem_of_mem_drop hq
      have hap : ls.Pairwise fun a b => a.1 ≠ b.1 := by
        rw [← HLS.out]
        refine List.Pairwise.sublist ?_ HW1.out.apart
        rw [← List.eraseIdx_eq_take_drop_succ]
        exact List.eraseIdx_sublist ..
      have HF := Lib.hid (HW1.out.rerow hg2 hr2 hsub hap _ rfl)
      have HBE := Lib.hid (((HB1.out.grown hg2 (by have := HW1.out.plt; omega) (fun j e => (World.ownsRow.lt HW1.out.row j e).1)).setCell (p := ⟨p, 0, none⟩) hlo.1 (.slice a2 ls.length k2)))
      clear hr2 hg2 hT2 CD
      go_ret
      exact WkRes.mk HE.out HF.out rfl HBE.out
end Go.Proofs.YtipedabppgbfcaaGreatDoor
namespace Go.Proofs.YtipedabppgbfcaaGreatDoor
open Go.RowKit Go.Sort
variable {R : World}

set_option maxRecDepth 100000 in
theorem wkLess (b1 b2 : Nat) (n1 n2 : Nd) (w : World) (h1 : WkAt w b1 n1) (h2 : WkAt w b2 n2) : Calls Tryz.prog 162 #[wkVal (b1, n1), wkVal (b2, n2)] w fun e w' => e = .returned (.int .i64 (Lib.compareBytes n1.path n2.path)) ∧ w = w' := by
  have c0 := h2.cells.1
  have CB := fun W => wkBase b2 W
  have CC := wkCompare b1 n1 n2.path w h1
  have p1 := fun W => nil_folder "loop.example/g00704/impl.base" b2 W (.inl rfl)
  have p2 := fun W => nil_file "loop.example/g00704/impl.base" b2 W (.inl rfl)
  have m1 := fun W => base_folder b2 W
  have m2 := fun W => base_file b2 W
  generalize Lib.compareBytes n1.path n2.path = z at CC ⊢
  have hcell : ∃ t, wkVal (b2, n2) = .iface t (.pointer (some ⟨b2, 0, none⟩)) ∧ (t = 140 ∨ t = 143) := by
    cases hd : n2.dir with
    | true => exact ⟨_, wkVal_dir hd, .inl rfl⟩
    | false => exact ⟨_, wkVal_file hd, .inr rfl⟩
  obtain ⟨t, ht, htt⟩ := hcell
  rw [ht]
  have hcell1 : ∃ t, wkVal (b1, n1) = .iface t (.pointer (some ⟨b1, 0, none⟩)) := by
    cases hd : n1.dir with
    | true => exact ⟨_, wkVal_dir hd⟩
    | false => exact ⟨_, wkVal_file hd⟩
  obtain ⟨t1, ht1⟩ := hcell1
  rw [ht1] at CC ⊢
  clear h1 h2 ht ht1
  rcases htt with rfl | rfl
  all_goals
    go_enter Tryz.func162, Tryz.ntmps162
    go_wp2_with (first | (go_at_call 254; refine (CB _).mono ?_; rintro e w' ⟨rfl, rfl⟩) | (go_at_call 163; refine CC.mono ?_; rintro e w' ⟨rfl, rfl⟩))
    go_ret
    exact ⟨rfl, rfl⟩

theorem less_swo {α : Type} (f : α → List UInt8) : SWO (ltOf fun x y : α => Lib.compareBytes (f x) (f y)) where
  irrefl x := by unfold ltOf; rw [cmp_lt]; exact less_irr _
  trans x y z := by unfold ltOf; rw [cmp_lt, cmp_lt, cmp_lt]; exact less_trans
  ntrans x y z := by
    unfold ltOf
    rw [cmp_lt, cmp_lt, cmp_lt]
    intro h1 h2
    cases h3 : lessB (f x) (f z) with
    | false => rfl
    | true =>
      exfalso
      -- x < z, not x < y, not y < z: y ≤ x < z
      cases h4 : lessB (f y) (f x) with
      | true => have := less_trans h4 h3; rw [h2] at this; cases this
      | false =>
        have e := less_tri _ _ h1 h4
        rw [← e, h3] at h2; cases h2

set_option maxRecDepth 100000 in
set_option maxHeartbeats 1000000 in
theorem wkSorts (w : World) (B p : Nat) (v : Value) (ps : List (Nat × Nd)) (next : Int) (h : Work R w B p v ps next) (hne : ps ≠ []) (hlen : ps.length ≤ 60) :
    Calls Tryz.prog 161 #[v, .func (.func 162) #[] #[]] w fun e w' => e = .returned (.tuple #[]) ∧ ∃ ls : List (Nat × Nd), w'.ownsRow B 149 1 v ls.length (ls.map wkVal) ∧ ls.Perm ps ∧ (nds ls).Pairwise (fun a b => lessB b.path a.path = false) ∧ w.grownBy w' v.ownBlock := by
  rcases h.form with ⟨_, rfl⟩ | ⟨g, cap, rfl, hB, hg, hc, hf, hl, hm, cur, hgc, hcs⟩
  · exact absurd rfl hne
  obtain ⟨q0, hq0⟩ : ∃ q, q ∈ ps := List.exists_mem_of_ne_nil ps hne
  let A := { q : Nat × Nd // q ∈ ps }
  have : Inhabited A := ⟨⟨q0, hq0⟩⟩
  let enc : A → Value := fun x => wkVal x.1
  have h1 : OneCell enc := fun x => wkVal_one x.1
  let d : Array A := ps.attach.toArray
  have hds : d.size = ps.length := List.length_attach
  have hda : ∀ j (hj : j < ps.length), d[j]! = ⟨ps[j], List.getElem_mem hj⟩ := fun j hj => by
    rw [getElem!_pos d j (by omega)]
    exact List.getElem_attach ..
  have hH : Holds enc w g 0 d := fun j hj => by
    have hj2 : j < ps.length := by omega
    rw [Nat.zero_add]
    exact ⟨by rw [hc j hj2, hda j hj2], hf j⟩
  have hcmp : CmpLays1 Tryz.prog 162 #[] enc (fun x y => Lib.compareBytes x.1.2.path y.1.2.path) g 0 d.size w := by
    intro m os dk _ x y
    have hon : ∀ q ∈ ps, WkAt (sortWorld enc w g 0 m dk os) q.1 q.2 := fun q hq => by
      have hk := (h.node q hq).2
      refine ⟨⟨?_⟩, hk.data⟩
      rw [← hk.blk.blk]
      have hlt := hk.lt
      show (Array.modify w.heap g (onCells (putCells enc 0 dk)) ++ os)[q.1]? = _
      rw [Array.getElem?_append_left (by simpa using hlt), Array.getElem?_modify, if_neg ((h.rowBlk rfl).2 q hq)]
    refine (wkLess x.1.1 y.1.1 x.1.2 y.1.2 _ (hon _ x.2) (hon _ y.2)).mono ?_
    rintro e w' ⟨rfl, hw⟩
    refine ⟨rfl, 0, #[], ?_⟩
    rw [grow_empty, ← hw]
    rfl
  have hS := Any.slices_SortFunc Tryz.wkSort enc h1 _ (less_swo fun x : A => x.1.2.path) 162 #[] g 0 cap d w (enters_of Tryz.func162 (by kernel_rfl) rfl) hcmp hH hg (by omega)
  rw [hds] at hS
  change Calls Tryz.prog 161 _ _ _ at hS
  refine hS.mono ?_
  rintro e w' ⟨rfl, d', n, os, hp, hs, rfl⟩
  have hd's : d'.size = ps.length := by rw [hp.1, hds]
  obtain ⟨hr, hgr⟩ := putRow_own enc (B := B) hgc hcs hm hB d' (by omega) d'.size (Nat.le_refl _) n
  have hbg := below_grow (putRow enc (Sort.ahead w n) g 0 d') 0 os
  have hbg2 : Below (putRow enc (Sort.ahead w n) g 0 d').heap.size (putRow enc (Sort.ahead w n) g 0 d') (sortWorld enc w g 0 n d' os) := hbg
  have hpl : (d'.toList.map Subtype.val).Perm ps := by
    have e1 : (d'.extract 0 ps.length).toList = d'.toList := by rw [← hd's]; simp
    have e2 : (d.extract 0 ps.length).toList = d.toList := by rw [← hds]; simp
    have := hp.2.2
    rw [e1, e2] at this
    have h3 := this.map Subtype.val
    refine h3.trans ?_
    have e3 : d.toList.map Subtype.val = ps := List.attach_map_subtype_val ps
    rw [e3]
  refine ⟨rfl, d'.toList.map Subtype.val, ?_, hpl, ?_, ?_⟩
  · have h2 := owns_on6 hr hbg2
    have e1 : (d'.toList.map Subtype.val).length = d'.size := by simp
    have e2 : (d'.toList.map Subtype.val).map wkVal = (d'.toList.take d'.size).map enc := by
      rw [List.map_map, List.take_of_length_le (by simp)]; rfl
    rw [e1, e2, hd's]
    rw [hd's] at h2
    exact h2
  · rw [List.pairwise_iff_getElem]
    intro i j hi hj hij
    have hi2 : i < d'.size := by simpa [nds] using hi
    have hj2 : j < d'.size := by simpa [nds] using hj
    have := hs i j (Nat.zero_le _) hij (by omega)
    unfold ltOf at this
    rw [cmp_lt, getElem!_pos d' i hi2, getElem!_pos d' j hj2] at this
    simpa [nds] using this
  · exact grownBy_on hgr hbg2
end Go.Proofs.YtipedabppgbfcaaGreatDoor
