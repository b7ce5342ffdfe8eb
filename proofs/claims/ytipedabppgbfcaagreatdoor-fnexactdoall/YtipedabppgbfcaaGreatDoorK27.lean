/- setMode, setTime over the tree that is worked on. fileAt, addData, cutData over the tree that is worked on. -/
import Derived.Test.YtipedabppgbfcaaGreatDoorK26
set_option linter.all false
namespace Go.Proofs.YtipedabppgbfcaaGreatDoor
open Go.RowKit
variable {R : World}

theorem change_at {t : Tv} {o : Ov} {i : Nat} {n : Nd} (hf : findV o.path t.ns = some i) (hn : t.ns[i]? = some n) : changeV t o = if (changeN o n).2 = 0 then (⟨t.ns.set i (changeN o n).1, t.next⟩, 0) else (t, (changeN o n).2) := by
  unfold changeV; rw [hf]; simp only [hn]
theorem found_is {ps : List (Nat × Nd)} (hu : Up (nds ps)) {path : List UInt8} (h : (findV path (nds ps)).isSome = true) : ∃ hi : placeV path (nds ps) < ps.length, findV path (nds ps) = some (placeV path (nds ps)) ∧ (nds ps)[placeV path (nds ps)]? = some ps[placeV path (nds ps)].2 := by
  obtain ⟨hi, _⟩ := found_at hu h
  cases hf : findV path (nds ps) with
  | none => rw [hf] at h; cases h
  | some k =>
    obtain ⟨e, _⟩ := find_is_place hu hf
    exact ⟨hi, by rw [e], by simp [nds, List.getElem?_eq_getElem hi]⟩
/-- What the ops on a node that must be there make. -/
def atV (t : Tv) (o : Ov) : Tv × Int := if (findV o.path t.ns).isSome = true then changeV t o else (t, 2)

set_option maxRecDepth 100000 in
set_option maxHeartbeats 1000000 in
theorem wkSetMode (o : Ov) (w : World) (B p : Nat) (v : Value) (ps : List (Nat × Nd)) (next : Int) (h : Work R w B p v ps next) (hR : Right (nds ps) next) (hk : o.kind = 6) :
    Calls Tryz.prog 120 #[.pointer (some ⟨p, 0, none⟩), .agg #[.int .i64 o.kind, .string (strOf o.path), .string (strOf o.dest), .string (strOf o.data), .int .i64 o.mode, .int .i64 o.time]] w fun e w' => WkRes R B p w (atV ⟨nds ps, next⟩ o) e w' := by
  have hlen : ps.length ≤ 60 := by have := hR.len; rw [nds_len] at this; exact this
  have CP := Lib.hid (fun W (hw : Work R W B p v ps next) => wkPlace W B p v ps next o.path hw hR.up hlen)
  have HV := Lib.hid (show (findV o.path (nds ps)).isSome = true → ∃ hi : placeV o.path (nds ps) < ps.length, atV ⟨nds ps, next⟩ o = (⟨(nds ps).set (placeV o.path (nds ps)) { ps[placeV o.path (nds ps)].2 with mode := o.mode }, next⟩, 0) from fun hf => by
    obtain ⟨hi, h1, h2⟩ := found_is hR.up hf
    refine ⟨hi, ?_⟩
    unfold atV
    rw [if_pos hf, change_at h1 h2]
    unfold changeN
    rw [if_pos hk]; rfl)
  have HV0 := Lib.hid (show (findV o.path (nds ps)).isSome = false → atV ⟨nds ps, next⟩ o = (⟨nds ps, next⟩, 2) from fun hf => by unfold atV; rw [hf]; rfl)
  obtain ⟨kind, path, dest, data, mode, time⟩ := o
  simp only at CP HV HV0 hk ⊢
  obtain ⟨wa, hwa⟩ : ∃ wa, w.alloc (.cells #[.int .i64 kind, .string (strOf path), .string (strOf dest), .string (strOf data), .int .i64 mode, .int .i64 time] 28) = wa := ⟨_, rfl⟩
  have ba : Below w.heap.size w wa := by rw [← hwa]; exact (Below.refl _ _).alloc (Nat.le_refl _) _
  have O0 := (show Blk wa w.heap.size #[.int .i64 kind, .string (strOf path), .string (strOf dest), .string (strOf data), .int .i64 mode, .int .i64 time] 28 by rw [← hwa]; exact Blk.new _ _ _)
  have HW := Lib.hid (h.on ba)
  have hlo := h.plt
  have HBA := Lib.hid (ba.mono (by omega : B ≤ w.heap.size))
  have CP2 := CP.out wa HW.out
  have o1 := O0.cell 1
  have o4 := O0.cell 4
  have c0 := HW.out.top.cell 0
  simp at o1 o4 c0
  clear h hR ba O0 CP hk
  cases hf : (findV path (nds ps)).isSome with
  | false =>
    have HE := Lib.hid (HV0.out hf)
    rw [hf] at CP2
    generalize placeV path (nds ps) = i at CP2
    obtain ⟨a, cap, rfl⟩ := HW.out.shape
    clear hf HV HV0
    go_enter Tryz.func120, Tryz.ntmps120
    go_wp2_with (go_at_call 153; refine CP2.mono ?_; rintro e W1 ⟨rfl, rfl⟩)
    go_ret
    exact WkRes.mk HE.out HW.out rfl HBA.out
  | true =>
    obtain ⟨hi, he⟩ := HV.out hf
    have HE := Lib.hid he
    rw [hf] at CP2
    generalize placeV path (nds ps) = i at CP2 hi HE
    obtain ⟨g, cap, rfl, hc⟩ := HW.out.at hi
    have hn := (HW.out.node _ (List.getElem_mem hi)).2
    have hbl := (HW.out.node _ (List.getElem_mem hi)).1
    have HREN := Lib.hid (fun u n hd hk => HW.out.renode i hi 1 u n hd hk)
    generalize hq : ps[i] = q at hc hn hbl HREN HE
    obtain ⟨b, nd⟩ := q
    have x1 := hn.cells.2.1
    have xf := hn.frozen 1
    have HN := Lib.hid hn
    have hiI : (i : Int) < (ps.length : Int) := by omega
    have hi0 : (0 : Int) ≤ (i : Int) := by omega
    have CB := fun W => (wkBase b W).mono (fun _ _ h => (⟨h.1, h.2.symm⟩ : _ ∧ _))
    have n1 := fun W => nil_folder "loop.example/g00704/impl.base" b W (.inl rfl)
    have n2 := fun W => nil_file "loop.example/g00704/impl.base" b W (.inl rfl)
    have m1 := fun W => base_folder b W
    have m2 := fun W => base_file b W
    have hcell : ∃ t, wkVal (b, nd) = .iface t (.pointer (some ⟨b, 0, none⟩)) ∧ (t = 140 ∨ t = 143) := by
      cases hd : nd.dir with
      | true => exact ⟨_, wkVal_dir hd, .inl rfl⟩
      | false => exact ⟨_, wkVal_file hd, .inr rfl⟩
    obtain ⟨t, ht, htt⟩ := hcell
    rw [ht] at hc
    clear hf HV HV0 he hn hq ht
    rcases htt with rfl | rfl
    all_goals
      go_enter Tryz.func120, Tryz.ntmps120
      go_wp2_with (go_at_call 153; refine CP2.mono ?_; rintro e W1 ⟨rfl, rfl⟩)
      refine wp_region_still_tail 12 (by kernel_rfl) (by kernel_rfl) ?_
      simp only [List.take_succ_cons, List.take_zero, List.drop_succ_cons, List.drop_zero]
      iterate 7 still_step
      still_call (CB _)
      iterate 4 still_step
      refine wpStill_nil ?_
      change wpList _ _ _ _ _ wa.drew
      go_wp2
      go_ret
      exact WkRes.mk HE.out ((HREN.out _ { nd with mode := mode } rfl (HN.out.setMode mode)).on (Below.refl _ _).drew) (by rw [nds_set]) ((HBA.out.setCell (p := ⟨b, 1, none⟩) hbl _).drew)
set_option maxRecDepth 100000 in
set_option maxHeartbeats 1000000 in
theorem wkSetTime (o : Ov) (w : World) (B p : Nat) (v : Value) (ps : List (Nat × Nd)) (next : Int) (h : Work R w B p v ps next) (hR : Right (nds ps) next) (hk : o.kind = 7) :
    Calls Tryz.prog 121 #[.pointer (some ⟨p, 0, none⟩), .agg #[.int .i64 o.kind, .string (strOf o.path), .string (strOf o.dest), .string (strOf o.data), .int .i64 o.mode, .int .i64 o.time]] w fun e w' => WkRes R B p w (atV ⟨nds ps, next⟩ o) e w' := by
  have hlen : ps.length ≤ 60 := by have := hR.len; rw [nds_len] at this; exact this
  have CP := Lib.hid (fun W (hw : Work R W B p v ps next) => wkPlace W B p v ps next o.path hw hR.up hlen)
  have HV := Lib.hid (show (findV o.path (nds ps)).isSome = true → ∃ hi : placeV o.path (nds ps) < ps.length, atV ⟨nds ps, next⟩ o = (⟨(nds ps).set (placeV o.path (nds ps)) { ps[placeV o.path (nds ps)].2 with time := o.time }, next⟩, 0) from fun hf => by
    obtain ⟨hi, h1, h2⟩ := found_is hR.up hf
    refine ⟨hi, ?_⟩
    unfold atV
    rw [if_pos hf, change_at h1 h2]
    unfold changeN
    have h6 : ¬ o.kind = 6 := by omega
    simp only [if_neg h6, if_pos hk]
    rfl)
  have HV0 := Lib.hid (show (findV o.path (nds ps)).isSome = false → atV ⟨nds ps, next⟩ o = (⟨nds ps, next⟩, 2) from fun hf => by unfold atV; rw [hf]; rfl)
  obtain ⟨kind, path, dest, data, mode, time⟩ := o
  simp only at CP HV HV0 hk ⊢
  obtain ⟨wa, hwa⟩ : ∃ wa, w.alloc (.cells #[.int .i64 kind, .string (strOf path), .string (strOf dest), .string (strOf data), .int .i64 mode, .int .i64 time] 28) = wa := ⟨_, rfl⟩
  have ba : Below w.heap.size w wa := by rw [← hwa]; exact (Below.refl _ _).alloc (Nat.le_refl _) _
  have O0 := (show Blk wa w.heap.size #[.int .i64 kind, .string (strOf path), .string (strOf dest), .string (strOf data), .int .i64 mode, .int .i64 time] 28 by rw [← hwa]; exact Blk.new _ _ _)
  have HW := Lib.hid (h.on ba)
  have hlo := h.plt
  have HBA := Lib.hid (ba.mono (by omega : B ≤ w.heap.size))
  have CP2 := CP.out wa HW.out
  have o1 := O0.cell 1
  have o4 := O0.cell 5
  have c0 := HW.out.top.cell 0
  simp at o1 o4 c0
  clear h hR ba O0 CP hk
  cases hf : (findV path (nds ps)).isSome with
  | false =>
    have HE := Lib.hid (HV0.out hf)
    rw [hf] at CP2
    generalize placeV path (nds ps) = i at CP2
    obtain ⟨a, cap, rfl⟩ := HW.out.shape
    clear hf HV HV0
    go_enter Tryz.func121, Tryz.ntmps121
    go_wp2_with (go_at_call 153; refine CP2.mono ?_; rintro e W1 ⟨rfl, rfl⟩)
    go_ret
    exact WkRes.mk HE.out HW.out rfl HBA.out
  | true =>
    obtain ⟨hi, he⟩ := HV.out hf
    have HE := Lib.hid he
    rw [hf] at CP2
    generalize placeV path (nds ps) = i at CP2 hi HE
    obtain ⟨g, cap, rfl, hc⟩ := HW.out.at hi
    have hn := (HW.out.node _ (List.getElem_mem hi)).2
    have hbl := (HW.out.node _ (List.getElem_mem hi)).1
    have HREN := Lib.hid (fun u n hd hk => HW.out.renode i hi 2 u n hd hk)
    generalize hq : ps[i] = q at hc hn hbl HREN HE
    obtain ⟨b, nd⟩ := q
    have x1 := hn.cells.2.2.1
    have xf := hn.frozen 2
    have HN := Lib.hid hn
    have hiI : (i : Int) < (ps.length : Int) := by omega
    have hi0 : (0 : Int) ≤ (i : Int) := by omega
    have CB := fun W => (wkBase b W).mono (fun _ _ h => (⟨h.1, h.2.symm⟩ : _ ∧ _))
    have n1 := fun W => nil_folder "loop.example/g00704/impl.base" b W (.inl rfl)
    have n2 := fun W => nil_file "loop.example/g00704/impl.base" b W (.inl rfl)
    have m1 := fun W => base_folder b W
    have m2 := fun W => base_file b W
    have hcell : ∃ t, wkVal (b, nd) = .iface t (.pointer (some ⟨b, 0, none⟩)) ∧ (t = 140 ∨ t = 143) := by
      cases hd : nd.dir with
      | true => exact ⟨_, wkVal_dir hd, .inl rfl⟩
      | false => exact ⟨_, wkVal_file hd, .inr rfl⟩
    obtain ⟨t, ht, htt⟩ := hcell
    rw [ht] at hc
    clear hf HV HV0 he hn hq ht
    rcases htt with rfl | rfl
    all_goals
      go_enter Tryz.func121, Tryz.ntmps121
      go_wp2_with (go_at_call 153; refine CP2.mono ?_; rintro e W1 ⟨rfl, rfl⟩)
      refine wp_region_still_tail 12 (by kernel_rfl) (by kernel_rfl) ?_
      simp only [List.take_succ_cons, List.take_zero, List.drop_succ_cons, List.drop_zero]
      iterate 7 still_step
      still_call (CB _)
      iterate 4 still_step
      refine wpStill_nil ?_
      change wpList _ _ _ _ _ wa.drew
      go_wp2
      go_ret
      exact WkRes.mk HE.out ((HREN.out _ { nd with time := time } rfl (HN.out.setTime time)).on (Below.refl _ _).drew) (by rw [nds_set]) ((HBA.out.setCell (p := ⟨b, 2, none⟩) hbl _).drew)
end Go.Proofs.YtipedabppgbfcaaGreatDoor
namespace Go.Proofs.YtipedabppgbfcaaGreatDoor
open Go.RowKit
variable {R : World}

set_option maxRecDepth 100000 in
set_option maxHeartbeats 1000000 in
theorem wkFileNone (path : List UInt8) (w : World) (B p : Nat) (v : Value) (ps : List (Nat × Nd)) (next : Int) (h : Work R w B p v ps next) (hu : Up (nds ps)) (hlen : ps.length ≤ 60) (hf : (findV path (nds ps)).isSome = false) :
    Calls Tryz.prog 152 #[.pointer (some ⟨p, 0, none⟩), .string (strOf path)] w fun e w' => e = .returned (.tuple #[.pointer none, .int .i64 2]) ∧ w = w' := by
  have CP := wkPlace w B p v ps next path h hu hlen
  rw [hf] at CP
  generalize placeV path (nds ps) = i at CP
  clear h hu hf
  go_enter Tryz.func152, Tryz.ntmps152
  go_wp2_with (go_at_call 153; refine CP.mono ?_; rintro e W1 ⟨rfl, rfl⟩)
  go_ret2
  exact ⟨rfl, rfl⟩
set_option maxRecDepth 100000 in
set_option maxHeartbeats 1000000 in
theorem wkFileFound (path : List UInt8) (w : World) (B p : Nat) (v : Value) (ps : List (Nat × Nd)) (next : Int) (h : Work R w B p v ps next) (hu : Up (nds ps)) (hlen : ps.length ≤ 60) (hf : (findV path (nds ps)).isSome = true) (b : Nat) (nd : Nd) (hat : ps[placeV path (nds ps)]? = some (b, nd)) :
    Calls Tryz.prog 152 #[.pointer (some ⟨p, 0, none⟩), .string (strOf path)] w fun e w' => e = .returned (.tuple #[.pointer (if nd.dir = true then none else some ⟨b, 0, none⟩), .int .i64 (if nd.dir = true then 4 else 0)]) ∧ w = w' := by
  have CP := wkPlace w B p v ps next path h hu hlen
  rw [hf] at CP
  obtain ⟨hi, hq⟩ := List.getElem?_eq_some_iff.1 hat
  obtain ⟨g, cap, rfl, hc⟩ := h.at hi
  rw [hq] at hc
  have c0 := h.top.cell 0
  simp at c0
  generalize placeV path (nds ps) = i at CP hi hc
  have hiI : (i : Int) < (ps.length : Int) := by omega
  have hi0 : (0 : Int) ≤ (i : Int) := by omega
  have a1 := as_dir_file b
  have a2 := as_file_file b
  clear h hu hf hq hat
  cases hd : nd.dir with
  | true =>
    rw [wkVal_dir hd] at hc
    clear hd
    go_enter Tryz.func152, Tryz.ntmps152
    go_wp2_with (go_at_call 153; refine CP.mono ?_; rintro e W1 ⟨rfl, rfl⟩)
    go_ret2
    exact ⟨rfl, rfl⟩
  | false =>
    rw [wkVal_file hd] at hc
    clear hd
    go_enter Tryz.func152, Tryz.ntmps152
    go_wp2_with (go_at_call 153; refine CP.mono ?_; rintro e W1 ⟨rfl, rfl⟩)
    go_ret2
    exact ⟨rfl, rfl⟩

theorem found_some {ps : List (Nat × Nd)} (hu : Up (nds ps)) {path : List UInt8} (h : (findV path (nds ps)).isSome = true) : ∃ b nd, ps[placeV path (nds ps)]? = some (b, nd) ∧ findV path (nds ps) = some (placeV path (nds ps)) ∧ (nds ps)[placeV path (nds ps)]? = some nd := by
  obtain ⟨hi, h1, h2⟩ := found_is hu h
  exact ⟨_, _, List.getElem?_eq_getElem hi, h1, h2⟩
theorem atV_dir {t : Tv} {o : Ov} {i : Nat} {n : Nd} (hk : o.kind = 2 ∨ o.kind = 3) (hf : findV o.path t.ns = some i) (hn : t.ns[i]? = some n) (hd : n.dir = true) : atV t o = (t, 4) := by
  have h6 : ¬ o.kind = 6 := by omega
  have h7 : ¬ o.kind = 7 := by omega
  have hs : (findV o.path t.ns).isSome = true := by rw [hf]; rfl
  unfold atV
  rw [if_pos hs, change_at hf hn]
  unfold changeN
  simp only [if_neg h6, if_neg h7, if_pos hd]
  rfl
theorem atV_cut {t : Tv} {o : Ov} {i : Nat} {n : Nd} (hk : o.kind = 3) (hf : findV o.path t.ns = some i) (hn : t.ns[i]? = some n) (hd : n.dir = false) : atV t o = (⟨t.ns.set i { n with data := [], time := o.time }, t.next⟩, 0) := by
  have h6 : ¬ o.kind = 6 := by omega
  have h7 : ¬ o.kind = 7 := by omega
  have hd' : ¬ n.dir = true := by rw [hd]; decide
  have hs : (findV o.path t.ns).isSome = true := by rw [hf]; rfl
  unfold atV
  rw [if_pos hs, change_at hf hn]
  unfold changeN
  simp only [if_neg h6, if_neg h7, if_neg hd', if_pos hk]
  rfl
theorem atV_full {t : Tv} {o : Ov} {i : Nat} {n : Nd} (hk : o.kind = 2) (hf : findV o.path t.ns = some i) (hn : t.ns[i]? = some n) (hd : n.dir = false) (hl : 3000 < n.data.length + o.data.length) : atV t o = (t, 5) := by
  have h6 : ¬ o.kind = 6 := by omega
  have h7 : ¬ o.kind = 7 := by omega
  have h3 : ¬ o.kind = 3 := by omega
  have hd' : ¬ n.dir = true := by rw [hd]; decide
  have hs : (findV o.path t.ns).isSome = true := by rw [hf]; rfl
  unfold atV
  rw [if_pos hs, change_at hf hn]
  unfold changeN
  simp only [if_neg h6, if_neg h7, if_neg hd', if_neg h3, if_pos hl]
  rfl
theorem atV_add {t : Tv} {o : Ov} {i : Nat} {n : Nd} (hk : o.kind = 2) (hf : findV o.path t.ns = some i) (hn : t.ns[i]? = some n) (hd : n.dir = false) (hl : ¬ 3000 < n.data.length + o.data.length) : atV t o = (⟨t.ns.set i { n with data := n.data ++ o.data, time := o.time }, t.next⟩, 0) := by
  have h6 : ¬ o.kind = 6 := by omega
  have h7 : ¬ o.kind = 7 := by omega
  have h3 : ¬ o.kind = 3 := by omega
  have hd' : ¬ n.dir = true := by rw [hd]; decide
  have hs : (findV o.path t.ns).isSome = true := by rw [hf]; rfl
  unfold atV
  rw [if_pos hs, change_at hf hn]
  unfold changeN
  simp only [if_neg h6, if_neg h7, if_neg hd', if_neg h3, if_neg hl]
  rfl
theorem Work.at2 {W : World} {B p : Nat} {v : Value} {ps : List (Nat × Nd)} {next : Int} {i b : Nat} {nd n1 n2 : Nd} {o1 o2 : Nat} {u1 u2 : Value} (h : Work R W B p v ps next) (hq : ps[i]? = some (b, nd)) (hd1 : n1.dir = nd.dir) (hd2 : n2.dir = n1.dir) (h1 : WkAt (W.setCell ⟨b, o1, none⟩ u1) b n1) (h2 : WkAt ((W.setCell ⟨b, o1, none⟩ u1).setCell ⟨b, o2, none⟩ u2) b n2) : Work R ((W.setCell ⟨b, o1, none⟩ u1).setCell ⟨b, o2, none⟩ u2) B p v (ps.set i (b, n2)) next := by
  obtain ⟨hi, he⟩ := List.getElem?_eq_some_iff.1 hq
  have k1 := h.renode i hi o1 u1 n1 (by rw [he]; exact hd1) (by rw [he]; exact h1)
  rw [he] at k1
  simp only at k1
  have hi2 : i < (ps.set i (b, n1)).length := by simpa using hi
  have he2 : (ps.set i (b, n1))[i] = (b, n1) := by simp
  have k2 := k1.renode i hi2 o2 u2 n2 (by rw [he2]; exact hd2) (by rw [he2]; exact h2)
  rw [he2, List.set_set] at k2
  exact k2
theorem Work.redata {W : World} {B p : Nat} {v : Value} {ps : List (Nat × Nd)} {next : Int} {i b : Nat} {nd : Nd} (h : Work R W B p v ps next) (hq : ps[i]? = some (b, nd)) (hk : WkAt W b nd) (hf : nd.dir = false) (d : List UInt8) (t : Int) :
    Work R ((W.setCell ⟨b, 4, none⟩ (.string (strOf d))).setCell ⟨b, 2, none⟩ (.int .i64 t)) B p v (ps.set i (b, { nd with data := d, time := t })) next ∧ Work R ((W.setCell ⟨b, 2, none⟩ (.int .i64 t)).setCell ⟨b, 4, none⟩ (.string (strOf d))) B p v (ps.set i (b, { nd with data := d, time := t })) next :=
  ⟨h.at2 hq (n1 := { nd with data := d }) rfl rfl (hk.setData hf d) ((hk.setData hf d).setTime t), h.at2 hq (n1 := { nd with time := t }) rfl rfl (hk.setTime t) ((hk.setTime t).setData hf d)⟩
theorem WkAt.set2 {W : World} {b : Nat} {n : Nd} (h : WkAt W b n) (hf : n.dir = false) (d : List UInt8) (t : Int) : WkAt ((W.setCell ⟨b, 4, none⟩ (.string (strOf d))).setCell ⟨b, 2, none⟩ (.int .i64 t)) b { n with data := d, time := t } := (h.setData hf d).setTime t

set_option maxRecDepth 100000 in
set_option maxHeartbeats 1000000 in
theorem wkCut (o : Ov) (w : World) (B p : Nat) (v : Value) (ps : List (Nat × Nd)) (next : Int) (h : Work R w B p v ps next) (hR : Right (nds ps) next) (hk : o.kind = 3) :
    Calls Tryz.prog 117 #[.pointer (some ⟨p, 0, none⟩), .agg #[.int .i64 o.kind, .string (strOf o.path), .string (strOf o.dest), .string (strOf o.data), .int .i64 o.mode, .int .i64 o.time]] w fun e w' => WkRes R B p w (atV ⟨nds ps, next⟩ o) e w' := by
  have hlen : ps.length ≤ 60 := by have := hR.len; rw [nds_len] at this; exact this
  have C0 := Lib.hid (fun W (hw : Work R W B p v ps next) hf => wkFileNone o.path W B p v ps next hw hR.up hlen hf)
  have C1 := Lib.hid (fun W (hw : Work R W B p v ps next) hf b nd hat => wkFileFound o.path W B p v ps next hw hR.up hlen hf b nd hat)
  have HV0 := Lib.hid (show (findV o.path (nds ps)).isSome = false → atV ⟨nds ps, next⟩ o = (⟨nds ps, next⟩, 2) from fun hf => by unfold atV; rw [hf]; rfl)
  have HF := Lib.hid (fun hf => found_some (path := o.path) hR.up hf)
  have HD := Lib.hid (fun i n h1 h2 h3 => atV_dir (t := ⟨nds ps, next⟩) (o := o) (i := i) (n := n) (.inr hk) h1 h2 h3)
  have HC := Lib.hid (fun i n h1 h2 h3 => atV_cut (t := ⟨nds ps, next⟩) (o := o) (i := i) (n := n) hk h1 h2 h3)
  obtain ⟨kind, path, dest, data, mode, time⟩ := o
  simp only at C0 C1 HV0 HF HD HC hk ⊢
  obtain ⟨wa, hwa⟩ : ∃ wa, w.alloc (.cells #[.int .i64 kind, .string (strOf path), .string (strOf dest), .string (strOf data), .int .i64 mode, .int .i64 time] 28) = wa := ⟨_, rfl⟩
  have ba : Below w.heap.size w wa := by rw [← hwa]; exact (Below.refl _ _).alloc (Nat.le_refl _) _
  have O0 := (show Blk wa w.heap.size #[.int .i64 kind, .string (strOf path), .string (strOf dest), .string (strOf data), .int .i64 mode, .int .i64 time] 28 by rw [← hwa]; exact Blk.new _ _ _)
  have HW := Lib.hid (h.on ba)
  have hlo := h.plt
  have HBA := Lib.hid (ba.mono (by omega : B ≤ w.heap.size))
  have o1 := O0.cell 1
  have o5 := O0.cell 5
  simp at o1 o5
  clear h hR ba O0 hk
  cases hf : (findV path (nds ps)).isSome with
  | false =>
    have HE := Lib.hid (HV0.out hf)
    have CP := C0.out wa HW.out hf
    clear hf C0 C1 HV0 HF HD HC
    go_enter Tryz.func117, Tryz.ntmps117
    go_wp2_with (go_at_call 152; refine CP.mono ?_; rintro e W1 ⟨rfl, rfl⟩)
    go_ret
    exact WkRes.mk HE.out HW.out rfl HBA.out
  | true =>
    obtain ⟨b, nd, hat, h1, h2⟩ := HF.out hf
    have CP := C1.out wa HW.out hf b nd hat
    have HD2 := Lib.hid (HD.out _ _ h1 h2)
    have HC2 := Lib.hid (HC.out _ _ h1 h2)
    generalize placeV path (nds ps) = i at CP hat HD2 HC2
    obtain ⟨hi, hq⟩ := List.getElem?_eq_some_iff.1 hat
    have hn := (HW.out.node _ (List.getElem_mem hi)).2
    have hbl := (HW.out.node _ (List.getElem_mem hi)).1
    have HI := Lib.hid hi
    rw [hq] at hn hbl
    simp only at hn hbl
    have HAT := Lib.hid hat
    have HN := Lib.hid hn
    clear C0 C1 HV0 HF HD HC h1 h2 hf hat hq hi
    cases hd : nd.dir with
    | true =>
      have HE := Lib.hid (HD2.out hd)
      rw [hd] at CP
      clear HC2 HD2 hd hn
      go_enter Tryz.func117, Tryz.ntmps117
      go_wp2_with (go_at_call 152; refine CP.mono ?_; rintro e W1 ⟨rfl, rfl⟩)
      go_ret
      exact WkRes.mk HE.out HW.out rfl HBA.out
    | false =>
      have HE := Lib.hid (HC2.out hd)
      rw [hd] at CP
      have x2 := (hn.file hd).cell 2
      have x4 := (hn.file hd).cell 4
      have xf := fun j => hn.frozen j
      simp at x2 x4
      have HDD := Lib.hid hd
      clear HC2 HD2 hd hn
      go_enter Tryz.func117, Tryz.ntmps117
      go_wp2_with (go_at_call 152; refine CP.mono ?_; rintro e W1 ⟨rfl, rfl⟩)
      go_region
      all_goals
        go_wp2
        go_ret
        first
          | exact WkRes.mk HE.out ((HW.out.redata HAT.out HN.out HDD.out [] time).1.on (Below.refl _ _).drew) (by rw [nds_set]) (((HBA.out.setCell (p := ⟨b, 4, none⟩) hbl _).setCell (p := ⟨b, 2, none⟩) hbl _).drew)
          | exact WkRes.mk HE.out ((HW.out.redata HAT.out HN.out HDD.out [] time).2.on (Below.refl _ _).drew) (by rw [nds_set]) (((HBA.out.setCell (p := ⟨b, 2, none⟩) hbl _).setCell (p := ⟨b, 4, none⟩) hbl _).drew)
set_option maxRecDepth 100000 in
set_option maxHeartbeats 1000000 in
theorem wkAdd (o : Ov) (w : World) (B p : Nat) (v : Value) (ps : List (Nat × Nd)) (next : Int) (h : Work R w B p v ps next) (hR : Right (nds ps) next) (hk : o.kind = 2) (hda : o.data.length ≤ 2000000) :
    Calls Tryz.prog 116 #[.pointer (some ⟨p, 0, none⟩), .agg #[.int .i64 o.kind, .string (strOf o.path), .string (strOf o.dest), .string (strOf o.data), .int .i64 o.mode, .int .i64 o.time]] w fun e w' => WkRes R B p w (atV ⟨nds ps, next⟩ o) e w' := by
  have hlen : ps.length ≤ 60 := by have := hR.len; rw [nds_len] at this; exact this
  have C0 := Lib.hid (fun W (hw : Work R W B p v ps next) hf => wkFileNone o.path W B p v ps next hw hR.up hlen hf)
  have C1 := Lib.hid (fun W (hw : Work R W B p v ps next) hf b nd hat => wkFileFound o.path W B p v ps next hw hR.up hlen hf b nd hat)
  have HV0 := Lib.hid (show (findV o.path (nds ps)).isSome = false → atV ⟨nds ps, next⟩ o = (⟨nds ps, next⟩, 2) from fun hf => by unfold atV; rw [hf]; rfl)
  have HF := Lib.hid (fun hf => found_some (path := o.path) hR.up hf)
  have HD := Lib.hid (fun i n h1 h2 h3 => atV_dir (t := ⟨nds ps, next⟩) (o := o) (i := i) (n := n) (.inl hk) h1 h2 h3)
  have HC := Lib.hid (fun i n h1 h2 h3 h4 => atV_add (t := ⟨nds ps, next⟩) (o := o) (i := i) (n := n) hk h1 h2 h3 h4)
  have HX := Lib.hid (fun i n h1 h2 h3 h4 => atV_full (t := ⟨nds ps, next⟩) (o := o) (i := i) (n := n) hk h1 h2 h3 h4)
  have HS := Lib.hid (show ∀ n ∈ nds ps, n.data.length ≤ 3000 from fun n hn => by
    have := hR.node n hn
    unfold nodeB at this
    simp only [Bool.and_eq_true, decide_eq_true_eq] at this
    exact this.2.2.2.2.1)
  obtain ⟨kind, path, dest, data, mode, time⟩ := o
  simp only at C0 C1 HV0 HF HD HC HX hda hk ⊢
  obtain ⟨wa, hwa⟩ : ∃ wa, w.alloc (.cells #[.int .i64 kind, .string (strOf path), .string (strOf dest), .string (strOf data), .int .i64 mode, .int .i64 time] 28) = wa := ⟨_, rfl⟩
  have ba : Below w.heap.size w wa := by rw [← hwa]; exact (Below.refl _ _).alloc (Nat.le_refl _) _
  have O0 := (show Blk wa w.heap.size #[.int .i64 kind, .string (strOf path), .string (strOf dest), .string (strOf data), .int .i64 mode, .int .i64 time] 28 by rw [← hwa]; exact Blk.new _ _ _)
  have HW := Lib.hid (h.on ba)
  have hlo := h.plt
  have HBA := Lib.hid (ba.mono (by omega : B ≤ w.heap.size))
  have o1 := O0.cell 1
  have o3 := O0.cell 3
  have o5 := O0.cell 5
  simp at o1 o3 o5
  clear h hR ba O0 hk
  cases hf : (findV path (nds ps)).isSome with
  | false =>
    have HE := Lib.hid (HV0.out hf)
    have CP := C0.out wa HW.out hf
    clear hf C0 C1 HV0 HF HD HC HX
    go_enter Tryz.func116, Tryz.ntmps116
    go_wp2_with (go_at_call 152; refine CP.mono ?_; rintro e W1 ⟨rfl, rfl⟩)
    go_ret
    exact WkRes.mk HE.out HW.out rfl HBA.out
  | true =>
    obtain ⟨b, nd, hat, h1, h2⟩ := HF.out hf
    have CP := C1.out wa HW.out hf b nd hat
    have HD2 := Lib.hid (HD.out _ _ h1 h2)
    have HC2 := Lib.hid (HC.out _ _ h1 h2)
    have HX2 := Lib.hid (HX.out _ _ h1 h2)
    generalize placeV path (nds ps) = i at CP hat HD2 HC2 HX2
    obtain ⟨hi, hq⟩ := List.getElem?_eq_some_iff.1 hat
    have hn := (HW.out.node _ (List.getElem_mem hi)).2
    have hbl := (HW.out.node _ (List.getElem_mem hi)).1
    have HI := Lib.hid hi
    rw [hq] at hn hbl
    simp only at hn hbl
    have HAT := Lib.hid hat
    have hsz := HS.out nd (List.mem_map.2 ⟨_, List.getElem_mem hi, by rw [hq]⟩)
    have HN := Lib.hid hn
    clear C0 C1 HV0 HF HD HC HX h1 h2 hf hat hq hi
    cases hd : nd.dir with
    | true =>
      have HE := Lib.hid (HD2.out hd)
      rw [hd] at CP
      clear HC2 HX2 HD2 hd hn
      go_enter Tryz.func116, Tryz.ntmps116
      go_wp2_with (go_at_call 152; refine CP.mono ?_; rintro e W1 ⟨rfl, rfl⟩)
      go_ret
      exact WkRes.mk HE.out HW.out rfl HBA.out
    | false =>
      rw [hd] at CP
      have x2 := (hn.file hd).cell 2
      have x4 := (hn.file hd).cell 4
      have xf := fun j => hn.frozen j
      simp at x2 x4
      have HDD := Lib.hid hd
      have hs1 := strOf_size nd.data
      have hs2 := strOf_size data
      have hadd := fun W => run_add nd.data data (by omega) W
      by_cases hl : 3000 < nd.data.length + data.length
      · have HE := Lib.hid (HX2.out hd hl)
        have hlI : (3000 : Int) < (nd.data.length : Int) + (data.length : Int) := by omega
        clear HC2 HX2 HD2 hd hn hl
        go_enter Tryz.func116, Tryz.ntmps116
        go_wp2_with (go_at_call 152; refine CP.mono ?_; rintro e W1 ⟨rfl, rfl⟩)
        go_quiet (fail)
        go_wp2
        go_ret
        have hbd : Below wa.heap.size wa (wa.drewN nq) := ⟨rfl, rfl, rfl, Nat.le_refl _, fun _ _ => rfl⟩
        exact WkRes.mk HE.out (HW.out.on hbd) rfl (HBA.out.trans (hbd.mono (by have := HW.out.plt; omega)))
      · have HE := Lib.hid (HC2.out hd hl)
        have hlI : ¬ (3000 : Int) < (nd.data.length : Int) + (data.length : Int) := by omega
        have HK := Lib.hid (show ∀ n, WkAt (wa.drewN n) b nd from fun n => hn.on ⟨rfl, rfl, rfl, Nat.le_refl _, fun _ _ => rfl⟩)
        have HWD := Lib.hid (show ∀ n, Work R (wa.drewN n) B p v ps next from fun n => HW.out.on ⟨rfl, rfl, rfl, Nat.le_refl _, fun _ _ => rfl⟩)
        have HBD := Lib.hid (show ∀ n, Below B w (wa.drewN n) from fun n => HBA.out.trans (show Below B wa (wa.drewN n) from ⟨rfl, rfl, rfl, Nat.le_refl _, fun _ _ => rfl⟩))
        clear HC2 HX2 HD2 hd hn hl
        go_enter Tryz.func116, Tryz.ntmps116
        go_wp2_with (go_at_call 152; refine CP.mono ?_; rintro e W1 ⟨rfl, rfl⟩)
        go_quiet (fail)
        go_wp2
        go_region
        all_goals
          go_wp2
          go_ret
          exact WkRes.mk HE.out (((HWD.out nq).redata HAT.out (HK.out nq) HDD.out (nd.data ++ data) time).1.on (Below.refl _ _).drew) (by rw [nds_set]) ((((HBD.out nq).setCell (p := ⟨b, 4, none⟩) hbl _).setCell (p := ⟨b, 2, none⟩) hbl _).drew)
end Go.Proofs.YtipedabppgbfcaaGreatDoor
