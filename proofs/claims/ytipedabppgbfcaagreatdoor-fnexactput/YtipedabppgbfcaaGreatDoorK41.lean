/- impl's put of a disk that is worked on. impl.DiskOk, NewDisk, Live, Put, Cut. -/
import Derived.Test.YtipedabppgbfcaaGreatDoorK40
set_option linter.all false
namespace Go.Proofs.YtipedabppgbfcaaGreatDoor
open Go.RowKit

theorem SafeAt.live {W : World} {B q U : Nat} {x vq : Value} {p : Nat} {v : Value} {ps : List (Nat × Nd)} {d : Kv} (h : SafeAt W B q U x vq p v ps d) (y : Value) : SafeAt (W.setCell ⟨q, 1, none⟩ y) B q U y vq p v ps d := by
  refine ⟨h.lo, h.top.set 1 y, ?_, h.safe.keep h.under (Trees.set ⟨q, 1, none⟩ y (free_blk h.top (by decide) (by decide) (by decide) (by decide))), h.ns, h.under, h.right⟩
  exact own_apart h.row.own (grownBy_sets (World.grownBy.refl _ _) ⟨q, 1, none⟩ y rfl) (fun k hk e => own_not h.row.own h.top (by decide) (by rw [hk]; exact e))

set_option maxRecDepth 100000 in
set_option maxHeartbeats 4000000 in
theorem wPut6 (kind mode time : Int) (path dest data : List UInt8) (w : World) (B q U : Nat) (vq : Value) (p : Nat) (v : Value) (ps : List (Nat × Nd)) (p2 : Nat) (v2 : Value) (ls : List (Nat × Nd)) (d : Kv) (h : DiskAt w B q U vq p v ps p2 v2 ls d) (hD : Disk d) (z1 : path.length ≤ 2000000) (z2 : dest.length ≤ 2000000) (z3 : data.length ≤ 2000000) (hoz : ∀ o ∈ d.os, o.path.length ≤ 2000000 ∧ o.dest.length ≤ 2000000 ∧ o.data.length ≤ 2000000) :
    Calls Tryz.prog 78 #[.pointer (some ⟨q, 0, none⟩), .agg #[.int .i64 kind, .string (strOf path), .string (strOf dest), .string (strOf data), .int .i64 mode, .int .i64 time]] w fun e w' => e = .returned (.int .i64 (putR d ⟨kind, path, dest, data, mode, time⟩).2) ∧ (∃ U' x' vq' p' v' ps', SafeAt w' B q U' x' vq' p' v' ps' (putR d ⟨kind, path, dest, data, mode, time⟩).1) ∧ Below B w w' := by
  obtain ⟨wa, hwa⟩ : ∃ wa, w.alloc (.cells #[.int .i64 kind, .string (strOf path), .string (strOf dest), .string (strOf data), .int .i64 mode, .int .i64 time] 28) = wa := ⟨_, rfl⟩
  have ba : Below w.heap.size w wa := by rw [← hwa]; exact (Below.refl _ _).alloc (Nat.le_refl _) _
  have HO := Lib.hid (show Blk wa w.heap.size #[.int .i64 kind, .string (strOf path), .string (strOf dest), .string (strOf data), .int .i64 mode, .int .i64 time] 28 by rw [← hwa]; exact Blk.new _ _ _)
  have H := Lib.hid (h.on ba)
  have hqB := h.one.lo
  have hqw := h.one.top.lt
  have HBA := Lib.hid (ba.mono (by omega : B ≤ w.heap.size))
  have HLL := Lib.hid (show ls.length ≤ 60 by have := hD.live.len; rw [← h.ls, nds_len] at this; exact this)
  have t1 := H.out.one.top.cell 1
  simp at t1
  have CT := wkTree wa U p2 v2 ls _ H.out.live HLL.out
  clear h ba
  go_enter Tryz.func78, Tryz.ntmps78
  go_wp2_with fail
  refine CT.mono ?_
  rintro e W1 ⟨v5, rfl, hR5, hb5⟩
  have H1 := Lib.hid (H.out.on hb5)
  have HB1 := Lib.hid (HBA.out.trans (hb5.mono (by have := HBA.out.size; omega)))
  have HO1 := Lib.hid (HO.out.on hb5)
  have hB1 : B ≤ W1.heap.size := by have := HB1.out.size; omega
  have HTV := Lib.hid (show (⟨nds ls, (runV d.s d.os).next⟩ : Tv) = runV d.s d.os by rw [H.out.ls])
  have CW := wkOn W1 v5 (nds ls) (runV d.s d.os).next hR5.rd (fun n hn hd => node_bare (hD.live.node n (by rw [← H.out.ls]; exact hn)) hd) (by rw [nds_len]; exact HLL.out)
  clear hR5 hb5 CT t1
  go_wp2_with fail
  refine CW.mono ?_
  rintro e W2 ⟨p3, rfl, v3, qs, hW3, hn3, hb3⟩
  have HB12 := Lib.hid hb3
  have HW := Lib.hid hW3
  have HN := Lib.hid hn3
  have HO2 := Lib.hid (HO1.out.on hb3)
  have o0 := HO2.out.cell 0
  have o1 := HO2.out.cell 1
  have o2 := HO2.out.cell 2
  have o3 := HO2.out.cell 3
  have o4 := HO2.out.cell 4
  have o5 := HO2.out.cell 5
  simp at o0 o1 o2 o3 o4 o5
  clear hW3 hn3 hb3 CW
  have CD := wkDo6 kind mode time path dest data W2 W1.heap.size p3 v3 qs _ HW.out.now (by rw [HN.out, H1.out.ls]; exact hD.live) z1 z2 z3
  rw [show (⟨nds qs, (runV d.s d.os).next⟩ : Tv) = runV d.s d.os by rw [HN.out]; exact HTV.out] at CD
  have HPR := Lib.hid (show putR d ⟨kind, path, dest, data, mode, time⟩ = if (doV (runV d.s d.os) ⟨kind, path, dest, data, mode, time⟩).2 ≠ 0 then (d, (doV (runV d.s d.os) ⟨kind, path, dest, data, mode, time⟩).2) else if kind = 8 then (⟨runV d.s d.os, []⟩, 0) else if d.os.length = 300 then (d, 5) else (⟨d.s, d.os ++ [⟨kind, path, dest, data, mode, time⟩]⟩, 0) from rfl)
  generalize doV (runV d.s d.os) ⟨kind, path, dest, data, mode, time⟩ = r at CD HPR
  obtain ⟨⟨rns, rnx⟩, code⟩ := r
  simp only at HPR
  have hlen := hD.len
  go_wp2_with fail
  refine CD.mono ?_
  rintro e W4 ⟨rfl, v4, ps4, hW4, hn4, hb4⟩
  have HB14 := Lib.hid (show Below W1.heap.size W1 W4 from HB12.out.trans hb4)
  have HD4 := Lib.hid (H1.out.on HB14.out)
  have HO4 := Lib.hid (hW4.oth.blk HO2.out (by decide) (by decide) (by decide) (by decide))
  have HL4 := Lib.hid hW4.now
  have HB4 := Lib.hid (HB1.out.trans (HB14.out.mono hB1))
  clear o0 o1 o2 o3 o4 o5 hW4 hn4 hb4 CD
  have o0 := HO4.out.cell 0
  have o1 := HO4.out.cell 1
  have o2 := HO4.out.cell 2
  have o3 := HO4.out.cell 3
  have o4 := HO4.out.cell 4
  have o5 := HO4.out.cell 5
  simp at o0 o1 o2 o3 o4 o5
  by_cases h0 : code = 0
  rotate_left
  · have hcb : (code != 0) = true := by simp [h0]
    have HE := Lib.hid (show putR d ⟨kind, path, dest, data, mode, time⟩ = (d, code) by rw [HPR.out, if_pos h0])
    clear HPR
    go_wp2_with fail
    go_ret
    rw [HE.out]
    exact ⟨rfl, ⟨U, _, vq, p, v, ps, HD4.out.one⟩, HB4.out⟩
  subst h0
  by_cases h8 : kind = 8
  · have HE := Lib.hid (show putR d ⟨kind, path, dest, data, mode, time⟩ = (⟨runV d.s d.os, []⟩, 0) by rw [HPR.out, if_neg (by simp), if_pos h8])
    have hkb : (kind == 8) = true := by simp [h8]
    clear HPR
    obtain ⟨a9, k9, hvq⟩ := HD4.out.one.row.shape
    have c2 := HD4.out.one.top.cell 2
    rw [hvq] at c2
    have CS := qSize W4 q a9 d.os.length k9 (by simpa using c2)
    have CK := wKeep W4 B q U _ vq p v ps d (d.os.length : Int) HD4.out.one (by omega) hoz
    rw [Int.toNat_natCast, List.take_length] at CK
    clear c2
    go_wp2_with (first
      | (go_at_call 125; refine CS.mono ?_; rintro e W5 ⟨rfl, rfl⟩)
      | (go_at_call 82; refine CK.mono ?_; rintro e W6 ⟨rfl, hS6, hb6⟩))
    go_ret
    rw [HE.out]
    obtain ⟨U6, vq6, v6, ps6, h6⟩ := hS6
    exact ⟨rfl, ⟨U6, _, vq6, p, v6, ps6, h6⟩, HB4.out.trans hb6⟩
  have hkb : (kind == 8) = false := by simp [h8]
  obtain ⟨a9, k9, hvq⟩ := HD4.out.one.row.shape
  have c2 := HD4.out.one.top.cell 2
  rw [hvq] at c2
  have CS := qSize W4 q a9 d.os.length k9 (by simpa using c2)
  clear c2
  by_cases hfull : d.os.length = 300
  · have HE := Lib.hid (show putR d ⟨kind, path, dest, data, mode, time⟩ = (d, 5) by rw [HPR.out, if_neg (by simp), if_neg h8, if_pos hfull])
    have hfb : ((d.os.length : Int) == 300) = true := by rw [hfull]; rfl
    clear HPR
    go_wp2_with (go_at_call 125; refine CS.mono ?_; rintro e W5 ⟨rfl, rfl⟩)
    go_ret
    rw [HE.out]
    exact ⟨rfl, ⟨U, _, vq, p, v, ps, HD4.out.one⟩, HB4.out⟩
  · have HE := Lib.hid (show putR d ⟨kind, path, dest, data, mode, time⟩ = (⟨d.s, d.os ++ [⟨kind, path, dest, data, mode, time⟩]⟩, 0) by rw [HPR.out, if_neg (by simp), if_neg h8, if_neg hfull])
    have hfb : ((d.os.length : Int) == 300) = false := by simp; omega
    clear HPR
    have q1 := HD4.out.one.top.cell 1
    have f1 := HD4.out.one.top.frozen 1
    simp at q1
    go_wp2_with (go_at_call 125; refine CS.mono ?_; rintro e W5 ⟨rfl, rfl⟩)
    have HS6 := Lib.hid ((HD4.out.one.live (.pointer (some ⟨p3, 0, none⟩))).on (Below.refl _ _).drew)
    have hqn : w.heap.size ≠ q := by omega
    have HO6 := HO4.out.other ⟨q, 1, none⟩ (.pointer (some ⟨p3, 0, none⟩)) hqn
    have y0 := HO6.cell 0
    have y1 := HO6.cell 1
    have y2 := HO6.cell 2
    have y3 := HO6.cell 3
    have y4 := HO6.cell 4
    have y5 := HO6.cell 5
    simp at y0 y1 y2 y3 y4 y5
    have HB6 := Lib.hid (show Below B w (W5.setCell ⟨q, 1, none⟩ (.pointer (some ⟨p3, 0, none⟩))).drew from (HB4.out.setCell (p := ⟨q, 1, none⟩) hqB _).drew)
    have CA := qAdd _ B q _ _ vq d.os ⟨kind, path, dest, data, mode, time⟩ HS6.out.lo HS6.out.top HS6.out.row (by omega)
    clear o0 o1 o2 o3 o4 o5 HO6
    go_region_with (go_at_call 124; refine CA.mono ?_; rintro e W6 ⟨rfl, vq6, hT6, hR6, hg6⟩)
    all_goals
      go_wp2
      go_ret
      rw [HE.out]
      exact ⟨rfl, ⟨U, _, vq6, p, v, ps, HS6.out.queue hT6 hR6 hg6⟩, HB6.out.trans (HS6.out.below hg6)⟩
theorem wPut (o : Ov) (w : World) (B q U : Nat) (vq : Value) (p : Nat) (v : Value) (ps : List (Nat × Nd)) (p2 : Nat) (v2 : Value) (ls : List (Nat × Nd)) (d : Kv) (h : DiskAt w B q U vq p v ps p2 v2 ls d) (hD : Disk d) (z1 : o.path.length ≤ 2000000) (z2 : o.dest.length ≤ 2000000) (z3 : o.data.length ≤ 2000000) (hoz : ∀ o ∈ d.os, o.path.length ≤ 2000000 ∧ o.dest.length ≤ 2000000 ∧ o.data.length ≤ 2000000) :
    Calls Tryz.prog 78 #[.pointer (some ⟨q, 0, none⟩), .agg #[.int .i64 o.kind, .string (strOf o.path), .string (strOf o.dest), .string (strOf o.data), .int .i64 o.mode, .int .i64 o.time]] w fun e w' => e = .returned (.int .i64 (putR d o).2) ∧ (∃ U' x' vq' p' v' ps', SafeAt w' B q U' x' vq' p' v' ps' (putR d o).1) ∧ Below B w w' := wPut6 o.kind o.mode o.time o.path o.dest o.data w B q U vq p v ps p2 v2 ls d h hD z1 z2 z3 hoz
end Go.Proofs.YtipedabppgbfcaaGreatDoor
namespace Go.Proofs.YtipedabppgbfcaaGreatDoor
open Go.RowKit

theorem DRow.nil (w : World) (B : Nat) : DRow w B (.slice none 0 0) (.slice none 0 0) [] [] := ⟨NRow.nil _ _, OpR.NRow.nil _ _⟩
theorem DRow.base {W : World} {B B' : Nat} {v u : Value} {ns : List Nd} {os : List Ov} (h : DRow W B v u ns os) (hB : B' ≤ B) : DRow W B' v u ns os := ⟨h.ns.base hB, h.os.base hB⟩
theorem DRow.other {W : World} {B : Nat} {v u : Value} {ns : List Nd} {os : List Ov} (h : DRow W B v u ns os) (a : Addr) (x : Value) (ha : a.block < B) : DRow (W.setCell a x) B v u ns os := ⟨h.ns.other a x ha, h.os.other a x ha⟩
theorem DRow.shape {W : World} {B : Nat} {v u : Value} {ns : List Nd} {os : List Ov} (h : DRow W B v u ns os) : ∃ a c a' c', v = .slice a ns.length c ∧ u = .slice a' os.length c' := by
  obtain ⟨a, c, h1⟩ := h.ns.shape
  obtain ⟨a', c', h2⟩ := h.os.shape
  exact ⟨a, c, a', c', h1, h2⟩

set_option maxRecDepth 100000 in
set_option maxHeartbeats 4000000 in
theorem implDiskOk (w : World) (v v2 : Value) (ns : List Nd) (next : Int) (os : List Ov) (h : NRd w v ns) (ho : OpR.NRd w v2 os) (hol : os.length ≤ 2000000) (hz : ∀ n ∈ ns, n.path.length ≤ 2000000 ∧ n.data.length ≤ 2000000) (hoz : ∀ o ∈ os, o.path.length ≤ 2000000 ∧ o.dest.length ≤ 2000000 ∧ o.data.length ≤ 2000000) :
    Calls Tryz.prog 31 #[.agg #[v, .int .i64 next, v2]] w fun e w' => e = .returned (.bool (diskB ⟨⟨ns, next⟩, os⟩)) ∧ Below w.heap.size w w' := by
  obtain ⟨a1, k1, rfl⟩ : ∃ a c, v = .slice a ns.length c := by obtain ⟨a, c, h, _⟩ := h; exact ⟨a, c, h⟩
  obtain ⟨a2, k2, rfl⟩ : ∃ a c, v2 = .slice a os.length c := by obtain ⟨a, c, h, _⟩ := ho; exact ⟨a, c, h⟩
  obtain ⟨wa, hwa⟩ : ∃ W, w.alloc (.cells #[.slice a1 ns.length k1, .int .i64 next, .slice a2 os.length k2] 44) = W := ⟨_, rfl⟩
  have hsa : wa.heap.size = w.heap.size + 1 := by rw [← hwa]; simp
  have ba : Below w.heap.size w wa := by rw [← hwa]; exact (Below.refl _ _).alloc (Nat.le_refl _) _
  have HX := Lib.hid (show Blk wa w.heap.size #[.slice a1 ns.length k1, .int .i64 next, .slice a2 os.length k2] 44 by rw [← hwa]; exact Blk.new _ _ _)
  have CO := implOpen wa _ _ ns next os (h.on ba) (ho.on ba) hol hz hoz
  have HB := Lib.hid ba
  have t0 := HX.out.cell 0
  have t1 := HX.out.cell 1
  have t2 := HX.out.cell 2
  simp at t0 t1 t2
  clear h ho ba
  generalize diskB ⟨⟨ns, next⟩, os⟩ = B at CO ⊢
  go_enter Tryz.func31, Tryz.ntmps31
  go_wp2_with fail
  refine CO.mono ?_
  rintro e W1 (⟨rfl, rfl, hb1⟩ | ⟨rfl, q, rfl, _, hb1⟩)
  all_goals
    have HB1 := Lib.hid (HB.out.trans (hb1.mono HB.out.size))
    clear hb1
    go_wp2
    go_ret
    exact ⟨rfl, HB1.out⟩

theorem Work.below {R W : World} {B p : Nat} {v : Value} {ps : List (Nat × Nd)} {next : Int} (h : Work R W B p v ps next) : B < W.heap.size := by have := h.plt; omega
set_option maxRecDepth 100000 in
set_option maxHeartbeats 4000000 in
theorem implLive (w : World) (v v2 : Value) (ns : List Nd) (next : Int) (os : List Ov) (h : NRd w v ns) (ho : OpR.NRd w v2 os) (hol : os.length ≤ 2000000) (hz : ∀ n ∈ ns, n.path.length ≤ 2000000 ∧ n.data.length ≤ 2000000) (hoz : ∀ o ∈ os, o.path.length ≤ 2000000 ∧ o.dest.length ≤ 2000000 ∧ o.data.length ≤ 2000000) :
    Calls Tryz.prog 32 #[.agg #[v, .int .i64 next, v2]] w fun e w' => ∃ v', e = .returned (.agg #[v', .int .i64 (liveV ⟨⟨ns, next⟩, os⟩).next]) ∧ NRow w' w.heap.size v' (liveV ⟨⟨ns, next⟩, os⟩).ns ∧ Below w.heap.size w w' := by
  obtain ⟨a1, k1, rfl⟩ : ∃ a c, v = .slice a ns.length c := by obtain ⟨a, c, h, _⟩ := h; exact ⟨a, c, h⟩
  obtain ⟨a2, k2, rfl⟩ : ∃ a c, v2 = .slice a os.length c := by obtain ⟨a, c, h, _⟩ := ho; exact ⟨a, c, h⟩
  obtain ⟨wa, hwa⟩ : ∃ W, w.alloc (.cells #[.slice a1 ns.length k1, .int .i64 next, .slice a2 os.length k2] 44) = W := ⟨_, rfl⟩
  have hsa : wa.heap.size = w.heap.size + 1 := by rw [← hwa]; simp
  have ba : Below w.heap.size w wa := by rw [← hwa]; exact (Below.refl _ _).alloc (Nat.le_refl _) _
  have HX := Lib.hid (show Blk wa w.heap.size #[.slice a1 ns.length k1, .int .i64 next, .slice a2 os.length k2] 44 by rw [← hwa]; exact Blk.new _ _ _)
  obtain ⟨wb, hwb⟩ : ∃ W, wa.alloc (.cells #[.slice none 0 0, .int .i64 0] 26) = W := ⟨_, rfl⟩
  have hsb : wb.heap.size = w.heap.size + 2 := by rw [← hwb]; simp [hsa]
  have bb : Below wa.heap.size wa wb := by rw [← hwb]; exact (Below.refl _ _).alloc (Nat.le_refl _) _
  have HRB := Lib.hid (show Blk wb (w.heap.size + 1) #[.slice none 0 0, .int .i64 0] 26 by rw [← hwb, ← hsa]; exact Blk.new _ _ _)
  have hab := ba.trans (bb.mono ba.size)
  have CO := implOpen wb _ _ ns next os (h.on hab) (ho.on hab) hol hz hoz
  have HB := Lib.hid hab
  have t0 := (HX.out.on bb).cell 0
  have t1 := (HX.out.on bb).cell 1
  have t2 := (HX.out.on bb).cell 2
  simp at t0 t1 t2
  clear h ho ba bb hab
  go_enter Tryz.func32, Tryz.ntmps32
  go_wp2_with fail
  refine CO.mono ?_
  rintro e W1 (⟨hd, rfl, hb1⟩ | ⟨hd, q, rfl, hQ, hb1⟩)
  · have HE := Lib.hid (show liveV ⟨⟨ns, next⟩, os⟩ = ⟨[], 0⟩ by unfold liveV; rw [hd]; rfl)
    have HB1 := Lib.hid (HB.out.trans (hb1.mono HB.out.size))
    have r0 := (HRB.out.on hb1).cell 0
    have r1 := (HRB.out.on hb1).cell 1
    have f0 := (HRB.out.on hb1).frozen 0
    have f1 := (HRB.out.on hb1).frozen 1
    simp at r0 r1
    clear hb1 hd CO
    go_wp2_with fail
    refine bodyPost_ret (v := .agg #[.slice none 0 0, .int .i64 0]) ?_ rfl ⟨_, by rw [HE.out], by rw [HE.out]; exact NRow.nil _ _, ?_⟩
    · simp [results, Tryz.results32, go_sem, r0, r1]
    · iterate 2 (refine Below.setCell ?_ (by simp) _)
      exact HB1.out
  · obtain ⟨U, vq, p1, v1, ss, p2, v2, ls, hD⟩ := hQ
    have HDK := Lib.hid (Disk.of hd)
    have HE := Lib.hid (show liveV ⟨⟨ns, next⟩, os⟩ = runV ⟨ns, next⟩ os by unfold liveV; rw [if_pos hd])
    have HD := Lib.hid hD
    have HB1 := Lib.hid (HB.out.trans (hb1.mono HB.out.size))
    have HRB1 := Lib.hid (HRB.out.on hb1)
    have q1 := hD.one.top.cell 1
    simp at q1
    have CT := wkTree W1 U p2 v2 ls _ hD.live (by have := HDK.out.live.len; rw [← hD.ls, nds_len] at this; exact this)
    clear hb1 hd CO hD
    go_wp2_with fail
    refine CT.mono ?_
    rintro e W2 ⟨v5, rfl, hR5, hb2⟩
    obtain ⟨a5, k5, rfl⟩ := hR5.shape
    have HR5 := Lib.hid hR5
    have HB2 := Lib.hid (HB1.out.trans (hb2.mono HB1.out.size))
    have r0 := (HRB1.out.on hb2).cell 0
    have r1 := (HRB1.out.on hb2).cell 1
    have f0 := (HRB1.out.on hb2).frozen 0
    have f1 := (HRB1.out.on hb2).frozen 1
    simp at r0 r1
    have hl1 := HRB1.out.lt
    have hs1 := HB1.out.size
    clear hb2 hR5 CT
    go_wp2_with fail
    refine bodyPost_ret (v := .agg #[.slice a5 ls.length k5, .int .i64 (runV ⟨ns, next⟩ os).next]) ?_ rfl ⟨.slice a5 ls.length k5, by rw [HE.out], ?_, ?_⟩
    · simp [results, Tryz.results32, go_sem, r0, r1]
    · rw [HE.out, ← HD.out.ls]
      have h5 := HR5.out
      rw [nds_len] at h5
      refine NRow.base (B := W1.heap.size) ?_ (by omega)
      iterate 2 (refine NRow.other ?_ _ _ (by show w.heap.size + 1 < W1.heap.size; omega))
      exact h5
    · iterate 2 (refine Below.setCell ?_ (by simp) _)
      exact HB2.out

set_option maxRecDepth 100000 in
set_option maxHeartbeats 4000000 in
theorem implCut (w : World) (v v2 : Value) (ns : List Nd) (next : Int) (os : List Ov) (h : NRd w v ns) (ho : OpR.NRd w v2 os) (hol : os.length ≤ 2000000) (hz : ∀ n ∈ ns, n.path.length ≤ 2000000 ∧ n.data.length ≤ 2000000) (hoz : ∀ o ∈ os, o.path.length ≤ 2000000 ∧ o.dest.length ≤ 2000000 ∧ o.data.length ≤ 2000000) (k : Int) :
    Calls Tryz.prog 35 #[.agg #[v, .int .i64 next, v2], .int .i64 k] w fun e w' => ∃ v' u, e = .returned (.agg #[v', .int .i64 (cutV ⟨⟨ns, next⟩, os⟩ k).s.next, u]) ∧ DRow w' w.heap.size v' u (cutV ⟨⟨ns, next⟩, os⟩ k).s.ns (cutV ⟨⟨ns, next⟩, os⟩ k).os ∧ Below w.heap.size w w' := by
  obtain ⟨a1, k1, rfl⟩ : ∃ a c, v = .slice a ns.length c := by obtain ⟨a, c, h, _⟩ := h; exact ⟨a, c, h⟩
  obtain ⟨a2, k2, rfl⟩ : ∃ a c, v2 = .slice a os.length c := by obtain ⟨a, c, h, _⟩ := ho; exact ⟨a, c, h⟩
  obtain ⟨wa, hwa⟩ : ∃ W, w.alloc (.cells #[.slice a1 ns.length k1, .int .i64 next, .slice a2 os.length k2] 44) = W := ⟨_, rfl⟩
  have hsa : wa.heap.size = w.heap.size + 1 := by rw [← hwa]; simp
  have ba : Below w.heap.size w wa := by rw [← hwa]; exact (Below.refl _ _).alloc (Nat.le_refl _) _
  have HX := Lib.hid (show Blk wa w.heap.size #[.slice a1 ns.length k1, .int .i64 next, .slice a2 os.length k2] 44 by rw [← hwa]; exact Blk.new _ _ _)
  obtain ⟨wb, hwb⟩ : ∃ W, wa.alloc (.cells #[.slice none 0 0, .int .i64 0, .slice none 0 0] 44) = W := ⟨_, rfl⟩
  have hsb : wb.heap.size = w.heap.size + 2 := by rw [← hwb]; simp [hsa]
  have bb : Below wa.heap.size wa wb := by rw [← hwb]; exact (Below.refl _ _).alloc (Nat.le_refl _) _
  have HRB := Lib.hid (show Blk wb (w.heap.size + 1) #[.slice none 0 0, .int .i64 0, .slice none 0 0] 44 by rw [← hwb, ← hsa]; exact Blk.new _ _ _)
  have hab := ba.trans (bb.mono ba.size)
  have CO := implOpen wb _ _ ns next os (h.on hab) (ho.on hab) hol hz hoz
  have HB := Lib.hid hab
  have t0 := (HX.out.on bb).cell 0
  have t1 := (HX.out.on bb).cell 1
  have t2 := (HX.out.on bb).cell 2
  simp at t0 t1 t2
  clear h ho ba bb hab
  go_enter Tryz.func35, Tryz.ntmps35
  go_wp2_with fail
  refine CO.mono ?_
  rintro e W1 (⟨hd, rfl, hb1⟩ | ⟨hd, q, rfl, hQ, hb1⟩)
  · have HE := Lib.hid (show cutV ⟨⟨ns, next⟩, os⟩ k = noDisk by unfold cutV; rw [hd]; rfl)
    have HB1 := Lib.hid (HB.out.trans (hb1.mono HB.out.size))
    have r0 := (HRB.out.on hb1).cell 0
    have r1 := (HRB.out.on hb1).cell 1
    have r2 := (HRB.out.on hb1).cell 2
    have f0 := (HRB.out.on hb1).frozen 0
    have f1 := (HRB.out.on hb1).frozen 1
    have f2 := (HRB.out.on hb1).frozen 2
    simp at r0 r1 r2
    clear hb1 hd CO
    go_wp2_with fail
    refine bodyPost_ret (v := .agg #[.slice none 0 0, .int .i64 0, .slice none 0 0]) ?_ rfl ⟨_, _, by rw [HE.out]; rfl, by rw [HE.out]; exact DRow.nil _ _, ?_⟩
    · simp [results, Tryz.results35, go_sem, r0, r1, r2]
    · iterate 3 (refine Below.setCell ?_ (by simp) _)
      exact HB1.out
  · obtain ⟨U, vq, p1, v1, ss, p2, v2, ls, hD⟩ := hQ
    have HE := Lib.hid (show cutV ⟨⟨ns, next⟩, os⟩ k = ⟨runV ⟨ns, next⟩ (os.take k.toNat), []⟩ by unfold cutV; rw [if_pos hd])
    have HB1 := Lib.hid (HB.out.trans (hb1.mono HB.out.size))
    have HRB1 := Lib.hid (HRB.out.on hb1)
    have CK := wKeep W1 wb.heap.size q U _ vq p1 v1 ss ⟨⟨ns, next⟩, os⟩ k hD.one hol hoz
    have hlw := hD.one.lo
    have hs1 := hb1.size
    clear hb1 hd CO hD
    go_wp2_with fail
    refine CK.mono ?_
    rintro e W2 ⟨rfl, ⟨U2, vq2, v2, ps2, hS2⟩, hb2⟩
    have HB2 := Lib.hid (HB1.out.trans (hb2.mono HB.out.size))
    have HRB2 := Lib.hid (HRB1.out.below hb2 (by omega))
    have CD := wDisk W2 wb.heap.size q U2 _ vq2 p1 v2 ps2 _ hS2 (by simp)
    have hs2 := hb2.size
    clear hb2 hS2 CK
    go_wp2_with fail
    refine CD.mono ?_
    rintro e W3 ⟨v5, u5, rfl, hR5, hb3⟩
    obtain ⟨a5, k5, a6, k6, rfl, rfl⟩ := hR5.shape
    have HR5 := Lib.hid hR5
    have HB3 := Lib.hid (HB2.out.trans (hb3.mono HB2.out.size))
    have r0 := (HRB2.out.on hb3).cell 0
    have r1 := (HRB2.out.on hb3).cell 1
    have r2 := (HRB2.out.on hb3).cell 2
    have f0 := (HRB2.out.on hb3).frozen 0
    have f1 := (HRB2.out.on hb3).frozen 1
    have f2 := (HRB2.out.on hb3).frozen 2
    simp at r0 r1 r2
    clear hb3 hR5 CD
    go_wp2_with fail
    refine bodyPost_ret (v := .agg #[.slice a5 (runV ⟨ns, next⟩ (os.take k.toNat)).ns.length k5, .int .i64 (runV ⟨ns, next⟩ (os.take k.toNat)).next, .slice a6 0 k6]) ?_ rfl ⟨.slice a5 (runV ⟨ns, next⟩ (os.take k.toNat)).ns.length k5, .slice a6 0 k6, by rw [HE.out], ?_, ?_⟩
    · simp [results, Tryz.results35, go_sem, r0, r1, r2]
    · rw [HE.out]
      refine DRow.base (B := W2.heap.size) ?_ (by omega)
      iterate 3 (refine DRow.other ?_ _ _ (by show w.heap.size + 1 < W2.heap.size; omega))
      exact HR5.out
    · iterate 3 (refine Below.setCell ?_ (by simp) _)
      exact HB3.out

theorem disk_nil (ns : List Nd) (next : Int) : diskB ⟨⟨ns, next⟩, []⟩ = treeB ns next := by
  unfold diskB
  cases h : treeB ns next <;> simp [all_tree, doGo, h]
theorem ops_none (w : World) : OpR.NRd w (.slice none 0 0) [] := ⟨none, 0, rfl, Nat.le_refl _, Nat.zero_le _, .inl rfl⟩
set_option maxRecDepth 100000 in
set_option maxHeartbeats 4000000 in
theorem implNewDisk (w : World) (v : Value) (ns : List Nd) (next : Int) (h : NRd w v ns) (hz : ∀ n ∈ ns, n.path.length ≤ 2000000 ∧ n.data.length ≤ 2000000) :
    Calls Tryz.prog 52 #[.agg #[v, .int .i64 next]] w fun e w' => ∃ v' u, e = .returned (.agg #[v', .int .i64 (newDisk ⟨ns, next⟩).s.next, u]) ∧ DRow w' w.heap.size v' u (newDisk ⟨ns, next⟩).s.ns (newDisk ⟨ns, next⟩).os ∧ Below w.heap.size w w' := by
  obtain ⟨a1, k1, rfl⟩ : ∃ a c, v = .slice a ns.length c := by obtain ⟨a, c, h, _⟩ := h; exact ⟨a, c, h⟩
  obtain ⟨wa, hwa⟩ : ∃ W, w.alloc (.cells #[.slice a1 ns.length k1, .int .i64 next] 26) = W := ⟨_, rfl⟩
  have hsa : wa.heap.size = w.heap.size + 1 := by rw [← hwa]; simp
  have ba : Below w.heap.size w wa := by rw [← hwa]; exact (Below.refl _ _).alloc (Nat.le_refl _) _
  have HX := Lib.hid (show Blk wa w.heap.size #[.slice a1 ns.length k1, .int .i64 next] 26 by rw [← hwa]; exact Blk.new _ _ _)
  obtain ⟨wb, hwb⟩ : ∃ W, wa.alloc (.cells #[.slice none 0 0, .int .i64 0, .slice none 0 0] 44) = W := ⟨_, rfl⟩
  have hsb : wb.heap.size = w.heap.size + 2 := by rw [← hwb]; simp [hsa]
  have bb : Below wa.heap.size wa wb := by rw [← hwb]; exact (Below.refl _ _).alloc (Nat.le_refl _) _
  have HRB := Lib.hid (show Blk wb (w.heap.size + 1) #[.slice none 0 0, .int .i64 0, .slice none 0 0] 44 by rw [← hwb, ← hsa]; exact Blk.new _ _ _)
  have hab := ba.trans (bb.mono ba.size)
  have CO := implOpen wb _ _ ns next [] (h.on hab) (ops_none wb) (by simp) hz (by simp)
  rw [disk_nil] at CO
  have HB := Lib.hid hab
  have t0 := (HX.out.on bb).cell 0
  have t1 := (HX.out.on bb).cell 1
  simp at t0 t1
  clear h ba bb hab
  go_enter Tryz.func52, Tryz.ntmps52
  go_wp2_with fail
  refine CO.mono ?_
  rintro e W1 (⟨hd, rfl, hb1⟩ | ⟨hd, q, rfl, hQ, hb1⟩)
  · have HE := Lib.hid (show newDisk ⟨ns, next⟩ = noDisk by unfold newDisk; rw [if_neg (by rw [hd]; decide)])
    have HB1 := Lib.hid (HB.out.trans (hb1.mono HB.out.size))
    have r0 := (HRB.out.on hb1).cell 0
    have r1 := (HRB.out.on hb1).cell 1
    have r2 := (HRB.out.on hb1).cell 2
    have f0 := (HRB.out.on hb1).frozen 0
    have f1 := (HRB.out.on hb1).frozen 1
    have f2 := (HRB.out.on hb1).frozen 2
    simp at r0 r1 r2
    clear hb1 hd CO
    go_wp2_with fail
    refine bodyPost_ret (v := .agg #[.slice none 0 0, .int .i64 0, .slice none 0 0]) ?_ rfl ⟨_, _, by rw [HE.out]; rfl, by rw [HE.out]; exact DRow.nil _ _, ?_⟩
    · simp [results, Tryz.results52, go_sem, r0, r1, r2]
    · iterate 3 (refine Below.setCell ?_ (by simp) _)
      exact HB1.out
  · obtain ⟨U, vq, p1, v1, ss, p2, v2, ls, hD⟩ := hQ
    have HE := Lib.hid (show newDisk ⟨ns, next⟩ = ⟨⟨ns, next⟩, []⟩ by unfold newDisk; rw [if_pos hd])
    have HB1 := Lib.hid (HB.out.trans (hb1.mono HB.out.size))
    have HRB1 := Lib.hid (HRB.out.on hb1)
    have CD := wDisk W1 wb.heap.size q U _ vq p1 v1 ss _ hD.one (by simp)
    have hs1 := hb1.size
    clear hb1 hd CO hD
    go_wp2_with fail
    refine CD.mono ?_
    rintro e W3 ⟨v5, u5, rfl, hR5, hb3⟩
    obtain ⟨a5, k5, a6, k6, rfl, rfl⟩ := hR5.shape
    have HR5 := Lib.hid hR5
    have HB3 := Lib.hid (HB1.out.trans (hb3.mono HB1.out.size))
    have r0 := (HRB1.out.on hb3).cell 0
    have r1 := (HRB1.out.on hb3).cell 1
    have r2 := (HRB1.out.on hb3).cell 2
    have f0 := (HRB1.out.on hb3).frozen 0
    have f1 := (HRB1.out.on hb3).frozen 1
    have f2 := (HRB1.out.on hb3).frozen 2
    simp at r0 r1 r2
    clear hb3 hR5 CD
    go_wp2_with fail
    refine bodyPost_ret (v := .agg #[.slice a5 ns.length k5, .int .i64 next, .slice a6 0 k6]) ?_ rfl ⟨.slice a5 ns.length k5, .slice a6 0 k6, by rw [HE.out], ?_, ?_⟩
    · simp [results, Tryz.results52, go_sem, r0, r1, r2]
    · rw [HE.out]
      refine DRow.base (B := W1.heap.size) ?_ (by omega)
      iterate 3 (refine DRow.other ?_ _ _ (by show w.heap.size + 1 < W1.heap.size; omega))
      exact HR5.out
    · iterate 3 (refine Below.setCell ?_ (by simp) _)
      exact HB3.out

set_option maxRecDepth 100000 in
set_option maxHeartbeats 4000000 in
theorem implPut6 (w : World) (v v2 : Value) (ns : List Nd) (next : Int) (os : List Ov) (h : NRd w v ns) (ho : OpR.NRd w v2 os) (hol : os.length ≤ 2000000) (hz : ∀ n ∈ ns, n.path.length ≤ 2000000 ∧ n.data.length ≤ 2000000) (hoz : ∀ o ∈ os, o.path.length ≤ 2000000 ∧ o.dest.length ≤ 2000000 ∧ o.data.length ≤ 2000000) (kind mode time : Int) (path dest data : List UInt8) (z1 : path.length ≤ 2000000) (z2 : dest.length ≤ 2000000) (z3 : data.length ≤ 2000000) :
    Calls Tryz.prog 28 #[.agg #[v, .int .i64 next, v2], .agg #[.int .i64 kind, .string (strOf path), .string (strOf dest), .string (strOf data), .int .i64 mode, .int .i64 time]] w fun e w' => ∃ v' u, e = .returned (.tuple #[.agg #[v', .int .i64 (putV ⟨⟨ns, next⟩, os⟩ ⟨kind, path, dest, data, mode, time⟩).1.s.next, u], .int .i64 (putV ⟨⟨ns, next⟩, os⟩ ⟨kind, path, dest, data, mode, time⟩).2]) ∧ DRow w' w.heap.size v' u (putV ⟨⟨ns, next⟩, os⟩ ⟨kind, path, dest, data, mode, time⟩).1.s.ns (putV ⟨⟨ns, next⟩, os⟩ ⟨kind, path, dest, data, mode, time⟩).1.os ∧ Below w.heap.size w w' := by
  obtain ⟨a1, k1, rfl⟩ : ∃ a c, v = .slice a ns.length c := by obtain ⟨a, c, h, _⟩ := h; exact ⟨a, c, h⟩
  obtain ⟨a2, k2, rfl⟩ : ∃ a c, v2 = .slice a os.length c := by obtain ⟨a, c, h, _⟩ := ho; exact ⟨a, c, h⟩
  obtain ⟨wa, hwa⟩ : ∃ W, w.alloc (.cells #[.slice a1 ns.length k1, .int .i64 next, .slice a2 os.length k2] 44) = W := ⟨_, rfl⟩
  have hsa : wa.heap.size = w.heap.size + 1 := by rw [← hwa]; simp
  have ba : Below w.heap.size w wa := by rw [← hwa]; exact (Below.refl _ _).alloc (Nat.le_refl _) _
  have HX := Lib.hid (show Blk wa w.heap.size #[.slice a1 ns.length k1, .int .i64 next, .slice a2 os.length k2] 44 by rw [← hwa]; exact Blk.new _ _ _)
  obtain ⟨wo, hwo⟩ : ∃ W, wa.alloc (.cells #[.int .i64 kind, .string (strOf path), .string (strOf dest), .string (strOf data), .int .i64 mode, .int .i64 time] 28) = W := ⟨_, rfl⟩
  have hso : wo.heap.size = w.heap.size + 2 := by rw [← hwo]; simp [hsa]
  have bo : Below wa.heap.size wa wo := by rw [← hwo]; exact (Below.refl _ _).alloc (Nat.le_refl _) _
  obtain ⟨wb, hwb⟩ : ∃ W, wo.alloc (.cells #[.slice none 0 0, .int .i64 0, .slice none 0 0] 44) = W := ⟨_, rfl⟩
  have hsb : wb.heap.size = w.heap.size + 3 := by rw [← hwb]; simp [hso]
  have bb : Below wo.heap.size wo wb := by rw [← hwb]; exact (Below.refl _ _).alloc (Nat.le_refl _) _
  have HRB := Lib.hid (show Blk wb (w.heap.size + 2) #[.slice none 0 0, .int .i64 0, .slice none 0 0] 44 by rw [← hwb, ← hso]; exact Blk.new _ _ _)
  have HOB := Lib.hid ((show Blk wo (w.heap.size + 1) #[.int .i64 kind, .string (strOf path), .string (strOf dest), .string (strOf data), .int .i64 mode, .int .i64 time] 28 by rw [← hwo, ← hsa]; exact Blk.new _ _ _).on bb)
  have hab := (ba.trans (bo.mono ba.size)).trans (bb.mono (by omega))
  have CO := implOpen wb _ _ ns next os (h.on hab) (ho.on hab) hol hz hoz
  have HB := Lib.hid hab
  have t0 := ((HX.out.on bo).on bb).cell 0
  have t1 := ((HX.out.on bo).on bb).cell 1
  have t2 := ((HX.out.on bo).on bb).cell 2
  simp at t0 t1 t2
  clear h ho ba bb bo hab
  go_enter Tryz.func28, Tryz.ntmps28
  go_wp2_with fail
  refine CO.mono ?_
  rintro e W1 (⟨hd, rfl, hb1⟩ | ⟨hd, q, rfl, hQ, hb1⟩)
  · have HE := Lib.hid (show putV ⟨⟨ns, next⟩, os⟩ ⟨kind, path, dest, data, mode, time⟩ = (noDisk, 1) by unfold putV; rw [hd]; rfl)
    have HB1 := Lib.hid (HB.out.trans (hb1.mono HB.out.size))
    have r0 := (HRB.out.on hb1).cell 0
    have r1 := (HRB.out.on hb1).cell 1
    have r2 := (HRB.out.on hb1).cell 2
    have f0 := (HRB.out.on hb1).frozen 0
    have f1 := (HRB.out.on hb1).frozen 1
    have f2 := (HRB.out.on hb1).frozen 2
    simp at r0 r1 r2
    clear hb1 hd CO
    go_wp2_with fail
    refine bodyPost_ret (v := .tuple #[.agg #[.slice none 0 0, .int .i64 0, .slice none 0 0], .int .i64 1]) ?_ rfl ⟨_, _, by rw [HE.out]; rfl, by rw [HE.out]; exact DRow.nil _ _, ?_⟩
    · simp [results, Tryz.results28, go_sem, r0, r1, r2]
    · iterate 3 (refine Below.setCell ?_ (by simp) _)
      exact HB1.out
  · obtain ⟨U, vq, p1, v1, ss, p2, v2, ls, hD⟩ := hQ
    have HE := Lib.hid (show putV ⟨⟨ns, next⟩, os⟩ ⟨kind, path, dest, data, mode, time⟩ = putR ⟨⟨ns, next⟩, os⟩ ⟨kind, path, dest, data, mode, time⟩ by unfold putV; rw [if_pos hd])
    have HB1 := Lib.hid (HB.out.trans (hb1.mono HB.out.size))
    have HRB1 := Lib.hid (HRB.out.on hb1)
    have CP := wPut6 kind mode time path dest data W1 wb.heap.size q U vq p1 v1 ss p2 v2 ls _ hD (Disk.of hd) z1 z2 z3 hoz
    have HLP := Lib.hid (show (putR ⟨⟨ns, next⟩, os⟩ ⟨kind, path, dest, data, mode, time⟩).1.os.length ≤ 2000000 by
      have := (Disk.of hd).len
      simp only at this
      unfold putR
      split
      · simp; omega
      · split
        · simp
        · split
          · simp; omega
          · simp; omega)
    have o0 := (HOB.out.on hb1).cell 0
    have o1 := (HOB.out.on hb1).cell 1
    have o2 := (HOB.out.on hb1).cell 2
    have o3 := (HOB.out.on hb1).cell 3
    have o4 := (HOB.out.on hb1).cell 4
    have o5 := (HOB.out.on hb1).cell 5
    simp at o0 o1 o2 o3 o4 o5
    have hs1 := hb1.size
    generalize putR ⟨⟨ns, next⟩, os⟩ ⟨kind, path, dest, data, mode, time⟩ = R at CP HLP HE
    obtain ⟨⟨⟨rns, rnx⟩, ros⟩, code⟩ := R
    simp only at HLP CP
    clear hb1 hd CO hD
    go_wp2_with fail
    refine CP.mono ?_
    rintro e W2 ⟨rfl, ⟨U2, x2, vq2, p2', v2, ps2, hS2⟩, hb2⟩
    have HB2 := Lib.hid (HB1.out.trans (hb2.mono HB.out.size))
    have HRB2 := Lib.hid (HRB1.out.below hb2 (by omega))
    have CD := Lib.hid (fun W (hb : Below W2.heap.size W2 W) => wDisk W wb.heap.size q U2 _ vq2 p2' v2 ps2 _ (hS2.on hb) HLP.out)
    have hs2 := hb2.size
    clear hb2 hS2 CP
    go_wp2_with fail
    refine (CD.out _ (Below.refl _ _)).mono ?_
    rintro e W3 ⟨v5, u5, rfl, hR5, hb3⟩
    obtain ⟨a5, k5, a6, k6, rfl, rfl⟩ := hR5.shape
    have HR5 := Lib.hid hR5
    have HB3 := Lib.hid (HB2.out.trans (hb3.mono HB2.out.size))
    have r0 := (HRB2.out.on hb3).cell 0
    have r1 := (HRB2.out.on hb3).cell 1
    have r2 := (HRB2.out.on hb3).cell 2
    have f0 := (HRB2.out.on hb3).frozen 0
    have f1 := (HRB2.out.on hb3).frozen 1
    have f2 := (HRB2.out.on hb3).frozen 2
    simp at r0 r1 r2
    clear hb3 hR5 CD
    go_wp2_with fail
    refine bodyPost_ret (v := .tuple #[.agg #[.slice a5 rns.length k5, .int .i64 rnx, .slice a6 ros.length k6], .int .i64 code]) ?_ rfl ⟨.slice a5 rns.length k5, .slice a6 ros.length k6, by rw [HE.out], ?_, ?_⟩
    · simp [results, Tryz.results28, go_sem, r0, r1, r2]
    · rw [HE.out]
      refine DRow.base (B := W2.heap.size) ?_ (by omega)
      iterate 3 (refine DRow.other ?_ _ _ (by show w.heap.size + 2 < W2.heap.size; omega))
      exact HR5.out
    · iterate 3 (refine Below.setCell ?_ (by simp) _)
      exact HB3.out
theorem implPut (w : World) (v v2 : Value) (ns : List Nd) (next : Int) (os : List Ov) (h : NRd w v ns) (ho : OpR.NRd w v2 os) (hol : os.length ≤ 2000000) (hz : ∀ n ∈ ns, n.path.length ≤ 2000000 ∧ n.data.length ≤ 2000000) (hoz : ∀ o ∈ os, o.path.length ≤ 2000000 ∧ o.dest.length ≤ 2000000 ∧ o.data.length ≤ 2000000) (o : Ov) (z1 : o.path.length ≤ 2000000) (z2 : o.dest.length ≤ 2000000) (z3 : o.data.length ≤ 2000000) :
    Calls Tryz.prog 28 #[.agg #[v, .int .i64 next, v2], .agg #[.int .i64 o.kind, .string (strOf o.path), .string (strOf o.dest), .string (strOf o.data), .int .i64 o.mode, .int .i64 o.time]] w fun e w' => ∃ v' u, e = .returned (.tuple #[.agg #[v', .int .i64 (putV ⟨⟨ns, next⟩, os⟩ o).1.s.next, u], .int .i64 (putV ⟨⟨ns, next⟩, os⟩ o).2]) ∧ DRow w' w.heap.size v' u (putV ⟨⟨ns, next⟩, os⟩ o).1.s.ns (putV ⟨⟨ns, next⟩, os⟩ o).1.os ∧ Below w.heap.size w w' := implPut6 w v v2 ns next os h ho hol hz hoz o.kind o.mode o.time o.path o.dest o.data z1 z2 z3
end Go.Proofs.YtipedabppgbfcaaGreatDoor
