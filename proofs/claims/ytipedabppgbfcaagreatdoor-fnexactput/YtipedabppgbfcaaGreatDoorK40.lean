/- impl.openDisk. impl's methods of a disk that is worked on: disk, keep, put. -/
import Derived.Test.YtipedabppgbfcaaGreatDoorK37
import Derived.Test.YtipedabppgbfcaaGreatDoorK38
import Derived.Test.YtipedabppgbfcaaGreatDoorK39
import Derived.Deep.DeepCutAuto
import Derived.Deep.RegionHeld
set_option linter.all false
namespace Go.Proofs.YtipedabppgbfcaaGreatDoor
open Go.RowKit

set_option maxRecDepth 100000 in
set_option maxHeartbeats 4000000 in
theorem openBad (w : World) (v v2 : Value) (ns : List Nd) (next : Int) (os : List Ov) (h : NRd w v ns) (ho : OpR.NRd w v2 os) (hol : os.length ≤ 2000000) (hz : ∀ n ∈ ns, n.path.length ≤ 2000000 ∧ n.data.length ≤ 2000000) (hb : 300 < os.length ∨ treeB ns next = false) :
    Calls Tryz.prog 77 #[.agg #[v, .int .i64 next, v2]] w fun e w' => e = .returned (.tuple #[.pointer none, .bool false]) ∧ Below w.heap.size w w' := by
  obtain ⟨a1, k1, rfl⟩ : ∃ a c, v = .slice a ns.length c := by obtain ⟨a, c, h, _⟩ := h; exact ⟨a, c, h⟩
  obtain ⟨a2, k2, rfl⟩ : ∃ a c, v2 = .slice a os.length c := by obtain ⟨a, c, h, _⟩ := ho; exact ⟨a, c, h⟩
  obtain ⟨wa, hwa⟩ : ∃ W, w.alloc (.cells #[.slice a1 ns.length k1, .int .i64 next, .slice a2 os.length k2] 44) = W := ⟨_, rfl⟩
  have ba : Below w.heap.size w wa := by rw [← hwa]; exact (Below.refl _ _).alloc (Nat.le_refl _) _
  have HX := Lib.hid (show Blk wa w.heap.size #[.slice a1 ns.length k1, .int .i64 next, .slice a2 os.length k2] 44 by rw [← hwa]; exact Blk.new _ _ _)
  have CT := implTreeOk wa _ ns next (h.on ba) hz
  have HB := Lib.hid ba
  have t0 := HX.out.cell 0
  have t1 := HX.out.cell 1
  have t2 := HX.out.cell 2
  simp at t0 t1 t2
  clear h ho ba
  have hoi : (os.length : Int) ≤ 2000000 := by omega
  by_cases hl : 300 < os.length
  · have hli : (300 : Int) < (os.length : Int) := by omega
    go_enter Tryz.func77, Tryz.ntmps77
    go_wp2_with fail
    refine bodyPost_ret (v := .tuple #[.pointer none, .bool false]) (by simp [results, Tryz.results77, go_sem]) rfl ⟨rfl, HB.out⟩
  · have hli : ¬ (300 : Int) < (os.length : Int) := by omega
    have hf : treeB ns next = false := hb.resolve_left hl
    rw [hf] at CT
    go_enter Tryz.func77, Tryz.ntmps77
    go_wp2_with (go_at_call 20; refine CT.mono ?_; rintro e W1 ⟨rfl, hb1⟩)
    refine bodyPost_ret (v := .tuple #[.pointer none, .bool false]) (by simp [results, Tryz.results77, go_sem]) rfl ⟨rfl, HB.out.trans (hb1.mono HB.out.size)⟩

set_option maxRecDepth 100000 in
set_option maxHeartbeats 4000000 in
theorem openGood (w : World) (v v2 : Value) (ns : List Nd) (next : Int) (os : List Ov) (h : NRd w v ns) (ho : OpR.NRd w v2 os) (hol : os.length ≤ 300) (hz : ∀ n ∈ ns, n.path.length ≤ 2000000 ∧ n.data.length ≤ 2000000) (hoz : ∀ o ∈ os, o.path.length ≤ 2000000 ∧ o.dest.length ≤ 2000000 ∧ o.data.length ≤ 2000000) (hb : treeB ns next = true) :
    Calls Tryz.prog 77 #[.agg #[v, .int .i64 next, v2]] w fun e w' => (diskB ⟨⟨ns, next⟩, os⟩ = false ∧ e = .returned (.tuple #[.pointer none, .bool false]) ∧ Below w.heap.size w w') ∨ (diskB ⟨⟨ns, next⟩, os⟩ = true ∧ ∃ q, e = .returned (.tuple #[.pointer (some ⟨q, 0, none⟩), .bool true]) ∧ (∃ U vq p v ps p2 v2 ls, DiskAt w' w.heap.size q U vq p v ps p2 v2 ls ⟨⟨ns, next⟩, os⟩) ∧ Below w.heap.size w w') := by
  obtain ⟨a1, k1, rfl⟩ : ∃ a c, v = .slice a ns.length c := by obtain ⟨a, c, h, _⟩ := h; exact ⟨a, c, h⟩
  obtain ⟨a2, k2, rfl⟩ : ∃ a c, v2 = .slice a os.length c := by obtain ⟨a, c, h, _⟩ := ho; exact ⟨a, c, h⟩
  obtain ⟨wa, hwa⟩ : ∃ W, w.alloc (.cells #[.slice a1 ns.length k1, .int .i64 next, .slice a2 os.length k2] 44) = W := ⟨_, rfl⟩
  have ba : Below w.heap.size w wa := by rw [← hwa]; exact (Below.refl _ _).alloc (Nat.le_refl _) _
  have HX := Lib.hid (show Blk wa w.heap.size #[.slice a1 ns.length k1, .int .i64 next, .slice a2 os.length k2] 44 by rw [← hwa]; exact Blk.new _ _ _)
  have CT := implTreeOk wa _ ns next (h.on ba) hz
  rw [hb] at CT
  have HB := Lib.hid ba
  have HRT := Lib.hid (Right.of hb)
  have CW := Lib.hid (fun W (hb : Below wa.heap.size wa W) => wkOn W _ ns next ((h.on HB.out).on hb) (fun n hn hd => node_bare (HRT.out.node n hn) hd) HRT.out.len)
  have t0 := HX.out.cell 0
  have t1 := HX.out.cell 1
  have t2 := HX.out.cell 2
  simp at t0 t1 t2
  have HN := Lib.hid h
  have HO := Lib.hid ho
  clear h ho ba
  have hli : ¬ (300 : Int) < (os.length : Int) := by omega
  go_enter Tryz.func77, Tryz.ntmps77
  go_wp2_with (go_at_call 20; refine CT.mono ?_; rintro e W1 ⟨rfl, hb1⟩; (have HB1 := Lib.hid hb1); (have t0 := (HX.out.on hb1).cell 0); (have t1 := (HX.out.on hb1).cell 1); (have t2 := (HX.out.on hb1).cell 2); simp at t0 t1 t2; clear hb1 CT)
  have K := Lib.hid (show ∀ V, Below wa.heap.size wa V → V.cell? ⟨w.heap.size, 0, none⟩ = some (.slice a1 ns.length k1) ∧ V.cell? ⟨w.heap.size, 1, none⟩ = some (.int .i64 next) ∧ V.cell? ⟨w.heap.size, 2, none⟩ = some (.slice a2 os.length k2) from fun V hb => by
    have hx := HX.out.on hb
    exact ⟨hx.cell 0, hx.cell 1, hx.cell 2⟩)
  have hsw : w.heap.size ≤ wa.heap.size := HB.out.size
  go_cut [4] (fun c4 V => ∃ (q U p1 : Nat) (v1 : Value) (ss : List (Nat × Nd)) (p2 : Nat) (v2 : Value) (ls : List (Nat × Nd)), c4 = .pointer (some ⟨q, 0, none⟩) ∧ DiskAt V w.heap.size q U (.slice none 0 0) p1 v1 ss p2 v2 ls ⟨⟨ns, next⟩, []⟩ ∧ Below wa.heap.size wa V)
  case first =>
    go_region_held (fun V => V.cell? ⟨w.heap.size, 0, none⟩ = some (.slice a1 ns.length k1) ∧ V.cell? ⟨w.heap.size, 1, none⟩ = some (.int .i64 next) ∧ V.cell? ⟨w.heap.size, 2, none⟩ = some (.slice a2 os.length k2)) (first | exact K.out _ HBb.out | exact K.out _ HBa.out | exact K.out _ HB1.out.drew | exact K.out _ (HBb.out.alloc HBb.out.size _)) (first
      | (go_at_call 73; refine (CW.out _ HBa.out).mono ?_; rintro e Wb ⟨p2, rfl, v2, ls, hW2, hn2, hb2⟩; (have HWb := Lib.hid (And.intro hW2 hn2)); (have HBb := Lib.hid (HBa.out.trans (hb2.mono HBa.out.size))); (have HBab := Lib.hid hb2); clear hW2 hn2 hb2)
      | (go_at_call 73; refine (CW.out _ HB1.out.drew).mono ?_; rintro e Wa ⟨p1, rfl, v1, ss, hW1, hn1, hb1⟩; (have HWa := Lib.hid (And.intro hW1 hn1)); (have HBa := Lib.hid (HB1.out.drew.trans (hb1.mono HB1.out.drew.size))); clear hW1 hn1 hb1))
    all_goals
      go_wp2
      go_meet
      have ha := HBa.out.size
      have hb := HBb.out.size
      have hab := HBab.out.size
      exact ⟨_, Wa.heap.size, p1, v1, ss, p2, v2, ls, rfl, ⟨⟨by omega, Blk.new _ _ _, OpR.NRow.nil _ _, (((HWa.out.1.base (by have := HB1.out.size; simp; omega)).on (HBab.out.alloc hab _)).now), HWa.out.2, HWa.out.1.under, HRT.out⟩, by omega, ((HWb.out.1.on ((Below.refl _ _).alloc (Nat.le_refl _) _)).now), HWb.out.2⟩, HBb.out.alloc hb _⟩
  case rest =>
    obtain ⟨q, U, p1, v1, ss, p2, v2, ls, rfl, hD, hbc⟩ := hcut
    have HD := Lib.hid hD
    have HBC := Lib.hid hbc
    have t2 := (K.out _ hbc).2.2
    clear hD hbc
    generalize wc = W2 at *
    clear HB1 HX CW K t0 t1
    have HE0 := Lib.hid (show doAllV ⟨ns, next⟩ os = doGo (runV ⟨ns, next⟩ (os.take 0)) (os.drop 0) 0 by rw [all_tree hb]; rfl)
    have HD0 := Lib.hid (show DiskAt W2 w.heap.size q U (.slice none 0 0) p1 v1 ss p2 v2 ls ⟨⟨ns, next⟩, os.take 0⟩ from HD.out)
    clear HD
    go_wp2
    go_loopw [28] (fun iv W => ∃ (k : Nat) (vq v2 : Value) (ls : List (Nat × Nd)), k ≤ os.length ∧ iv = .int .i64 k ∧ Hid (DiskAt W w.heap.size q U vq p1 v1 ss p2 v2 ls ⟨⟨ns, next⟩, os.take k⟩) ∧ Hid (doAllV ⟨ns, next⟩ os = doGo (runV ⟨ns, next⟩ (os.take k)) (os.drop k) k) ∧ Hid (Below w.heap.size w W)) (fun iv _ => os.length - (intOf iv).toNat)
    case atStart => exact ⟨0, _, v2, ls, Nat.zero_le _, rfl, HD0, HE0, Lib.hid (HB.out.trans (HBC.out.mono hsw))⟩
    case round =>
      clear HD0 HE0 HBC t2
      obtain ⟨k, vq, v2, ls, hk, rfl, HD, HE, HBW⟩ := hrel
      by_cases hlt : k < os.length
      · have hki : (k : Int) < (os.length : Int) := by omega
        obtain ⟨g2, cap2, hs, hg2, hl2, hm2, hc⟩ := HO.out.at (by intro e; subst e; simp at hlt)
        simp only [Value.slice.injEq] at hs
        obtain ⟨rfl, _, rfl⟩ := hs
        have hck := (hc k hlt).on hg2 HBW.out
        have hzk := hoz os[k] (List.getElem_mem hlt)
        have HDR := Lib.hid (List.drop_eq_getElem_cons hlt)
        have HSN := Lib.hid (runV_snoc ⟨ns, next⟩ os k hlt)
        have HTK := Lib.hid (List.take_succ_eq_append_getElem hlt)
        generalize hq : os[k] = o at hck hzk HDR HSN HTK
        obtain ⟨kind, path, dest, data, mode, time⟩ := o
        obtain ⟨e0, e1, e2, e3, e4, e5⟩ := hck
        obtain ⟨z1, z2, z3⟩ := hzk
        simp only at e0 e1 e2 e3 e4 e5 z1 z2 z3
        obtain ⟨W3, hW3⟩ : ∃ W, wr.alloc (.cells #[.int .i64 kind, .string (strOf path), .string (strOf dest), .string (strOf data), .int .i64 mode, .int .i64 time] 28) = W := ⟨_, rfl⟩
        have b3 : Below wr.heap.size wr W3 := by rw [← hW3]; exact (Below.refl _ _).alloc (Nat.le_refl _) _
        have O3 : Blk W3 wr.heap.size #[.int .i64 kind, .string (strOf path), .string (strOf dest), .string (strOf data), .int .i64 mode, .int .i64 time] 28 := by rw [← hW3]; exact Blk.new _ _ _
        have s0 := O3.cell 0
        have s1 := O3.cell 1
        have s2 := O3.cell 2
        have s3 := O3.cell 3
        have s4 := O3.cell 4
        have s5 := O3.cell 5
        simp at s0 s1 s2 s3 s4 s5
        have HD3 := Lib.hid (HD.out.on b3)
        have q1 := HD3.out.one.top.cell 1
        simp at q1
        have HB3 := Lib.hid (HBW.out.trans (b3.mono HBW.out.size))
        have HRR := Lib.hid (runV_right (os.take k) (t := ⟨ns, next⟩) HRT.out)
        have HTV := Lib.hid (show (⟨nds ls, (runV ⟨ns, next⟩ (os.take k)).next⟩ : Tv) = runV ⟨ns, next⟩ (os.take k) by rw [HD3.out.ls])
        have hwd : Below W3.heap.size W3 W3.drew := (Below.refl _ _).drew
        have CD := wkDo6 kind mode time path dest data W3.drew U p2 v2 ls _ (HD3.out.live.on hwd).now (by rw [HD3.out.ls]; exact HRR.out) z1 z2 z3
        rw [HTV.out] at CD
        have HS4 := Lib.hid (HD3.out.one.on hwd)
        have hUw : w.heap.size ≤ U := HD3.out.hB
        have HST := Lib.hid (doGo_stop (t := runV ⟨ns, next⟩ (os.take k)) (o := ⟨kind, path, dest, data, mode, time⟩) (r := os.drop (k + 1)) (k := k))
        have HON := Lib.hid (doGo_on (t := runV ⟨ns, next⟩ (os.take k)) (o := ⟨kind, path, dest, data, mode, time⟩) (r := os.drop (k + 1)) (k := k))
        have HE3 := Lib.hid (show doAllV ⟨ns, next⟩ os = doGo (runV ⟨ns, next⟩ (os.take k)) (⟨kind, path, dest, data, mode, time⟩ :: os.drop (k + 1)) k by rw [HE.out, HDR.out])
        generalize hrv : doV (runV ⟨ns, next⟩ (os.take k)) ⟨kind, path, dest, data, mode, time⟩ = r at CD HST HON HSN
        obtain ⟨⟨rns, rnx⟩, code⟩ := r
        simp only at HST HON HSN
        clear hwd b3 hc hq z1 z2 z3 HE hrv
        by_cases h0 : code = 0
        · subst h0
          go_wp2_with fail
          go_region_with (go_at_call 74; refine CD.mono ?_; rintro e W4 ⟨rfl, v4, ps4, hW4, hn4, hb4⟩)
          all_goals
            have HO4 := Lib.hid (show Blk W4 wr.heap.size #[.int .i64 kind, .string (strOf path), .string (strOf dest), .string (strOf data), .int .i64 mode, .int .i64 time] 28 from hW4.oth.blk ⟨O3.blk⟩ (by decide) (by decide) (by decide) (by decide))
            have HS5 := Lib.hid (HS4.out.other hb4 hW4.oth)
            have HL5 := Lib.hid hW4
            have HN5 := Lib.hid hn4
            have HB5 := Lib.hid (HB3.out.drew.trans (hb4.mono (by have := HB3.out.size; omega)))
            have x0 := HO4.out.cell 0
            have x1 := HO4.out.cell 1
            have x2 := HO4.out.cell 2
            have x3 := HO4.out.cell 3
            have x4 := HO4.out.cell 4
            have x5 := HO4.out.cell 5
            simp at x0 x1 x2 x3 x4 x5
            clear hW4 hn4 hb4
            have HS6 := Lib.hid (HS5.out.on (Below.refl _ _).drew)
            have HL6 := Lib.hid (HL5.out.on (Below.refl _ _).drew)
            have CA := qAdd W4.drew w.heap.size q _ _ vq (os.take k) ⟨kind, path, dest, data, mode, time⟩ HS6.out.lo HS6.out.top HS6.out.row (by simp; omega)
            go_wp2_with fail
            go_region_with (go_at_call 124; refine CA.mono ?_; rintro e W6 ⟨rfl, vq6, hT6, hR6, hg6⟩)
            all_goals
              have HD7 := Lib.hid (show DiskAt W6 w.heap.size q U vq6 p1 v1 ss p2 v4 ps4 ⟨⟨ns, next⟩, os.take (k + 1)⟩ from by
                rw [HTK.out]
                exact ⟨HS6.out.queue hT6 hR6 hg6, hUw, by rw [← HTK.out, HSN.out]; exact HL6.out.queue HS6.out hg6, by rw [← HTK.out, HSN.out]; exact HN5.out⟩)
              have HB7 := Lib.hid (HB5.out.drew.trans (HS6.out.below hg6))
              clear hT6 hR6 hg6
              go_wp2
              go_roundw
              case rel =>
                refine ⟨k + 1, vq6, v4, ps4, by omega, by go_num, HD7, Lib.hid ?_, HB7⟩
                rw [HE3.out, HON.out (by first | rfl | trivial), HSN.out]
              case measure => simp [intOf]; omega
        · have hcb : (code != 0) = true := by simp [h0]
          have HBAD := Lib.hid (show diskB ⟨⟨ns, next⟩, os⟩ = false by
            unfold diskB
            rw [HE3.out, HST.out h0]
            simp [h0])
          go_wp2_with fail
          go_region_with (go_at_call 74; refine CD.mono ?_; rintro e W4 ⟨rfl, v4, ps4, hW4, hn4, hb4⟩)
          all_goals
            have HB5 := Lib.hid (HB3.out.drew.trans (hb4.mono (by have := HB3.out.size; omega)))
            clear hW4 hn4 hb4
            go_wp2
            refine bodyPost_ret (v := .tuple #[.pointer none, .bool false]) (by simp [results, Tryz.results77, go_sem]) rfl (.inl ⟨HBAD.out, rfl, HB5.out⟩)
      · have hki : ¬ (k : Int) < (os.length : Int) := by omega
        obtain rfl : k = os.length := by omega
        have HGOOD := Lib.hid (show diskB ⟨⟨ns, next⟩, os⟩ = true by
          have h := HE.out
          rw [List.drop_length] at h
          unfold diskB
          rw [h]
          simp [doGo, hb, hol])
        have HD9 := Lib.hid (show DiskAt wr w.heap.size q U vq p1 v1 ss p2 v2 ls ⟨⟨ns, next⟩, os⟩ by have := HD.out; rw [List.take_length] at this; exact this)
        go_wp2
        refine bodyPost_ret (v := .tuple #[.pointer (some ⟨q, 0, none⟩), .bool true]) (by simp [results, Tryz.results77, go_sem]) rfl (.inr ⟨HGOOD.out, q, rfl, ⟨U, vq, p1, v1, ss, p2, v2, ls, HD9.out⟩, HBW.out⟩)

theorem implOpen (w : World) (v v2 : Value) (ns : List Nd) (next : Int) (os : List Ov) (h : NRd w v ns) (ho : OpR.NRd w v2 os) (hol : os.length ≤ 2000000) (hz : ∀ n ∈ ns, n.path.length ≤ 2000000 ∧ n.data.length ≤ 2000000) (hoz : ∀ o ∈ os, o.path.length ≤ 2000000 ∧ o.dest.length ≤ 2000000 ∧ o.data.length ≤ 2000000) :
    Calls Tryz.prog 77 #[.agg #[v, .int .i64 next, v2]] w fun e w' => (diskB ⟨⟨ns, next⟩, os⟩ = false ∧ e = .returned (.tuple #[.pointer none, .bool false]) ∧ Below w.heap.size w w') ∨ (diskB ⟨⟨ns, next⟩, os⟩ = true ∧ ∃ q, e = .returned (.tuple #[.pointer (some ⟨q, 0, none⟩), .bool true]) ∧ (∃ U vq p v ps p2 v2 ls, DiskAt w' w.heap.size q U vq p v ps p2 v2 ls ⟨⟨ns, next⟩, os⟩) ∧ Below w.heap.size w w') := by
  by_cases hb : 300 < os.length ∨ treeB ns next = false
  · refine (openBad w v v2 ns next os h ho hol hz hb).mono ?_
    rintro e w' ⟨h1, h2⟩
    refine .inl ⟨?_, h1, h2⟩
    unfold diskB
    rcases hb with hb | hb
    · simp; omega
    · simp [hb]
  · have hl : os.length ≤ 300 := by omega
    have ht : treeB ns next = true := by
      cases h2 : treeB ns next with
      | true => rfl
      | false => exact absurd (.inr h2) hb
    exact openGood w v v2 ns next os h ho hl hz hoz ht
end Go.Proofs.YtipedabppgbfcaaGreatDoor
namespace Go.Proofs.YtipedabppgbfcaaGreatDoor
open Go.RowKit

set_option maxRecDepth 100000 in
set_option maxHeartbeats 4000000 in
theorem wDisk (w : World) (B q U : Nat) (x vq : Value) (p : Nat) (v : Value) (ps : List (Nat × Nd)) (d : Kv) (h : SafeAt w B q U x vq p v ps d) (hol : d.os.length ≤ 2000000) :
    Calls Tryz.prog 79 #[.pointer (some ⟨q, 0, none⟩)] w fun e w' => ∃ v' u, e = .returned (.agg #[v', .int .i64 d.s.next, u]) ∧ DRow w' w.heap.size v' u d.s.ns d.os ∧ Below w.heap.size w w' := by
  obtain ⟨wb, hwb⟩ : ∃ W, w.alloc (.cells #[.slice none 0 0, .int .i64 0, .slice none 0 0] 44) = W := ⟨_, rfl⟩
  have hsb : wb.heap.size = w.heap.size + 1 := by rw [← hwb]; simp
  have bb : Below w.heap.size w wb := by rw [← hwb]; exact (Below.refl _ _).alloc (Nat.le_refl _) _
  have HX := Lib.hid (show Blk wb w.heap.size #[.slice none 0 0, .int .i64 0, .slice none 0 0] 44 by rw [← hwb]; exact Blk.new _ _ _)
  have H := Lib.hid (h.on bb)
  have HB := Lib.hid bb
  have HLN := Lib.hid (show ps.length ≤ 60 by have := h.right.len; rw [← h.ns, nds_len] at this; exact this)
  obtain ⟨a1, k1, rfl⟩ := h.row.shape
  have HNS := Lib.hid h.ns
  have K := Lib.hid (show ∀ V, Below wb.heap.size wb V → V.cell? ⟨q, 0, none⟩ = some (.pointer (some ⟨p, 0, none⟩)) ∧ V.cell? ⟨q, 2, none⟩ = some (.slice a1 d.os.length k1) from fun V hb => by
    have hx := (H.out.on hb).top
    exact ⟨hx.cell 0, hx.cell 2⟩)
  have hqw := h.top.lt
  have K3 := Lib.hid (show ∀ V, Below wb.heap.size wb V → ∀ x0 x1 x2, (((V.setCell ⟨w.heap.size, 0, none⟩ x0).setCell ⟨w.heap.size, 1, none⟩ x1).setCell ⟨w.heap.size, 2, none⟩ x2).cell? ⟨q, 0, none⟩ = some (.pointer (some ⟨p, 0, none⟩)) ∧ (((V.setCell ⟨w.heap.size, 0, none⟩ x0).setCell ⟨w.heap.size, 1, none⟩ x1).setCell ⟨w.heap.size, 2, none⟩ x2).cell? ⟨q, 2, none⟩ = some (.slice a1 d.os.length k1) from fun V hb x0 x1 x2 => by
    have hne : q ≠ w.heap.size := by omega
    have hx := (((H.out.on hb).top.other ⟨w.heap.size, 0, none⟩ x0 hne).other ⟨w.heap.size, 1, none⟩ x1 hne).other ⟨w.heap.size, 2, none⟩ x2 hne
    exact ⟨hx.cell 0, hx.cell 2⟩)
  have CT := Lib.hid (fun W (hb : Below wb.heap.size wb W) => wkTree W B p v ps d.s.next (H.out.on hb).safe HLN.out)
  have CS := Lib.hid (fun W (hb : Below wb.heap.size wb W) => qSize W q a1 d.os.length k1 (K.out W hb).2)
  have CF := Lib.hid (fun W (hb : Below wb.heap.size wb W) => qFirst W B q _ _ _ d.os (d.os.length : Int) (H.out.on hb).top (H.out.on hb).row hol)
  clear h bb
  go_enter Tryz.func79, Tryz.ntmps79
  go_wp2_with fail
  go_region_held (fun V => V.cell? ⟨q, 0, none⟩ = some (.pointer (some ⟨p, 0, none⟩)) ∧ V.cell? ⟨q, 2, none⟩ = some (.slice a1 d.os.length k1)) (first | exact K.out _ HBc.out | exact K.out _ HBa.out | exact K.out _ (Below.refl _ _).drew | exact K3.out _ HBc.out _ _ _) (first
    | (go_at_call 75; refine (CT.out _ (Below.refl _ _).drew).mono ?_; rintro e Wa ⟨v5, rfl, hR5, hb5⟩; (obtain ⟨a5, k5, rfl⟩ := hR5.shape); (have HR5 := Lib.hid hR5); (have HBa := Lib.hid ((Below.refl wb.heap.size wb).drew.trans hb5)); clear hR5 hb5)
    | (go_at_call 125; refine (CS.out _ HBa.out).mono ?_; rintro e Wb ⟨rfl, rfl⟩)
    | (go_at_call 126; refine (CF.out _ HBa.out).mono ?_; rintro e Wc ⟨u6, rfl, hR6, hb6⟩; (obtain ⟨a6, k6, rfl⟩ := hR6.shape); (have HR6 := Lib.hid hR6); (have HN6 := Lib.hid (HR5.out.on hb6)); (have HBc := Lib.hid (HBa.out.trans (hb6.mono HBa.out.size))); (have HX6 := Lib.hid (HX.out.on HBc.out)); (have f0 := HX6.out.frozen 0); (have f1 := HX6.out.frozen 1); (have f2 := HX6.out.frozen 2); (have c0 := HX6.out.cell 0); (have c1 := HX6.out.cell 1); (have c2 := HX6.out.cell 2); simp at c0 c1 c2; clear hR6 hb6))
  all_goals
    go_wp2
    refine bodyPost_ret (v := .agg #[.slice a5 ps.length k5, .int .i64 d.s.next, .slice a6 d.os.length k6]) ?_ rfl ⟨_, _, rfl, ⟨?_, ?_⟩, ?_⟩
    · simp [results, Tryz.results79, go_sem, c0, c1, c2]
    · rw [← HNS.out]
      have h6 := HN6.out
      rw [nds_len] at h6
      refine NRow.base (B := wb.heap.size) ?_ (by omega)
      iterate 3 (refine NRow.other ?_ _ _ (by show w.heap.size < wb.heap.size; omega))
      exact h6
    · have h6 := HR6.out
      rw [Int.toNat_natCast, List.take_length] at h6
      refine OpR.NRow.base (B := wb.heap.size) ?_ (by omega)
      iterate 3 (refine OpR.NRow.other ?_ _ _ (by show w.heap.size < wb.heap.size; omega))
      exact h6.base HBa.out.size
    · iterate 3 (refine Below.setCell ?_ (by show w.heap.size ≤ w.heap.size; omega) _)
      exact HB.out.trans (HBc.out.mono (by omega))

set_option maxRecDepth 100000 in
set_option maxHeartbeats 4000000 in
theorem wKeep (w : World) (B q U : Nat) (x vq : Value) (p : Nat) (v : Value) (ps : List (Nat × Nd)) (d : Kv) (k : Int) (h : SafeAt w B q U x vq p v ps d) (hol : d.os.length ≤ 2000000) (hoz : ∀ o ∈ d.os, o.path.length ≤ 2000000 ∧ o.dest.length ≤ 2000000 ∧ o.data.length ≤ 2000000) :
    Calls Tryz.prog 82 #[.pointer (some ⟨q, 0, none⟩), .int .i64 k] w fun e w' => e = .returned (.tuple #[]) ∧ (∃ U' vq' v' ps', SafeAt w' B q U' x vq' p v' ps' ⟨runV d.s (d.os.take k.toNat), []⟩) ∧ Below B w w' := by
  have H := Lib.hid h
  have CF := qFirst w B q _ _ _ d.os k h.top h.row hol
  have hqB := h.lo
  have hqw := h.top.lt
  have hll : (d.os.take k.toNat).length ≤ 2000000 := by rw [List.length_take]; omega
  have hmz : ∀ o ∈ d.os.take k.toNat, o.path.length ≤ 2000000 ∧ o.dest.length ≤ 2000000 ∧ o.data.length ≤ 2000000 := fun o ho => hoz o (List.mem_of_mem_take ho)
  clear h
  go_enter Tryz.func82, Tryz.ntmps82
  go_wp2_with fail
  refine CF.mono ?_
  rintro e W1 ⟨u1, rfl, hR1, hb1⟩
  generalize hms : d.os.take k.toNat = ms at hR1 hll hmz ⊢
  obtain ⟨a6, k6, rfl⟩ := hR1.shape
  have HR1 := Lib.hid hR1
  have H1 := Lib.hid (H.out.on hb1)
  have HB1 := Lib.hid (hb1.mono (by omega : B ≤ w.heap.size))
  have hs1 := hb1.size
  clear hR1 hb1 CF
  have hmi : (ms.length : Int) ≤ 2000000 := by omega
  go_wp2_with fail
  go_loopw [12] (fun iv W => ∃ (j U' : Nat) (v' : Value) (ps' : List (Nat × Nd)), j ≤ ms.length ∧ iv = .int .i64 j ∧ Hid (SafeAt W B q U' x vq p v' ps' ⟨runV d.s (ms.take j), d.os⟩) ∧ Hid (OpR.NRow W w.heap.size (.slice a6 ms.length k6) ms) ∧ Hid (Below B w W)) (fun iv _ => ms.length - (intOf iv).toNat)
  case atStart => exact ⟨0, U, v, ps, Nat.zero_le _, rfl, H1, HR1, HB1⟩
  case round =>
    clear H1 HR1 HB1
    obtain ⟨j, U', v', ps', hj, rfl, HS, HR, HBW⟩ := hrel
    by_cases hlt : j < ms.length
    · have hji : (j : Int) < (ms.length : Int) := by omega
      obtain ⟨g2, cap2, hs, hg2, hl2, hm2, hc⟩ := HR.out.rd.at (by intro e; subst e; simp at hlt)
      simp only [Value.slice.injEq] at hs
      obtain ⟨rfl, _, rfl⟩ := hs
      have hck := hc j hlt
      have hzk := hmz ms[j] (List.getElem_mem hlt)
      have HSN := Lib.hid (runV_snoc d.s ms j hlt)
      generalize hq : ms[j] = o at hck hzk HSN
      obtain ⟨kind, path, dest, data, mode, time⟩ := o
      obtain ⟨e0, e1, e2, e3, e4, e5⟩ := hck
      obtain ⟨z1, z2, z3⟩ := hzk
      simp only at e0 e1 e2 e3 e4 e5 z1 z2 z3
      obtain ⟨W3, hW3⟩ : ∃ W, wr.alloc (.cells #[.int .i64 kind, .string (strOf path), .string (strOf dest), .string (strOf data), .int .i64 mode, .int .i64 time] 28) = W := ⟨_, rfl⟩
      have b3 : Below wr.heap.size wr W3 := by rw [← hW3]; exact (Below.refl _ _).alloc (Nat.le_refl _) _
      have O3 : Blk W3 wr.heap.size #[.int .i64 kind, .string (strOf path), .string (strOf dest), .string (strOf data), .int .i64 mode, .int .i64 time] 28 := by rw [← hW3]; exact Blk.new _ _ _
      have s0 := O3.cell 0
      have s1 := O3.cell 1
      have s2 := O3.cell 2
      have s3 := O3.cell 3
      have s4 := O3.cell 4
      have s5 := O3.cell 5
      simp at s0 s1 s2 s3 s4 s5
      have HS3 := Lib.hid (HS.out.on b3)
      have HR3 := Lib.hid (HR.out.on b3)
      have q0 := HS3.out.top.cell 0
      simp at q0
      have HB3 := Lib.hid (HBW.out.trans (b3.mono (by have := HBW.out.size; omega)))
      have hwd : Below W3.heap.size W3 W3.drew := (Below.refl _ _).drew
      have hS3 := HS3.out.on hwd
      have CD := wkDo6 kind mode time path dest data W3.drew B p v' ps' _ hS3.safe (by rw [hS3.ns]; exact hS3.right) z1 z2 z3
      have HTV := Lib.hid (show (⟨nds ps', (runV d.s (ms.take j)).next⟩ : Tv) = runV d.s (ms.take j) by rw [hS3.ns])
      simp only at CD
      rw [HTV.out] at CD
      have HRR := Lib.hid (do_right (t := runV d.s (ms.take j)) (o := ⟨kind, path, dest, data, mode, time⟩) hS3.right)
      generalize hrv : doV (runV d.s (ms.take j)) ⟨kind, path, dest, data, mode, time⟩ = r at CD HSN HRR
      obtain ⟨⟨rns, rnx⟩, code⟩ := r
      simp only at HSN HRR
      have HSD := Lib.hid hS3
      clear O3 b3 hc hq hrv hS3 HTV
      go_wp2_with fail
      go_region_with (go_at_call 74; refine CD.mono ?_; rintro e W4 ⟨rfl, v4, ps4, hW4, hn4, hb4⟩)
      all_goals
        have HS4 := Lib.hid (show SafeAt W4 B q W4.heap.size x vq p v4 ps4 ⟨runV d.s (ms.take (j + 1)), d.os⟩ from by
          rw [HSN.out]
          exact ⟨HSD.out.lo, hW4.oth.blk HSD.out.top (by decide) (by decide) (by decide) (by decide), hW4.oth.nrow HSD.out.row, hW4.now, hn4, hW4.under, HRR.out⟩)
        have HR4 := Lib.hid (hW4.oth.nrow (HR3.out.on hwd))
        have HB4 := Lib.hid (HB3.out.drew.trans hb4)
        clear hW4 hn4 hb4
        go_wp2
        go_roundw
        case rel => exact ⟨j + 1, W4.heap.size, v4, ps4, by omega, by go_num, HS4, HR4, HB4⟩
        case measure => simp [intOf]; omega
    · have hji : ¬ (j : Int) < (ms.length : Int) := by omega
      obtain rfl : j = ms.length := by omega
      have HS5 := Lib.hid (show SafeAt wr B q U' x vq p v' ps' ⟨runV d.s ms, d.os⟩ by have := HS.out; rw [List.take_length] at this; exact this)
      have CE := qEmpty wr B q _ _ vq d.os HS5.out.lo HS5.out.top HS5.out.row hol
      go_wp2_with (go_at_call 127; refine CE.mono ?_; rintro e W6 ⟨rfl, vq6, hT6, hR6, hg6⟩)
      go_end0
      exact ⟨rfl, ⟨U', vq6, v', ps', by rw [hms]; exact HS5.out.queue hT6 hR6 hg6⟩, HBW.out.trans (HS5.out.below hg6)⟩

end Go.Proofs.YtipedabppgbfcaaGreatDoor
