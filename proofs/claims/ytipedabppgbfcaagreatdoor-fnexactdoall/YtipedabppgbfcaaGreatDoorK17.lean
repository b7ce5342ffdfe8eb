/- The nodes' node methods, fileAt, newBase, isUnder, movedPath over the tree that is worked on. The contract of spec.TreeOk. -/
import Derived.Test.YtipedabppgbfcaaGreatDoorK16
import Derived.StillTailTactics
set_option linter.all false
namespace Go.Proofs.YtipedabppgbfcaaGreatDoor
open Go.RowKit

theorem cell_on0 {W : World} {o : Obj} {a : Addr} {v : Value} (h : W.cell? a = some v) : (W.alloc o).cell? a = some v :=
  (World.cell?_of_block (Below.heap_alloc W o a.block (World.block_lt_of_cell? W a h))).trans h

set_option maxRecDepth 100000 in
set_option maxHeartbeats 1000000 in
theorem wkNodeD (b : Nat) (n : Nd) (w : World) (h : WkAt w b n) (hd : n.dir = true) : Calls Tryz.prog 255 #[.pointer (some ⟨b, 0, none⟩)] w fun e w' => e = .returned (.agg #[.string (strOf n.path), .bool n.dir, .int .i64 n.mode, .int .i64 n.time, .int .i64 n.id, .string (strOf n.data)]) ∧ Below w.heap.size w w' := by
  rw [hd, h.data hd]
  obtain ⟨W0, hW⟩ : ∃ W, w.alloc (.cells #[.string ⟨#[]⟩, .bool false, .int .i64 0, .int .i64 0, .int .i64 0, .string ⟨#[]⟩] 37) = W := ⟨_, rfl⟩
  have hb0 : Below w.heap.size w W0 := by rw [← hW]; exact (Below.refl _ _).alloc (Nat.le_refl _) _
  have B0 := Lib.hid (show Blk W0 w.heap.size _ 37 by rw [← hW]; exact Blk.new _ _ _)
  obtain ⟨c0, c1, c2, c3⟩ := (h.on hb0).cells
  have HB0 := Lib.hid hb0
  have r0 := B0.out.cell 0
  have r1 := B0.out.cell 1
  have r2 := B0.out.cell 2
  have r3 := B0.out.cell 3
  have r4 := B0.out.cell 4
  have r5 := B0.out.cell 5
  have f0 := fun j => B0.out.frozen j
  simp at r0 r1 r2 r3 r4 r5
  clear h hd hb0
  go_enter Tryz.func255, Tryz.ntmps255
  go_wp2_with fail
  go_still_tail 21, (by kernel_rfl)
  change wpList _ _ _ _ _ W0.drew
  go_wp2
  refine bodyPost_ret (v := .agg #[.string (strOf n.path), .bool true, .int .i64 n.mode, .int .i64 n.time, .int .i64 n.id, .string ⟨#[]⟩]) ?_ rfl ⟨rfl, ?_⟩
  · simp [results, Tryz.results255, go_sem, r0, r1, r2, r3, r4, r5]
  · refine Below.drew ?_
    iterate 6 (refine Below.setCell ?_ (by simp) _)
    exact HB0.out
set_option maxRecDepth 100000 in
set_option maxHeartbeats 1000000 in
theorem wkNodeF (b : Nat) (n : Nd) (w : World) (h : WkAt w b n) (hd : n.dir = false) : Calls Tryz.prog 256 #[.pointer (some ⟨b, 0, none⟩)] w fun e w' => e = .returned (.agg #[.string (strOf n.path), .bool n.dir, .int .i64 n.mode, .int .i64 n.time, .int .i64 n.id, .string (strOf n.data)]) ∧ Below w.heap.size w w' := by
  obtain ⟨W0, hW⟩ : ∃ W, w.alloc (.cells #[.string ⟨#[]⟩, .bool false, .int .i64 0, .int .i64 0, .int .i64 0, .string ⟨#[]⟩] 37) = W := ⟨_, rfl⟩
  have hb0 : Below w.heap.size w W0 := by rw [← hW]; exact (Below.refl _ _).alloc (Nat.le_refl _) _
  have B0 := Lib.hid (show Blk W0 w.heap.size _ 37 by rw [← hW]; exact Blk.new _ _ _)
  obtain ⟨c0, c1, c2, c3⟩ := (h.on hb0).cells
  have c4 := ((h.on hb0).file hd).cell 4
  rw [hd]
  have HB0 := Lib.hid hb0
  have r0 := B0.out.cell 0
  have r1 := B0.out.cell 1
  have r2 := B0.out.cell 2
  have r3 := B0.out.cell 3
  have r4 := B0.out.cell 4
  have r5 := B0.out.cell 5
  have f0 := fun j => B0.out.frozen j
  simp at r0 r1 r2 r3 r4 r5 c4
  clear h hd hb0
  go_enter Tryz.func256, Tryz.ntmps256
  go_wp2_with fail
  go_still_tail 25, (by kernel_rfl)
  change wpList _ _ _ _ _ W0.drew
  go_wp2
  refine bodyPost_ret (v := .agg #[.string (strOf n.path), .bool false, .int .i64 n.mode, .int .i64 n.time, .int .i64 n.id, .string (strOf n.data)]) ?_ rfl ⟨rfl, ?_⟩
  · simp [results, Tryz.results256, go_sem, r0, r1, r2, r3, r4, r5]
  · refine Below.drew ?_
    iterate 6 (refine Below.setCell ?_ (by simp) _)
    exact HB0.out
end Go.Proofs.YtipedabppgbfcaaGreatDoor
namespace Go.Proofs.YtipedabppgbfcaaGreatDoor
open Go.RowKit

theorem lessAt_pos {ns : List Nd} {k : Nat} (h0 : 0 < k) (hk : k - 1 < ns.length) (p : List UInt8) : lessAt ns k p = lessB (ns[k - 1]'hk).path p := by
  unfold lessAt
  rw [if_neg (by omega), List.getElem?_eq_getElem hk]
theorem free_t {ns : List Nd} {k : Nat} {id : Int} (hk : k ≤ ns.length) (h : ∀ j (hj : j < ns.length), j < k → ns[j].id ≠ id) : freeB ns k id = true := by
  unfold freeB
  rw [List.all_eq_true]
  intro m hm
  obtain ⟨j, hj, rfl⟩ := List.getElem_of_mem hm
  rw [List.length_take] at hj
  rw [List.getElem_take]
  have := h j (by omega) (by omega)
  simpa using this
theorem free_f {ns : List Nd} {k j : Nat} {id : Int} (hj : j < ns.length) (hjk : j < k) (h : ns[j].id = id) : freeB ns k id = false := by
  unfold freeB
  rw [Bool.eq_false_iff]; intro e
  rw [List.all_eq_true] at e
  have := e ns[j] (List.mem_take_iff_getElem.2 ⟨j, by omega, rfl⟩)
  rw [h] at this; simp at this

theorem specBeforeB (a b : List UInt8) (w : World) (ha : a.length ≤ 2000000) (hb : b.length ≤ 2000000) :
    Calls Tryz.prog 65 #[.string (strOf a), .string (strOf b)] w fun e w' => e = .returned (.bool (lessB a b)) ∧ Below w.heap.size w w' := by
  have h := specBefore (strOf a) (strOf b) w (by rw [strOf_size]; unfold maxLen; omega) (by rw [strOf_size]; unfold maxLen; omega)
  rw [Lib.toList_data, Lib.toList_data, strOf_data, strOf_data] at h
  refine h.mono ?_
  rintro e w' ⟨rfl, n, rfl⟩
  exact ⟨rfl, below_drewN (Below.refl _ _) n⟩

set_option maxRecDepth 100000 in
set_option maxHeartbeats 8000000 in
theorem specTreeOk (w : World) (v : Value) (ns : List Nd) (next : Int) (h : NRd w v ns) (hz : ∀ n ∈ ns, n.path.length ≤ 2000000 ∧ n.data.length ≤ 2000000) :
    Calls Tryz.prog 19 #[.agg #[v, .int .i64 next]] w fun e w' => e = .returned (.bool (treeB ns next)) ∧ Below w.heap.size w w' := by
  obtain ⟨a1, k1, rfl⟩ : ∃ a c, v = .slice a ns.length c := by obtain ⟨a, c, h, _⟩ := h; exact ⟨a, c, h⟩
  have hb0 : Below w.heap.size w (w.alloc (.cells #[.slice a1 ns.length k1, .int .i64 next] 26)) := (Below.refl _ _).alloc (Nat.le_refl _) _
  have BK := Lib.hid (Blk.new w #[.slice a1 ns.length k1, .int .i64 next] 26)
  have HB0 := Lib.hid hb0
  have HN := Lib.hid (h.on hb0)
  have hlen : (ns.length : Int) ≤ 9223372036854775807 := by
    obtain ⟨_, _, _, h2, h3, _⟩ := h
    unfold maxLen at h3; omega
  have CN := fun W => specIn next 1 1000000 W
  have HCN := Lib.hid CN
  clear hb0 h CN
  by_cases h60 : ns.length ≤ 60
  rotate_left
  · have hi : 60 < (ns.length : Int) := by omega
    have HV := Lib.hid (tree_many (next := next) (show 60 < ns.length by omega))
    go_enter Tryz.func19, Tryz.ntmps19
    go_wp2
    go_ret
    exact ⟨ret_bool (by rw [HV.out]), HB0.out⟩
  have h60i : ¬ 60 < (ns.length : Int) := by omega
  cases hnx : inB next 1 1000000 with
  | false =>
    have HV := Lib.hid (tree_next (ns := ns) hnx)
    have HC := Lib.hid (show ∀ W, Calls Tryz.prog 61 #[.int .i64 next, .int .i64 1, .int .i64 1000000] W fun e w' => e = .returned (.bool false) ∧ W = w' from fun W => by have := HCN.out W; rw [hnx] at this; exact this)
    clear hnx HCN
    go_enter Tryz.func19, Tryz.ntmps19
    go_wp2_with fail
    refine (HC.out _).mono ?_
    rintro e w' ⟨rfl, rfl⟩
    go_wp2
    go_ret
    exact ⟨ret_bool (by rw [HV.out]), HB0.out⟩
  | true =>
    have hn12 : 1 ≤ next ∧ next ≤ 1000000 := by simpa [inB] using hnx
    obtain ⟨hn1, hn2⟩ := hn12
    have HC := Lib.hid (show ∀ W, Calls Tryz.prog 61 #[.int .i64 next, .int .i64 1, .int .i64 1000000] W fun e w' => e = .returned (.bool true) ∧ W = w' from fun W => by have := HCN.out W; rw [hnx] at this; exact this)
    have HNX := Lib.hid hnx
    have HZ := Lib.hid hz
    clear hnx HCN hz
    go_enter Tryz.func19, Tryz.ntmps19
    go_wp2_with fail
    refine (HC.out _).mono ?_
    rintro e w' ⟨rfl, rfl⟩
    go_wp2
    go_loopw [3] (fun i W => ∃ k : Nat, k ≤ ns.length ∧ i = .int .i64 k ∧ (∀ j, j < ns.length → j < k → stepB ns next j = true) ∧ Below (w.heap.size + 1) (w.alloc (.cells #[.slice a1 ns.length k1, .int .i64 next] 26)) W) (fun i _ => ns.length - (intOf i).toNat)
    case atStart => exact ⟨0, Nat.zero_le _, rfl, fun j _ hj => by omega, by simpa using Below.refl _ (w.alloc (.cells #[.slice a1 ns.length k1, .int .i64 next] 26))⟩
    case round =>
      obtain ⟨k, hk, rfl, hst, hb⟩ := hrel
      have HST := Lib.hid hst
      have HB := Lib.hid hb
      have b0 := (BK.out.below hb (by omega)).cell 0
      have b1 := (BK.out.below hb (by omega)).cell 1
      have BKW := Lib.hid (BK.out.below hb (by omega))
      have HNW := Lib.hid (HN.out.on (by simpa using hb))
      have hbz := hb.size
      simp at b0 b1 hbz
      clear hst hb
      by_cases hlt : k < ns.length
      rotate_left
      · have hki : ¬ (k : Int) < (ns.length : Int) := by omega
        have HV := Lib.hid (tree_iff.2 ⟨h60, HNX.out, fun i hi => HST.out i hi (by omega)⟩)
        go_wp2
        go_ret
        exact ⟨ret_bool (by rw [HV.out]), HB0.out.trans (HB.out.mono (by omega))⟩
      have hki : (k : Int) < (ns.length : Int) := by omega
      obtain ⟨g, cap, hs, hg, hlc, hcm, hc⟩ := HNW.out.at (by intro e; subst e; simp at hlt)
      simp only [Value.slice.injEq] at hs
      obtain ⟨rfl, _, rfl⟩ := hs
      unfold maxLen at hcm
      have hck := hc k hlt
      have HCC := Lib.hid hc
      obtain ⟨hz1, hz2⟩ := HZ.out ns[k] (List.getElem_mem hlt)
      have HSA := Lib.hid (step_at (next := next) hlt)
      obtain ⟨nd, hnd⟩ : ∃ nd, ns[k] = nd := ⟨_, rfl⟩
      rw [hnd] at hck hz1 hz2 HSA
      obtain ⟨d0, d1, d2, d3, d4, d5⟩ := hck
      have HND := Lib.hid hnd
      clear hc hnd
      obtain ⟨W, hW⟩ : ∃ W, wr.alloc (.cells #[.string (strOf nd.path), .bool nd.dir, .int .i64 nd.mode, .int .i64 nd.time, .int .i64 nd.id, .string (strOf nd.data)] 37) = W := ⟨_, rfl⟩
      have hal : Below wr.heap.size wr W := by rw [← hW]; exact (Below.refl _ _).alloc (Nat.le_refl _) _
      have BKN := Lib.hid (show Blk W wr.heap.size #[.string (strOf nd.path), .bool nd.dir, .int .i64 nd.mode, .int .i64 nd.time, .int .i64 nd.id, .string (strOf nd.data)] 37 by rw [← hW]; exact Blk.new _ _ _)
      have BKT := Lib.hid (BKW.out.on hal)
      have HNV := Lib.hid (HNW.out.on hal)
      have HAL := Lib.hid (HB.out.trans (hal.mono hbz))
      have f0 := fun d os => (BKN.out.on (below_regrown W d os)).cell 0
      have f1 := fun d os => (BKN.out.on (below_regrown W d os)).cell 1
      have f2 := fun d os => (BKN.out.on (below_regrown W d os)).cell 2
      have f3 := fun d os => (BKN.out.on (below_regrown W d os)).cell 3
      have f4 := fun d os => (BKN.out.on (below_regrown W d os)).cell 4
      have f5 := fun d os => (BKN.out.on (below_regrown W d os)).cell 5
      have t0 := fun d os => (BKT.out.on (below_regrown W d os)).cell 0
      have t1 := fun d os => (BKT.out.on (below_regrown W d os)).cell 1
      simp at f0 f1 f2 f3 f4 f5 t0 t1
      have K1 := Lib.hid (show ∀ d os, Calls Tryz.prog 62 #[.agg #[.string (strOf nd.path), .bool nd.dir, .int .i64 nd.mode, .int .i64 nd.time, .int .i64 nd.id, .string (strOf nd.data)], .int .i64 next] (Sort.grow (redrawn W d) os) fun e w'' => e = .returned (.bool (nodeB nd next)) ∧ ∃ p : Regrown, w'' = Sort.grow (redrawn W p.d) p.os from fun d os => Calls.regrown_of (specNode nd next _ hn1 hn2 hz1 hz2))
      have K2 := Lib.hid (show ∀ d os, Calls Tryz.prog 64 #[.string (strOf nd.path)] (Sort.grow (redrawn W d) os) fun e w'' => e = .returned (.string (strOf (dirV nd.path))) ∧ ∃ p : Regrown, w'' = Sort.grow (redrawn W p.d) p.os from fun d os => Calls.regrown_of (by
        have := specDirOf (strOf nd.path) (Sort.grow (redrawn W d) os) (by rw [strOf_size]; unfold maxLen; omega)
        rw [strOf_data] at this; exact this))
      have K3 := Lib.hid (show ∀ d os, Calls Tryz.prog 63 #[.agg #[.slice (some ⟨g, 0, none⟩) ns.length k1, .int .i64 next], .string (strOf (dirV nd.path))] (Sort.grow (redrawn W d) os) fun e w'' => e = .returned (.bool (dirB ns (dirV nd.path))) ∧ ∃ p : Regrown, w'' = Sort.grow (redrawn W p.d) p.os from fun d os => Calls.regrown_of (specDir _ _ ns next _ (HNV.out.on (below_regrown W d os))))
      clear hz1 hz2
      generalize nodeB nd next = b1 at K1 HSA
      generalize dirB ns (dirV nd.path) = b2 at K3 HSA
      cases b1 with
      | false =>
        have HV := Lib.hid (tree_bad hlt (by rw [HSA.out]; rfl))
        go_wp2
        refine wp_region_quiet_below (by kernel_rfl) (by kernel_rfl) ?_
        repeat (go_big_quiet_step (first | exact K1.out _ _ | exact K2.out _ _ | exact K3.out _ _))
        refine wpQuiet_nil ?_
        intro w6 hw6
        obtain ⟨r, rfl⟩ := hw6
        go_wp2
        go_ret
        exact ⟨ret_bool (by rw [HV.out]), HB0.out.trans ((HAL.out.trans ((below_regrown W r.d r.os).mono (by have := HAL.out.size; simpa using this))).mono (by omega))⟩
      | true =>
        cases b2 with
        | false =>
          have HV := Lib.hid (tree_bad hlt (by rw [HSA.out]; rfl))
          go_wp2
          refine wp_region_quiet_below (by kernel_rfl) (by kernel_rfl) ?_
          repeat (go_big_quiet_step (first | exact K1.out _ _ | exact K2.out _ _ | exact K3.out _ _))
          refine wpQuiet_nil ?_
          intro w6 hw6
          obtain ⟨r, rfl⟩ := hw6
          go_wp2
          go_ret
          exact ⟨ret_bool (by rw [HV.out]), HB0.out.trans ((HAL.out.trans ((below_regrown W r.d r.os).mono (by have := HAL.out.size; simpa using this))).mono (by omega))⟩
        | true =>
          by_cases hk0 : k = 0
          · have hk0i : decide (0 < k) = false := by simp; omega
            have HL := Lib.hid (show lessAt ns k nd.path = true by unfold lessAt; rw [if_pos hk0])
            rw [HL.out] at HSA
            clear hk0
            go_wp2
            refine wp_region_quiet_below (by kernel_rfl) (by kernel_rfl) ?_
            repeat (go_big_quiet_step (first | exact K1.out _ _ | exact K2.out _ _ | exact K3.out _ _))
            refine wpQuiet_nil ?_
            intro w6 hw6
            obtain ⟨r, rfl⟩ := hw6
            have HAR := Lib.hid (HAL.out.trans ((below_regrown W r.d r.os).mono (by have := HAL.out.size; simpa using this)))
            have HBR := Lib.hid (BKT.out.on (below_regrown W r.d r.os))
            have HBN := Lib.hid (BKN.out.on (below_regrown W r.d r.os))
            have HCR := Lib.hid (show ∀ i (hi : i < ns.length), NdAt (Sort.grow (redrawn W r.d) r.os) g (i * 6) ns[i] from fun i hi => ((HCC.out i hi).on hg (hal)).on (Nat.lt_of_lt_of_le hg hal.size) (below_regrown W r.d r.os))
            generalize Sort.grow (redrawn W r.d) r.os = WR at HAR HBR HBN HCR ⊢
            clear f0 f1 f2 f3 f4 f5 t0 t1 hW hal
            go_wp2
            go_loopw [5] (fun q V => ∃ j n : Nat, j ≤ k ∧ q = .int .i64 j ∧ (∀ i (hi : i < ns.length), i < j → ns[i].id ≠ nd.id) ∧ V = WR.drewN n) (fun q _ => k - (intOf q).toNat)
            case atStart => exact ⟨0, 0, Nat.zero_le _, rfl, fun i _ hi => by omega, rfl⟩
            case round =>
              obtain ⟨j, m, hj, rfl, hno, rfl⟩ := hrel
              have HNO := Lib.hid hno
              clear hno
              by_cases hjk : j < k
              · have hjki : (j : Int) < (k : Int) := by omega
                have hjl : j < ns.length := by omega
                have hjli : (j : Int) < (ns.length : Int) := by omega
                have e4 := (HCR.out j hjl).c4
                have f4 := HBN.out.cell 4
                have t0 := HBR.out.cell 0
                simp at f4 t0
                have hidj := Lib.hid (show ns[j].id = ns[j].id from rfl)
                obtain ⟨u, hu⟩ : ∃ u, ns[j].id = u := ⟨_, rfl⟩
                rw [hu] at e4
                have HU := Lib.hid hu
                clear hu
                by_cases he : u = nd.id
                · have hei : (u == nd.id) = true := by simpa using he
                  have HV := Lib.hid (tree_bad hlt (by rw [HSA.out, free_f hjl hjk (by rw [HU.out, he])]; simp))
                  clear he
                  go_wp2
                  go_quiet (fail)
                  go_wp2
                  go_ret
                  exact ⟨ret_bool (by rw [HV.out]), HB0.out.trans (below_drewN (below_drewN (HAR.out.mono (Nat.le_succ _)) _) _)⟩
                · have hei : (u == nd.id) = false := by simpa using he
                  have HE := Lib.hid he
                  clear he
                  go_wp2
                  go_quiet (fail)
                  go_wp2
                  go_roundw
                  case rel => exact ⟨j + 1, _, by omega, by go_num, fun i hi hij => by
                    by_cases e : i = j
                    · subst e; rw [HU.out]; exact HE.out
                    · exact HNO.out i hi (by omega), rfl⟩
                  case measure => simp [intOf]; omega
              · have hjki : ¬ (j : Int) < (k : Int) := by omega
                have HS := Lib.hid (show stepB ns next k = true by rw [HSA.out, free_t (Nat.le_of_lt hlt) (fun i hi hij => HNO.out i hi (by omega))]; rfl)
                go_wp2
                go_roundw
                case rel => exact ⟨k + 1, by omega, by go_num, fun i hi hik => by
                  by_cases e : i = k
                  · subst e; exact HS.out
                  · exact HST.out i hi (by omega), below_drewN HAR.out _⟩
                case measure => simp [intOf]; omega
          · have hk0i : decide (0 < k) = true := by simp; omega
            have hkl : k - 1 < ns.length := by omega
            have hpd := ((HCC.out (k - 1) hkl).on hg hal)
            obtain ⟨pd, hpd2⟩ : ∃ pd, ns[k - 1] = pd := ⟨_, rfl⟩
            have hzp := (HZ.out ns[k - 1] (List.getElem_mem hkl)).1
            have HL := Lib.hid (lessAt_pos (by omega) hkl nd.path)
            rw [hpd2] at hpd hzp HL
            have hgW : g < W.heap.size := Nat.lt_of_lt_of_le hg hal.size
            have p0 := fun d os => ((hpd.on hgW (below_regrown W d os))).c0
            have hw1 : IntKind.i64.wrap ((k : Int) - 1) = (k : Int) - 1 := Go.IntWalk.i64_in _ (by omega)
            have hw2 : ((k : Int) - 1).toNat = k - 1 := by omega
            have hw3 : 0 ≤ (k : Int) - 1 := by omega
            have hw4 : (k : Int) - 1 < (ns.length : Int) := by omega
            have K4 := Lib.hid (show ∀ d os, Calls Tryz.prog 65 #[.string (strOf pd.path), .string (strOf nd.path)] (Sort.grow (redrawn W d) os) fun e w'' => e = .returned (.bool (lessB pd.path nd.path)) ∧ ∃ p : Regrown, w'' = Sort.grow (redrawn W p.d) p.os from fun d os => Calls.regrown_of (specBeforeB pd.path nd.path _ hzp (by have := (HZ.out ns[k] (List.getElem_mem hlt)).1; rw [HND.out] at this; exact this)))
            rw [HL.out] at HSA
            clear hpd hpd2 hzp hk0
            generalize lessB pd.path nd.path = b3 at K4 HSA
            cases b3 with
            | false =>
              have HV := Lib.hid (tree_bad hlt (by rw [HSA.out]; rfl))
              go_wp2
              refine wp_region_quiet_below (by kernel_rfl) (by kernel_rfl) ?_
              repeat (go_big_quiet_step (first | exact K1.out _ _ | exact K2.out _ _ | exact K3.out _ _ | exact K4.out _ _))
              refine wpQuiet_nil ?_
              intro w6 hw6
              obtain ⟨r, rfl⟩ := hw6
              go_wp2
              go_ret
              exact ⟨ret_bool (by rw [HV.out]), HB0.out.trans ((HAL.out.trans ((below_regrown W r.d r.os).mono (by have := HAL.out.size; simpa using this))).mono (by omega))⟩
            | true =>
              go_wp2
              refine wp_region_quiet_below (by kernel_rfl) (by kernel_rfl) ?_
              repeat (go_big_quiet_step (first | exact K1.out _ _ | exact K2.out _ _ | exact K3.out _ _ | exact K4.out _ _))
              refine wpQuiet_nil ?_
              intro w6 hw6
              obtain ⟨r, rfl⟩ := hw6
              have HAR := Lib.hid (HAL.out.trans ((below_regrown W r.d r.os).mono (by have := HAL.out.size; simpa using this)))
              have HBR := Lib.hid (BKT.out.on (below_regrown W r.d r.os))
              have HBN := Lib.hid (BKN.out.on (below_regrown W r.d r.os))
              have HCR := Lib.hid (show ∀ i (hi : i < ns.length), NdAt (Sort.grow (redrawn W r.d) r.os) g (i * 6) ns[i] from fun i hi => ((HCC.out i hi).on hg (hal)).on (Nat.lt_of_lt_of_le hg hal.size) (below_regrown W r.d r.os))
              generalize Sort.grow (redrawn W r.d) r.os = WR at HAR HBR HBN HCR ⊢
              clear f0 f1 f2 f3 f4 f5 t0 t1 hW hal
              go_wp2
              go_loopw [5] (fun q V => ∃ j n : Nat, j ≤ k ∧ q = .int .i64 j ∧ (∀ i (hi : i < ns.length), i < j → ns[i].id ≠ nd.id) ∧ V = WR.drewN n) (fun q _ => k - (intOf q).toNat)
              case atStart => exact ⟨0, 0, Nat.zero_le _, rfl, fun i _ hi => by omega, rfl⟩
              case round =>
                obtain ⟨j, m, hj, rfl, hno, rfl⟩ := hrel
                have HNO := Lib.hid hno
                clear hno
                by_cases hjk : j < k
                · have hjki : (j : Int) < (k : Int) := by omega
                  have hjl : j < ns.length := by omega
                  have hjli : (j : Int) < (ns.length : Int) := by omega
                  have e4 := (HCR.out j hjl).c4
                  have f4 := HBN.out.cell 4
                  have t0 := HBR.out.cell 0
                  simp at f4 t0
                  have hidj := Lib.hid (show ns[j].id = ns[j].id from rfl)
                  obtain ⟨u, hu⟩ : ∃ u, ns[j].id = u := ⟨_, rfl⟩
                  rw [hu] at e4
                  have HU := Lib.hid hu
                  clear hu
                  by_cases he : u = nd.id
                  · have hei : (u == nd.id) = true := by simpa using he
                    have HV := Lib.hid (tree_bad hlt (by rw [HSA.out, free_f hjl hjk (by rw [HU.out, he])]; simp))
                    clear he
                    go_wp2
                    go_quiet (fail)
                    go_wp2
                    go_ret
                    exact ⟨ret_bool (by rw [HV.out]), HB0.out.trans (below_drewN (below_drewN (HAR.out.mono (Nat.le_succ _)) _) _)⟩
                  · have hei : (u == nd.id) = false := by simpa using he
                    have HE := Lib.hid he
                    clear he
                    go_wp2
                    go_quiet (fail)
                    go_wp2
                    go_roundw
                    case rel => exact ⟨j + 1, _, by omega, by go_num, fun i hi hij => by
                      by_cases e : i = j
                      · subst e; rw [HU.out]; exact HE.out
                      · exact HNO.out i hi (by omega), rfl⟩
                    case measure => simp [intOf]; omega
                · have hjki : ¬ (j : Int) < (k : Int) := by omega
                  have HS := Lib.hid (show stepB ns next k = true by rw [HSA.out, free_t (Nat.le_of_lt hlt) (fun i hi hij => HNO.out i hi (by omega))]; rfl)
                  go_wp2
                  go_roundw
                  case rel => exact ⟨k + 1, by omega, by go_num, fun i hi hik => by
                    by_cases e : i = k
                    · subst e; exact HS.out
                    · exact HST.out i hi (by omega), below_drewN HAR.out _⟩
                  case measure => simp [intOf]; omega
end Go.Proofs.YtipedabppgbfcaaGreatDoor
