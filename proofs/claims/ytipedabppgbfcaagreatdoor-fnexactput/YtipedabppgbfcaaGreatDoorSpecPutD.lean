/- spec.Put. -/
import Derived.Test.YtipedabppgbfcaaGreatDoorSpecDCopy
import Derived.Test.YtipedabppgbfcaaGreatDoorK46
set_option linter.all false
namespace Go.Proofs.YtipedabppgbfcaaGreatDoor
open Go.RowKit

theorem op_past3 {w : World} {b y z y2 z2 : Nat} {x x3 : Option Addr} {u v : Value} {t : TypeId} {os : List Ov} (h : OpR.NRd w v os) (hb : Blk w b #[.slice x y z, u, .slice x3 y2 z2] t) (a1 a2 a3 : Value) : OpR.NRd (((w.setCell ⟨b, 0, none⟩ a1).setCell ⟨b, 1, none⟩ a2).setCell ⟨b, 2, none⟩ a3) v os := by
  obtain ⟨a, cap, hv, hl, hm, h⟩ := h
  refine ⟨a, cap, hv, hl, hm, ?_⟩
  rcases h with h | ⟨g, ha, hg, hc⟩
  · exact .inl h
  · by_cases hn : os = []
    · exact .inl hn
    · have hp : 0 < os.length := List.length_pos_iff.2 hn
      have hne : g ≠ b := by
        rintro rfl
        have h1 := (hc 0 hp).c0
        have h2 := hb.cell 0
        rw [Nat.zero_mul, h2] at h1
        simp at h1
      refine .inr ⟨g, ha, by simpa using hg, fun i hi => ?_⟩
      have hk : ∀ j, (((w.setCell ⟨b, 0, none⟩ a1).setCell ⟨b, 1, none⟩ a2).setCell ⟨b, 2, none⟩ a3).cell? ⟨g, j, none⟩ = w.cell? ⟨g, j, none⟩ := fun j => World.cell?_of_block ((Below.heap_setCell _ _ _ g hne).trans ((Below.heap_setCell _ _ _ g hne).trans (Below.heap_setCell _ _ _ g hne)))
      have h0 := hc i hi
      exact ⟨(hk _).trans h0.c0, (hk _).trans h0.c1, (hk _).trans h0.c2, (hk _).trans h0.c3, (hk _).trans h0.c4, (hk _).trans h0.c5⟩
theorem doV_sync {t : Tv} {o : Ov} (h : (doV t o).2 = 0) (hk : o.kind = 8) : (doV t o).1 = t := by
  unfold doV at h ⊢
  split at h <;> rename_i h1
  · rw [if_pos h1, if_pos hk]
  · exact absurd h (show ¬ (1 : Int) = 0 by decide)
set_option maxRecDepth 100000 in
set_option maxHeartbeats 4000000 in
theorem specPutBad (w : World) (B : Nat) (v : Value) (ns : List Nd) (next : Int) (os : List Ov) (g k2 : Nat) (h : DRow w B v (.slice (some ⟨g, 0, none⟩) os.length k2) ns os) (hl : ns.length ≤ 1048576) (hol : os.length ≤ 2000000) (hz : ∀ n ∈ ns, n.path.length ≤ 2000000 ∧ n.data.length ≤ 2000000) (hoz : ∀ o ∈ os, o.path.length ≤ 2000000 ∧ o.dest.length ≤ 2000000 ∧ o.data.length ≤ 2000000) (kind mode time : Int) (path dest data : List UInt8) (z1 : path.length ≤ 2000000) (z2 : dest.length ≤ 2000000) (z3 : data.length ≤ 2000000) (hd : diskB ⟨⟨ns, next⟩, os⟩ = false) :
    Calls Tryz.prog 29 #[.agg #[v, .int .i64 next, .slice (some ⟨g, 0, none⟩) os.length k2], .agg #[.int .i64 kind, .string (strOf path), .string (strOf dest), .string (strOf data), .int .i64 mode, .int .i64 time]] w fun e w' => ∃ v' u, e = .returned (.tuple #[.agg #[v', .int .i64 (putV ⟨⟨ns, next⟩, os⟩ ⟨kind, path, dest, data, mode, time⟩).1.s.next, u], .int .i64 (putV ⟨⟨ns, next⟩, os⟩ ⟨kind, path, dest, data, mode, time⟩).2]) ∧ DRd w' v' u (putV ⟨⟨ns, next⟩, os⟩ ⟨kind, path, dest, data, mode, time⟩).1.s.ns (putV ⟨⟨ns, next⟩, os⟩ ⟨kind, path, dest, data, mode, time⟩).1.os ∧ Below w.heap.size w w' := by
  have hk0 := row_nocap h.ns
  have H := Lib.hid h
  obtain ⟨a1, k1, rfl⟩ := h.ns.shape
  obtain ⟨wa, hwa⟩ : ∃ W, w.alloc (.cells #[.slice a1 ns.length k1, .int .i64 next, .slice (some ⟨g, 0, none⟩) os.length k2] 44) = W := ⟨_, rfl⟩
  have hsa : wa.heap.size = w.heap.size + 1 := by rw [← hwa]; simp
  have ba : Below w.heap.size w wa := by rw [← hwa]; exact (Below.refl _ _).alloc (Nat.le_refl _) _
  have HX0 := (show Blk wa w.heap.size #[.slice a1 ns.length k1, .int .i64 next, .slice (some ⟨g, 0, none⟩) os.length k2] 44 by rw [← hwa]; exact Blk.new _ _ _)
  obtain ⟨wo, hwo⟩ : ∃ W, wa.alloc (.cells #[.int .i64 kind, .string (strOf path), .string (strOf dest), .string (strOf data), .int .i64 mode, .int .i64 time] 28) = W := ⟨_, rfl⟩
  have hso : wo.heap.size = w.heap.size + 2 := by rw [← hwo]; simp [hsa]
  have bo : Below wa.heap.size wa wo := by rw [← hwo]; exact (Below.refl _ _).alloc (Nat.le_refl _) _
  have HO0 := (show Blk wo (w.heap.size + 1) #[.int .i64 kind, .string (strOf path), .string (strOf dest), .string (strOf data), .int .i64 mode, .int .i64 time] 28 by rw [← hwo, ← hsa]; exact Blk.new _ _ _)
  obtain ⟨wb, hwb⟩ : ∃ W, wo.alloc (.cells #[.slice none 0 0, .int .i64 0, .slice none 0 0] 44) = W := ⟨_, rfl⟩
  have hsb : wb.heap.size = w.heap.size + 3 := by rw [← hwb]; simp [hso]
  have bb : Below wo.heap.size wo wb := by rw [← hwb]; exact (Below.refl _ _).alloc (Nat.le_refl _) _
  have HRB := Lib.hid (show Blk wb (w.heap.size + 2) #[.slice none 0 0, .int .i64 0, .slice none 0 0] 44 by rw [← hwb, ← hso]; exact Blk.new _ _ _)
  have HX := Lib.hid ((HX0.on bo).on bb)
  have HO := Lib.hid (HO0.on bb)
  have HB := Lib.hid ((ba.trans (bo.mono (by omega))).trans (bb.mono (by omega)))
  have K := Lib.hid (show ∀ V, Below wb.heap.size wb V → V.cell? ⟨w.heap.size, 0, none⟩ = some (.slice a1 ns.length k1) ∧ V.cell? ⟨w.heap.size, 1, none⟩ = some (.int .i64 next) ∧ V.cell? ⟨w.heap.size, 2, none⟩ = some (.slice (some ⟨g, 0, none⟩) os.length k2) from fun V hb => by
    have hx := HX.out.on hb
    exact ⟨hx.cell 0, hx.cell 1, hx.cell 2⟩)
  have KO := Lib.hid (show ∀ V, Below wb.heap.size wb V → V.cell? ⟨w.heap.size + 1, 0, none⟩ = some (.int .i64 kind) ∧ V.cell? ⟨w.heap.size + 1, 1, none⟩ = some (.string (strOf path)) ∧ V.cell? ⟨w.heap.size + 1, 2, none⟩ = some (.string (strOf dest)) ∧ V.cell? ⟨w.heap.size + 1, 3, none⟩ = some (.string (strOf data)) ∧ V.cell? ⟨w.heap.size + 1, 4, none⟩ = some (.int .i64 mode) ∧ V.cell? ⟨w.heap.size + 1, 5, none⟩ = some (.int .i64 time) from fun V hb => by
    have hx := HO.out.on hb
    exact ⟨hx.cell 0, hx.cell 1, hx.cell 2, hx.cell 3, hx.cell 4, hx.cell 5⟩)
  have CO := specDiskOk wb B _ _ ns next os (H.out.on HB.out) hl hol hz hoz
  obtain ⟨t0, t1, t2⟩ := K.out _ (Below.refl _ _)
  clear h ba bb bo HX0 HO0
  rw [hd] at CO
  have HE := Lib.hid (show putV ⟨⟨ns, next⟩, os⟩ ⟨kind, path, dest, data, mode, time⟩ = (noDisk, 1) by unfold putV; rw [hd]; rfl)
  clear hd
  go_enter Tryz.func29, Tryz.ntmps29
  go_wp2_with (go_at_call 30; refine CO.mono ?_; rintro e W1 ⟨rfl, hb1⟩; (have HB1 := Lib.hid (HB.out.trans (hb1.mono HB.out.size))); (have r0 := (HRB.out.on hb1).cell 0); (have r1 := (HRB.out.on hb1).cell 1); (have r2 := (HRB.out.on hb1).cell 2); (have f0 := (HRB.out.on hb1).frozen 0); (have f1 := (HRB.out.on hb1).frozen 1); (have f2 := (HRB.out.on hb1).frozen 2); simp at r0 r1 r2; clear hb1)
  refine bodyPost_ret (v := .tuple #[.agg #[.slice none 0 0, .int .i64 0, .slice none 0 0], .int .i64 1]) ?_ rfl ⟨_, _, by rw [HE.out]; rfl, by rw [HE.out]; exact ⟨⟨none, 0, rfl, Nat.le_refl _, Nat.zero_le _, .inl rfl⟩, ⟨none, 0, rfl, Nat.le_refl _, Nat.zero_le _, .inl rfl⟩⟩, ?_⟩
  · simp [results, Tryz.results29, go_sem, r0, r1, r2]
  · iterate 3 (refine Below.setCell ?_ (by simp) _)
    exact HB1.out

set_option maxRecDepth 100000 in
set_option maxHeartbeats 4000000 in
theorem specPutGood (w : World) (B : Nat) (v : Value) (ns : List Nd) (next : Int) (os : List Ov) (g k2 : Nat) (h : DRow w B v (.slice (some ⟨g, 0, none⟩) os.length k2) ns os) (hl : ns.length ≤ 1048576) (hol : os.length ≤ 2000000) (hz : ∀ n ∈ ns, n.path.length ≤ 2000000 ∧ n.data.length ≤ 2000000) (hoz : ∀ o ∈ os, o.path.length ≤ 2000000 ∧ o.dest.length ≤ 2000000 ∧ o.data.length ≤ 2000000) (kind mode time : Int) (path dest data : List UInt8) (z1 : path.length ≤ 2000000) (z2 : dest.length ≤ 2000000) (z3 : data.length ≤ 2000000) (hd : diskB ⟨⟨ns, next⟩, os⟩ = true) :
    Calls Tryz.prog 29 #[.agg #[v, .int .i64 next, .slice (some ⟨g, 0, none⟩) os.length k2], .agg #[.int .i64 kind, .string (strOf path), .string (strOf dest), .string (strOf data), .int .i64 mode, .int .i64 time]] w fun e w' => ∃ v' u, e = .returned (.tuple #[.agg #[v', .int .i64 (putV ⟨⟨ns, next⟩, os⟩ ⟨kind, path, dest, data, mode, time⟩).1.s.next, u], .int .i64 (putV ⟨⟨ns, next⟩, os⟩ ⟨kind, path, dest, data, mode, time⟩).2]) ∧ DRd w' v' u (putV ⟨⟨ns, next⟩, os⟩ ⟨kind, path, dest, data, mode, time⟩).1.s.ns (putV ⟨⟨ns, next⟩, os⟩ ⟨kind, path, dest, data, mode, time⟩).1.os ∧ Below w.heap.size w w' := by
  have hk0 := row_nocap h.ns
  have H := Lib.hid h
  obtain ⟨a1, k1, rfl⟩ := h.ns.shape
  obtain ⟨wa, hwa⟩ : ∃ W, w.alloc (.cells #[.slice a1 ns.length k1, .int .i64 next, .slice (some ⟨g, 0, none⟩) os.length k2] 44) = W := ⟨_, rfl⟩
  have hsa : wa.heap.size = w.heap.size + 1 := by rw [← hwa]; simp
  have ba : Below w.heap.size w wa := by rw [← hwa]; exact (Below.refl _ _).alloc (Nat.le_refl _) _
  have HX0 := (show Blk wa w.heap.size #[.slice a1 ns.length k1, .int .i64 next, .slice (some ⟨g, 0, none⟩) os.length k2] 44 by rw [← hwa]; exact Blk.new _ _ _)
  obtain ⟨wo, hwo⟩ : ∃ W, wa.alloc (.cells #[.int .i64 kind, .string (strOf path), .string (strOf dest), .string (strOf data), .int .i64 mode, .int .i64 time] 28) = W := ⟨_, rfl⟩
  have hso : wo.heap.size = w.heap.size + 2 := by rw [← hwo]; simp [hsa]
  have bo : Below wa.heap.size wa wo := by rw [← hwo]; exact (Below.refl _ _).alloc (Nat.le_refl _) _
  have HO0 := (show Blk wo (w.heap.size + 1) #[.int .i64 kind, .string (strOf path), .string (strOf dest), .string (strOf data), .int .i64 mode, .int .i64 time] 28 by rw [← hwo, ← hsa]; exact Blk.new _ _ _)
  obtain ⟨wb, hwb⟩ : ∃ W, wo.alloc (.cells #[.slice none 0 0, .int .i64 0, .slice none 0 0] 44) = W := ⟨_, rfl⟩
  have hsb : wb.heap.size = w.heap.size + 3 := by rw [← hwb]; simp [hso]
  have bb : Below wo.heap.size wo wb := by rw [← hwb]; exact (Below.refl _ _).alloc (Nat.le_refl _) _
  have HRB := Lib.hid (show Blk wb (w.heap.size + 2) #[.slice none 0 0, .int .i64 0, .slice none 0 0] 44 by rw [← hwb, ← hso]; exact Blk.new _ _ _)
  have HX := Lib.hid ((HX0.on bo).on bb)
  have HO := Lib.hid (HO0.on bb)
  have HB := Lib.hid ((ba.trans (bo.mono (by omega))).trans (bb.mono (by omega)))
  have K := Lib.hid (show ∀ V, Below wb.heap.size wb V → V.cell? ⟨w.heap.size, 0, none⟩ = some (.slice a1 ns.length k1) ∧ V.cell? ⟨w.heap.size, 1, none⟩ = some (.int .i64 next) ∧ V.cell? ⟨w.heap.size, 2, none⟩ = some (.slice (some ⟨g, 0, none⟩) os.length k2) from fun V hb => by
    have hx := HX.out.on hb
    exact ⟨hx.cell 0, hx.cell 1, hx.cell 2⟩)
  have KO := Lib.hid (show ∀ V, Below wb.heap.size wb V → V.cell? ⟨w.heap.size + 1, 0, none⟩ = some (.int .i64 kind) ∧ V.cell? ⟨w.heap.size + 1, 1, none⟩ = some (.string (strOf path)) ∧ V.cell? ⟨w.heap.size + 1, 2, none⟩ = some (.string (strOf dest)) ∧ V.cell? ⟨w.heap.size + 1, 3, none⟩ = some (.string (strOf data)) ∧ V.cell? ⟨w.heap.size + 1, 4, none⟩ = some (.int .i64 mode) ∧ V.cell? ⟨w.heap.size + 1, 5, none⟩ = some (.int .i64 time) from fun V hb => by
    have hx := HO.out.on hb
    exact ⟨hx.cell 0, hx.cell 1, hx.cell 2, hx.cell 3, hx.cell 4, hx.cell 5⟩)
  have CO := specDiskOk wb B _ _ ns next os (H.out.on HB.out) hl hol hz hoz
  obtain ⟨t0, t1, t2⟩ := K.out _ (Below.refl _ _)
  clear h ba bb bo HX0 HO0
  rw [hd] at CO
  have HDK := Lib.hid (Disk.of hd)
  have CP := Lib.hid (fun W (hb : Below wb.heap.size wb W) => specDCopy1 W B _ ns next os g k2 ((H.out.on HB.out).on hb) hl hol)
  have CL := Lib.hid (fun W (hb : Below wb.heap.size wb W) => by
    have := specLive W B _ _ ns next os ((H.out.on HB.out).on hb) hl hol hz hoz
    rw [show liveV ⟨⟨ns, next⟩, os⟩ = runV ⟨ns, next⟩ os by unfold liveV; rw [if_pos hd]] at this
    exact this)
  have HE := Lib.hid (show putV ⟨⟨ns, next⟩, os⟩ ⟨kind, path, dest, data, mode, time⟩ = putR ⟨⟨ns, next⟩, os⟩ ⟨kind, path, dest, data, mode, time⟩ by unfold putV; rw [if_pos hd])
  obtain ⟨j0, ji, jz0, jz1, jz2⟩ := info_parts infoO
  clear hd
  go_enter Tryz.func29, Tryz.ntmps29
  go_wp2_with (go_at_call 30; refine CO.mono ?_; rintro e W1 ⟨rfl, hb1⟩; (have HB1 := Lib.hid hb1); clear hb1 CO t0 t1 t2; (obtain ⟨t0, t1, t2⟩ := K.out _ HB1.out))
  refine (CP.out _ HB1.out).mono ?_
  rintro e W2 ⟨v2, u2, rfl, hR2, hb2⟩
  obtain ⟨a2, l2, b2, m2, rfl, rfl⟩ := hR2.form
  have HB2 := Lib.hid (HB1.out.trans (hb2.mono HB1.out.size))
  have hw12 := hb2.size
  have HR2 := Lib.hid hR2
  obtain ⟨W3, hW3⟩ : ∃ W, W2.alloc (.cells #[.slice a2 ns.length l2, .int .i64 next, .slice b2 os.length m2] 44) = W := ⟨_, rfl⟩
  have b3 : Below W2.heap.size W2 W3 := by rw [← hW3]; exact (Below.refl _ _).alloc (Nat.le_refl _) _
  have HOUT := Lib.hid (show Blk W3 W2.heap.size #[.slice a2 ns.length l2, .int .i64 next, .slice b2 os.length m2] 44 by rw [← hW3]; exact Blk.new _ _ _)
  have HB3 := Lib.hid (HB2.out.trans (b3.mono HB2.out.size))
  have HR3 := Lib.hid (HR2.out.on b3)
  clear hb2 hR2 b3 t0 t1 t2
  obtain ⟨t0, t1, t2⟩ := K.out _ HB3.out
  obtain ⟨s0, s1, s2, s3, s4, s5⟩ := KO.out _ HB3.out
  have hLr : Right (runV ⟨ns, next⟩ os).ns (runV ⟨ns, next⟩ os).next := HDK.out.live
  have h60 := hLr.len
  have CDo := Lib.hid (fun W v' (h : NRd W v' (runV ⟨ns, next⟩ os).ns) hk => specDoOne W v' (runV ⟨ns, next⟩ os) ⟨kind, path, dest, data, mode, time⟩ h hk (by show (runV ⟨ns, next⟩ os).ns.length ≤ _; omega) z1 z2 z3 (fun n hn => ⟨by have := depth_short (node_path (hLr.node n hn)); omega, by have := node_data (hLr.node n hn); omega⟩))
  have HON := Lib.hid (HDK.out.one ⟨kind, path, dest, data, mode, time⟩)
  have HPR := Lib.hid (show putR ⟨⟨ns, next⟩, os⟩ ⟨kind, path, dest, data, mode, time⟩ = if (doV (runV ⟨ns, next⟩ os) ⟨kind, path, dest, data, mode, time⟩).2 ≠ 0 then (⟨⟨ns, next⟩, os⟩, (doV (runV ⟨ns, next⟩ os) ⟨kind, path, dest, data, mode, time⟩).2) else if kind = 8 then (⟨runV ⟨ns, next⟩ os, []⟩, 0) else if os.length = 300 then (⟨⟨ns, next⟩, os⟩, 5) else (⟨⟨ns, next⟩, os ++ [⟨kind, path, dest, data, mode, time⟩]⟩, 0) from rfl)
  have HSY := Lib.hid (show (doV (runV ⟨ns, next⟩ os) ⟨kind, path, dest, data, mode, time⟩).2 = 0 → kind = 8 → (doV (runV ⟨ns, next⟩ os) ⟨kind, path, dest, data, mode, time⟩).1 = runV ⟨ns, next⟩ os from fun h1 h2 => doV_sync h1 h2)
  simp only at HON
  rw [HON.out] at CDo
  generalize doV (runV ⟨ns, next⟩ os) ⟨kind, path, dest, data, mode, time⟩ = r at CDo HPR HSY
  obtain ⟨⟨rns, rnx⟩, code⟩ := r
  simp only at CDo HPR HSY
  clear hLr HON h60
  have hb3w := HB3.out.size
  have KK := Lib.hid (show ∀ V, Below W3.heap.size W3 V → (V.cell? ⟨w.heap.size, 0, none⟩ = some (.slice a1 ns.length k1) ∧ V.cell? ⟨w.heap.size, 1, none⟩ = some (.int .i64 next) ∧ V.cell? ⟨w.heap.size, 2, none⟩ = some (.slice (some ⟨g, 0, none⟩) os.length k2)) ∧ V.cell? ⟨w.heap.size + 1, 0, none⟩ = some (.int .i64 kind) ∧ V.cell? ⟨w.heap.size + 1, 1, none⟩ = some (.string (strOf path)) ∧ V.cell? ⟨w.heap.size + 1, 2, none⟩ = some (.string (strOf dest)) ∧ V.cell? ⟨w.heap.size + 1, 3, none⟩ = some (.string (strOf data)) ∧ V.cell? ⟨w.heap.size + 1, 4, none⟩ = some (.int .i64 mode) ∧ V.cell? ⟨w.heap.size + 1, 5, none⟩ = some (.int .i64 time) from fun V hb => ⟨K.out V (HB3.out.trans (hb.mono hb3w)), KO.out V (HB3.out.trans (hb.mono hb3w))⟩)
  generalize runV ⟨ns, next⟩ os = lv at CL CDo HPR HSY
  obtain ⟨lns, lnx⟩ := lv
  go_wp2_with fail
  go_cut [7, 8] (fun c7 c8 V => ∃ (b : Nat) (v' : Value), c7 = .pointer (some ⟨b, 0, none⟩) ∧ c8 = .int .i64 code ∧ Blk V b #[v', .int .i64 rnx] 26 ∧ NRd V v' rns ∧ Below W3.heap.size W3 V)
  case first =>
    go_region_held (fun V => (V.cell? ⟨w.heap.size, 0, none⟩ = some (.slice a1 ns.length k1) ∧ V.cell? ⟨w.heap.size, 1, none⟩ = some (.int .i64 next) ∧ V.cell? ⟨w.heap.size, 2, none⟩ = some (.slice (some ⟨g, 0, none⟩) os.length k2)) ∧ V.cell? ⟨w.heap.size + 1, 0, none⟩ = some (.int .i64 kind) ∧ V.cell? ⟨w.heap.size + 1, 1, none⟩ = some (.string (strOf path)) ∧ V.cell? ⟨w.heap.size + 1, 2, none⟩ = some (.string (strOf dest)) ∧ V.cell? ⟨w.heap.size + 1, 3, none⟩ = some (.string (strOf data)) ∧ V.cell? ⟨w.heap.size + 1, 4, none⟩ = some (.int .i64 mode) ∧ V.cell? ⟨w.heap.size + 1, 5, none⟩ = some (.int .i64 time)) (first | exact KK.out _ HBb.out | exact KK.out _ HBa.out | exact KK.out _ (Below.refl _ _).drew | exact KK.out _ (HBb.out.alloc HBb.out.size _) | exact KK.out _ (HBa.out.alloc HBa.out.size _) | exact KK.out _ (((Below.refl _ _).drew).alloc (Nat.le_refl _) _) | exact KK.out _ ((HBb.out.setCell (p := ⟨_, 0, none⟩) (by first | exact Nat.le_refl _ | exact HBa.out.size | exact HBb.out.size) _).setCell (p := ⟨_, 1, none⟩) (by first | exact Nat.le_refl _ | exact HBa.out.size | exact HBb.out.size) _)) (first
      | (go_at_call 55; refine (CL.out _ (HB3.out.trans (show Below wb.heap.size W3 _ by first | exact ((Below.refl _ _).drew).mono hb3w | exact (((Below.refl W3.heap.size W3).drew).alloc (Nat.le_refl _) _).mono hb3w))).mono ?_; rintro e Wa ⟨v5, rfl, hc5, hN5, hb5⟩; (obtain ⟨a5, k5, rfl⟩ : ∃ a c, v5 = .slice a lns.length c := by obtain ⟨a, c, h, _⟩ := hN5; exact ⟨a, c, h⟩); (have HBa := Lib.hid (show Below W3.heap.size W3 Wa by first | exact ((Below.refl _ _).drew).trans hb5 | exact (((Below.refl _ _).drew).alloc (Nat.le_refl _) _).trans (hb5.mono (by simp)))); (have HNa := Lib.hid (And.intro hc5 hN5)); (first | (have HXa := Lib.hid ((Blk.new W3.drew #[.slice none 0 0, .int .i64 0] 26).on hb5)) | skip); clear hc5 hN5 hb5)
      | (go_at_call 18; refine (CDo.out _ _ (by first | exact HNa.out.2 | exact HNa.out.2.on ((Below.refl _ _).alloc (Nat.le_refl _) _)) HNa.out.1).mono ?_; rintro e Wb ⟨v6, rfl, _, hN6, hb6⟩; (obtain ⟨a6, k6, rfl⟩ : ∃ a c, v6 = .slice a rns.length c := by obtain ⟨a, c, h, _⟩ := hN6; exact ⟨a, c, h⟩); (have HBb := Lib.hid (show Below W3.heap.size W3 Wb by first | exact HBa.out.trans (hb6.mono HBa.out.size) | exact (HBa.out.alloc HBa.out.size _).trans (hb6.mono (by have := HBa.out.size; simp; omega)))); (have HN6 := Lib.hid hN6); (first | (have HXb := Lib.hid (HXa.out.on hb6)) | (have HXb := Lib.hid ((Blk.new Wa #[.slice none 0 0, .int .i64 0] 26).on hb6)) | skip); (try (have g0 := HXb.out.cell 0; have g1 := HXb.out.cell 1; have g2 := HXb.out.frozen 0; have g3 := HXb.out.frozen 1; simp at g0 g1; try simp at g2; try simp at g3)); clear hN6 hb6))
    all_goals
      go_wp2
      go_meet
      first
        | exact ⟨_, _, rfl, rfl, Blk.new _ _ _, HN6.out.on ((Below.refl _ _).alloc (Nat.le_refl _) _), HBb.out.alloc HBb.out.size _⟩
        | exact ⟨_, _, rfl, rfl, (HXb.out.set 0 _).set 1 _, HN6.out.past HXb.out _ _, (HBb.out.setCell (p := ⟨_, 0, none⟩) (by first | exact Nat.le_refl _ | exact HBa.out.size) _).setCell (p := ⟨_, 1, none⟩) (by first | exact Nat.le_refl _ | exact HBa.out.size) _⟩
  case rest =>
    obtain ⟨b9, v9, rfl, rfl, hX9, hN9, hb9⟩ := hcut
    obtain ⟨a9, k9, rfl⟩ : ∃ a c, v9 = .slice a rns.length c := by obtain ⟨a, c, h, _⟩ := hN9; exact ⟨a, c, h⟩
    have HX9 := Lib.hid hX9
    have HN9 := Lib.hid hN9
    have HB9 := Lib.hid (HB3.out.trans (hb9.mono hb3w))
    have HO9 := Lib.hid (HOUT.out.on hb9)
    have HR9 := Lib.hid (HR3.out.on hb9)
    have HRB9 := Lib.hid (HRB.out.on HB9.out)
    clear hX9 hN9 hb9 t0 t1 t2 s0 s1 s2 s3 s4 s5
    generalize wc = W9 at *
    obtain ⟨t0, t1, t2⟩ := K.out _ HB9.out
    obtain ⟨s0, s1, s2, s3, s4, s5⟩ := KO.out _ HB9.out
    have e0 := HO9.out.cell 0
    have e1 := HO9.out.cell 1
    have e2 := HO9.out.cell 2
    have r0 := HRB9.out.cell 0
    have r1 := HRB9.out.cell 1
    have r2 := HRB9.out.cell 2
    have f0 := HRB9.out.frozen 0
    have f1 := HRB9.out.frozen 1
    have f2 := HRB9.out.frozen 2
    have x0 := HX9.out.cell 0
    have x1 := HX9.out.cell 1
    simp at e0 e1 e2 r0 r1 r2 x0 x1
    by_cases h0 : code = 0
    rotate_left
    · have hcb : (code != 0) = true := by simp [h0]
      have HPV := Lib.hid (show putR ⟨⟨ns, next⟩, os⟩ ⟨kind, path, dest, data, mode, time⟩ = (⟨⟨ns, next⟩, os⟩, code) by rw [HPR.out, if_pos h0])
      clear x0 x1 t0 t1 t2 s0 s1 s2 s3 s4 s5
      go_wp2_with fail
      refine bodyPost_ret (v := .tuple #[.agg #[.slice a2 ns.length l2, .int .i64 next, .slice b2 os.length m2], .int .i64 code]) ?_ rfl ⟨.slice a2 ns.length l2, .slice b2 os.length m2, by rw [HE.out, HPV.out], ?_, ?_⟩
      · simp [results, Tryz.results29, go_sem, r0, r1, r2]
      · rw [HE.out, HPV.out]; exact ⟨HR9.out.ns.rd.past3 HRB9.out _ _ _, op_past3 HR9.out.os.rd HRB9.out _ _ _⟩
      · iterate 3 (refine Below.setCell ?_ (by simp) _)
        exact HB.out.trans (HB9.out.mono HB.out.size)
    subst h0
    by_cases h8 : kind = 8
    · have hkb : (kind == 8) = true := by simp [h8]
      have HPV := Lib.hid (show putR ⟨⟨ns, next⟩, os⟩ ⟨kind, path, dest, data, mode, time⟩ = (⟨⟨lns, lnx⟩, []⟩, 0) by rw [HPR.out, if_neg (by simp), if_pos h8])
      have hsy := HSY.out rfl h8
      clear h8
      simp only [Tv.mk.injEq] at hsy
      obtain ⟨rfl, rfl⟩ := hsy
      clear e0 e1 e2 t0 t1 t2
      go_wp2_with fail
      refine bodyPost_ret (v := .tuple #[.agg #[.slice a9 rns.length k9, .int .i64 rnx, .slice none 0 0], .int .i64 0]) ?_ rfl ⟨.slice a9 rns.length k9, .slice none 0 0, by rw [HE.out, HPV.out], ?_, ?_⟩
      · simp [results, Tryz.results29, go_sem, r0, r1, r2]
      · rw [HE.out, HPV.out]; exact ⟨HN9.out.past3 HRB9.out _ _ _, ⟨none, 0, rfl, Nat.le_refl _, Nat.zero_le _, .inl rfl⟩⟩
      · iterate 3 (refine Below.setCell ?_ (by simp) _)
        exact HB.out.trans (HB9.out.mono HB.out.size)
    have hkb : (kind == 8) = false := by simp [h8]
    by_cases hfull : os.length = 300
    · have hfb : ((os.length : Int) == 300) = true := by rw [hfull]; rfl
      have HPV := Lib.hid (show putR ⟨⟨ns, next⟩, os⟩ ⟨kind, path, dest, data, mode, time⟩ = (⟨⟨ns, next⟩, os⟩, 5) by rw [HPR.out, if_neg (by simp), if_neg h8, if_pos hfull])
      have HRO := Lib.hid (op_past3 HR9.out.os.rd HRB9.out)
      clear x0 x1 hfull
      go_wp2_with fail
      refine bodyPost_ret (v := .tuple #[.agg #[.slice a2 ns.length l2, .int .i64 next, .slice b2 os.length m2], .int .i64 5]) ?_ rfl ⟨.slice a2 ns.length l2, .slice b2 os.length m2, by rw [HE.out, HPV.out], ?_, ?_⟩
      · simp [results, Tryz.results29, go_sem, r0, r1, r2]
      · rw [HE.out, HPV.out]; exact ⟨HR9.out.ns.rd.past3 HRB9.out _ _ _, op_past3 HR9.out.os.rd HRB9.out _ _ _⟩
      · iterate 3 (refine Below.setCell ?_ (by simp) _)
        exact HB.out.trans (HB9.out.mono HB.out.size)
    have hfb : ((os.length : Int) == 300) = false := by simp; omega
    have HPV := Lib.hid (show putR ⟨⟨ns, next⟩, os⟩ ⟨kind, path, dest, data, mode, time⟩ = (⟨⟨ns, next⟩, os ++ [⟨kind, path, dest, data, mode, time⟩]⟩, 0) by rw [HPR.out, if_neg (by simp), if_neg h8, if_neg hfull])
    have hw1s := HB1.out.size
    have hw29 : W2.heap.size < W9.heap.size := HO9.out.lt
    have hrl := fun k (hk : (Value.slice b2 os.length m2).ownBlock = some k) => own_lt HR9.out.os.own k hk
    have HRL := Lib.hid hrl
    have HQO := Lib.hid (fun (ob : Obj) (w1 : World) (hg : (W9.alloc ob).grownBy w1 (Value.ownBlock (.slice b2 os.length m2))) => (HO9.out.alloc ob).grown hg (own_not (HR9.out.os.own) HO9.out (by decide)))
    have HQR := Lib.hid (fun (ob : Obj) (w1 : World) (hg : (W9.alloc ob).grownBy w1 (Value.ownBlock (.slice b2 os.length m2))) => (HRB9.out.alloc ob).grown hg (own_not (HR9.out.os.own) HRB9.out (by decide)))
    have HQN := Lib.hid (fun (ob : Obj) (w1 : World) (hg : (W9.alloc ob).grownBy w1 (Value.ownBlock (.slice b2 os.length m2))) => (show NRow w1 W1.heap.size (.slice a2 ns.length l2) ns from own_apart (HR9.out.ns.own.alloc ob) hg (fun k hk e => HR9.out.apart k hk e)))
    clear x0 x1 hrl
    go_wp2_with (at_builtin; refine wpList_append_own _ rfl _ _ 38 rfl W1.heap.size 28 j0 (.agg #[.int .i64 0, .string ⟨#[]⟩, .string ⟨#[]⟩, .string ⟨#[]⟩, .int .i64 0, .int .i64 0]) 6 72 Tryz.underlying38 ji jz0 jz1 jz2 rfl (by omega) _ os.length (OpR.nodesVals os) rfl (HR9.out.os.own.alloc _) ⟨W9.heap.size, 0, none⟩ 1 1 (OpR.nodeVals ⟨kind, path, dest, data, mode, time⟩) rfl rfl (cell_op_new _ _ _) (opVals_one _) (by unfold maxLen; omega) (by omega) (by simp; omega) ?_; intro v1 w1 hown1 hgrow1 _; (obtain ⟨a6, k6, hv6⟩ := own_slice hown1); subst hv6; (have HO10 := Lib.hid (HQO.out _ _ hgrow1)); (have HR10 := Lib.hid (HQR.out _ _ hgrow1)); (have HN10 := Lib.hid (HQN.out _ _ hgrow1)); (have HOW10 := Lib.hid (OpR.NRow.snoc hown1)); (have HB10 := Lib.hid (show Below wb.heap.size wb w1 from (HB9.out.alloc HB9.out.size _).grown hgrow1 (by have := HB9.out.size; simp; omega) (fun j e => by have := (HRL.out j e).1; omega))); clear e0 e1 e2 r0 r1 r2 f0 f1 f2; (have e0 := HO10.out.cell 0); (have e1 := HO10.out.cell 1); (have e2 := HO10.out.cell 2); (have p2 := HO10.out.frozen 2); (have r0 := HR10.out.cell 0); (have r1 := HR10.out.cell 1); (have r2 := HR10.out.cell 2); (have f0 := HR10.out.frozen 0); (have f1 := HR10.out.frozen 1); (have f2 := HR10.out.frozen 2); simp at e0 e1 e2 r0 r1 r2; clear hown1 hgrow1)
    have HW11 := Lib.hid (show OpR.NRow w1 W1.heap.size (.slice a6 (os.length + 1) k6) (os ++ [⟨kind, path, dest, data, mode, time⟩]) from HOW10.out)
    have HN11 := Lib.hid (show NRow (w1.setCell ⟨W2.heap.size, 2, none⟩ (.slice a6 (os.length + 1) k6)) W1.heap.size (.slice a2 ns.length l2) ns from own_apart HN10.out.own (grownBy_sets (World.grownBy.refl _ _) ⟨W2.heap.size, 2, none⟩ _ rfl) (fun k hk e => own_not HN10.out.own HO10.out (by decide) (by rw [hk]; exact e)))
    have HO11 := Lib.hid (show OpR.NRow (w1.setCell ⟨W2.heap.size, 2, none⟩ (.slice a6 (os.length + 1) k6)) W1.heap.size (.slice a6 (os.length + 1) k6) (os ++ [⟨kind, path, dest, data, mode, time⟩]) from own_apart HW11.out.own (grownBy_sets (World.grownBy.refl _ _) ⟨W2.heap.size, 2, none⟩ _ rfl) (fun k hk e => own_not HW11.out.own HO10.out (by decide) (by rw [hk]; exact e)))
    refine bodyPost_ret (v := .tuple #[.agg #[.slice a2 ns.length l2, .int .i64 next, .slice a6 (os.length + 1) k6], .int .i64 0]) ?_ rfl ⟨.slice a2 ns.length l2, .slice a6 (os.length + 1) k6, by rw [HE.out, HPV.out], ?_, ?_⟩
    · simp [results, Tryz.results29, go_sem, e0, e1, e2, r0, r1, r2]
    · rw [HE.out, HPV.out]
      refine ⟨NRow.rd (B := W1.heap.size) ?_, OpR.NRow.rd (B := W1.heap.size) ?_⟩
      · iterate 3 (refine NRow.other ?_ _ _ (by show w.heap.size + 2 < W1.heap.size; omega))
        exact HN11.out
      · iterate 3 (refine OpR.NRow.other ?_ _ _ (by show w.heap.size + 2 < W1.heap.size; omega))
        exact HO11.out
    · iterate 3 (refine Below.setCell ?_ (by show w.heap.size ≤ w.heap.size + 2; omega) _)
      exact (HB.out.trans (HB10.out.mono HB.out.size)).setCell (by show w.heap.size ≤ W2.heap.size; omega) _
theorem specDPut (w : World) (B : Nat) (v : Value) (ns : List Nd) (next : Int) (os : List Ov) (g k2 : Nat) (h : DRow w B v (.slice (some ⟨g, 0, none⟩) os.length k2) ns os) (hl : ns.length ≤ 1048576) (hol : os.length ≤ 2000000) (hz : ∀ n ∈ ns, n.path.length ≤ 2000000 ∧ n.data.length ≤ 2000000) (hoz : ∀ o ∈ os, o.path.length ≤ 2000000 ∧ o.dest.length ≤ 2000000 ∧ o.data.length ≤ 2000000) (o : Ov) (z1 : o.path.length ≤ 2000000) (z2 : o.dest.length ≤ 2000000) (z3 : o.data.length ≤ 2000000) :
    Calls Tryz.prog 29 #[.agg #[v, .int .i64 next, .slice (some ⟨g, 0, none⟩) os.length k2], .agg #[.int .i64 o.kind, .string (strOf o.path), .string (strOf o.dest), .string (strOf o.data), .int .i64 o.mode, .int .i64 o.time]] w fun e w' => ∃ v' u, e = .returned (.tuple #[.agg #[v', .int .i64 (putV ⟨⟨ns, next⟩, os⟩ o).1.s.next, u], .int .i64 (putV ⟨⟨ns, next⟩, os⟩ o).2]) ∧ DRd w' v' u (putV ⟨⟨ns, next⟩, os⟩ o).1.s.ns (putV ⟨⟨ns, next⟩, os⟩ o).1.os ∧ Below w.heap.size w w' := by
  cases hd : diskB ⟨⟨ns, next⟩, os⟩ with
  | false => exact specPutBad w B v ns next os g k2 h hl hol hz hoz o.kind o.mode o.time o.path o.dest o.data z1 z2 z3 hd
  | true => exact specPutGood w B v ns next os g k2 h hl hol hz hoz o.kind o.mode o.time o.path o.dest o.data z1 z2 z3 hd
end Go.Proofs.YtipedabppgbfcaaGreatDoor
