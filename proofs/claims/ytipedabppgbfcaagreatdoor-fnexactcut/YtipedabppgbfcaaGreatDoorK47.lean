/- spec.Cut at a number below 0. spec.Cut at a number of ops that there is. -/
import Derived.Test.YtipedabppgbfcaaGreatDoorK46
set_option linter.all false
namespace Go.Proofs.YtipedabppgbfcaaGreatDoor
open Go.RowKit

set_option maxRecDepth 100000 in
set_option maxHeartbeats 4000000 in
theorem specCutA (w : World) (B : Nat) (v v2 : Value) (ns : List Nd) (next : Int) (os : List Ov) (h : DRow w B v v2 ns os) (hl : ns.length ≤ 1048576) (hol : os.length ≤ 2000000) (hz : ∀ n ∈ ns, n.path.length ≤ 2000000 ∧ n.data.length ≤ 2000000) (hoz : ∀ o ∈ os, o.path.length ≤ 2000000 ∧ o.dest.length ≤ 2000000 ∧ o.data.length ≤ 2000000) (k : Int) (hd : diskB ⟨⟨ns, next⟩, os⟩ = true) (h1 : k < 0) :
    Calls Tryz.prog 36 #[.agg #[v, .int .i64 next, v2], .int .i64 k] w fun e w' => ∃ v' u, e = .returned (.agg #[v', .int .i64 (cutV ⟨⟨ns, next⟩, os⟩ k).s.next, u]) ∧ NRd w' v' (cutV ⟨⟨ns, next⟩, os⟩ k).s.ns ∧ OpR.NRd w' u (cutV ⟨⟨ns, next⟩, os⟩ k).os ∧ Below w.heap.size w w' := by
  have hk0 := row_nocap h.ns
  have H := Lib.hid h
  obtain ⟨a1, k1, rfl⟩ := h.ns.shape
  obtain ⟨a2, k2, rfl⟩ := h.os.shape
  obtain ⟨wa, hwa⟩ : ∃ W, w.alloc (.cells #[.slice a1 ns.length k1, .int .i64 next, .slice a2 os.length k2] 44) = W := ⟨_, rfl⟩
  have hsa : wa.heap.size = w.heap.size + 1 := by rw [← hwa]; simp
  have ba : Below w.heap.size w wa := by rw [← hwa]; exact (Below.refl _ _).alloc (Nat.le_refl _) _
  have HX := Lib.hid (show Blk wa w.heap.size #[.slice a1 ns.length k1, .int .i64 next, .slice a2 os.length k2] 44 by rw [← hwa]; exact Blk.new _ _ _)
  obtain ⟨wb, hwb⟩ : ∃ W, wa.alloc (.cells #[.slice none 0 0, .int .i64 0, .slice none 0 0] 44) = W := ⟨_, rfl⟩
  have hsb : wb.heap.size = w.heap.size + 2 := by rw [← hwb]; simp [hsa]
  have bb : Below wa.heap.size wa wb := by rw [← hwb]; exact (Below.refl _ _).alloc (Nat.le_refl _) _
  have HRB := Lib.hid (show Blk wb (w.heap.size + 1) #[.slice none 0 0, .int .i64 0, .slice none 0 0] 44 by rw [← hwb, ← hsa]; exact Blk.new _ _ _)
  have HB := Lib.hid (ba.trans (bb.mono ba.size))
  have K := Lib.hid (show ∀ V, Below wb.heap.size wb V → V.cell? ⟨w.heap.size, 0, none⟩ = some (.slice a1 ns.length k1) ∧ V.cell? ⟨w.heap.size, 1, none⟩ = some (.int .i64 next) ∧ V.cell? ⟨w.heap.size, 2, none⟩ = some (.slice a2 os.length k2) from fun V hb => by
    have hx := (HX.out.on bb).on hb
    exact ⟨hx.cell 0, hx.cell 1, hx.cell 2⟩)
  have CO := specDiskOk wb B _ _ ns next os (H.out.on HB.out) hl hol hz hoz
  obtain ⟨m, hm, hmn, hc⟩ := clampO k os.length
  have HTK := Lib.hid (show os.take k.toNat = os.take m by rw [hm]; exact take_clamp os k.toNat)
  have hsl := sliceO_row H.out.os hmn
  have HSL := Lib.hid hsl
  have HTL := Lib.hid (show (os.take m).length = m by rw [List.length_take]; omega)
  have CD := Lib.hid (fun W (hb : Below wb.heap.size wb W) => specDoAll W _ _ ns next (os.take m) ((H.out.ns.on HB.out).on hb).rd hk0 hl (sliceO_rd ((H.out.os.on HB.out).on hb) hmn) (by rw [HTL.out]; omega) hz (fun o ho => hoz o (List.mem_of_mem_take ho)))
  obtain ⟨t0, t1, t2⟩ := K.out _ (Below.refl _ _)
  have hoi : (os.length : Int) ≤ 2000000 := by omega
  clear h ba bb hsl
  rw [hd] at CO
  have HE := Lib.hid (show cutV ⟨⟨ns, next⟩, os⟩ k = ⟨(doAllV ⟨ns, next⟩ (os.take m)).1, []⟩ by unfold cutV; rw [if_pos hd, HTK.out, (Disk.of hd).take m])
  generalize doAllV ⟨ns, next⟩ (os.take m) = r at CD HE
  obtain ⟨⟨rns, rnx⟩, rk, code⟩ := r
  simp only at CD HE
  obtain rfl : m = 0 := by omega
  clear hd hm hc hmn
  have hll : ¬ ((os.length : Nat) : Int) < 0 := by omega
  have hs1 := fun W => HSL.out W _ (by first | exact (show (0 : Int) = ((0 : Nat) : Int) from rfl) | rfl)
  go_enter Tryz.func36, Tryz.ntmps36
  go_wp2_with (go_at_call 30; refine CO.mono ?_; rintro e W1 ⟨rfl, hb1⟩; (have HB1 := Lib.hid hb1); clear hb1 CO t0 t1 t2; (obtain ⟨t0, t1, t2⟩ := K.out _ HB1.out))
  have hbw := HB1.out.size
  have KY := fun ob => K.out (W1.drew.alloc ob) (HB1.out.drew.alloc hbw ob)
  have y0 := fun ob => (KY ob).1
  have y1 := fun ob => (KY ob).2.1
  have y2 := fun ob => (KY ob).2.2
  have KX := fun ob => K.out (W1.alloc ob) (HB1.out.alloc hbw ob)
  have x0 := fun ob => (KX ob).1
  have x1 := fun ob => (KX ob).2.1
  have x2 := fun ob => (KX ob).2.2
  clear KY KX
  go_cut [5] (fun c5 V => ∃ (b : Nat) (v' : Value), c5 = .pointer (some ⟨b, 0, none⟩) ∧ Blk V b #[v', .int .i64 rnx] 26 ∧ NRd V v' rns ∧ Below wb.heap.size wb V)
  case first =>
    go_region_with (go_at_call 26; refine (CD.out _ (by first | exact HB1.out.drew | exact HB1.out.drew.alloc hbw _)).mono ?_; rintro e Wa ⟨v5, rfl, hc5, hR5, hb5⟩; (obtain ⟨a5, k5, rfl⟩ : ∃ a c, v5 = .slice a rns.length c := by obtain ⟨a, c, h, _⟩ := hR5; exact ⟨a, c, h⟩); (have HR5 := Lib.hid hR5); (have HBa := Lib.hid (show Below wb.heap.size wb Wa by first | exact HB1.out.drew.trans (hb5.mono hbw) | exact (HB1.out.drew.alloc hbw _).trans (hb5.mono (by simp; omega)))); (first | (have HXa := Lib.hid ((Blk.new W1.drew #[.slice none 0 0, .int .i64 0] 26).on hb5)) | skip); (try (have g0 := HXa.out.cell 0; have g1 := HXa.out.cell 1; have g2 := HXa.out.frozen 0; have g3 := HXa.out.frozen 1; simp at g0 g1; try simp at g2; try simp at g3)); clear hc5 hR5 hb5)
    all_goals
      go_wp2
      go_meet
      first
        | exact ⟨_, _, rfl, Blk.new _ _ _, HR5.out.on ((Below.refl _ _).alloc (Nat.le_refl _) _), HBa.out.alloc HBa.out.size _⟩
        | exact ⟨_, _, rfl, (HXa.out.set 0 _).set 1 _, HR5.out.past HXa.out _ _, (HBa.out.setCell (p := ⟨_, 0, none⟩) hbw _).setCell (p := ⟨_, 1, none⟩) hbw _⟩
  case rest =>
    obtain ⟨b9, v9, rfl, hX9, hR9, hb9⟩ := hcut
    obtain ⟨a9, k9, rfl⟩ : ∃ a c, v9 = .slice a rns.length c := by obtain ⟨a, c, h, _⟩ := hR9; exact ⟨a, c, h⟩
    have HR9 := Lib.hid hR9
    have HRB9 := Lib.hid (HRB.out.on hb9)
    have HB9 := Lib.hid (HB.out.trans (hb9.mono HB.out.size))
    have x0 := hX9.cell 0
    have x1 := hX9.cell 1
    have r0 := HRB9.out.cell 0
    have r1 := HRB9.out.cell 1
    have r2 := HRB9.out.cell 2
    have f0 := HRB9.out.frozen 0
    have f1 := HRB9.out.frozen 1
    have f2 := HRB9.out.frozen 2
    simp at x0 x1 r0 r1 r2
    clear hX9 hR9 hb9
    generalize wc = W9 at *
    go_wp2
    refine bodyPost_ret (v := .agg #[.slice a9 rns.length k9, .int .i64 rnx, .slice none 0 0]) ?_ rfl ⟨.slice a9 rns.length k9, .slice none 0 0, by rw [HE.out], ?_, ?_, ?_⟩
    · simp [results, Tryz.results36, go_sem, r0, r1, r2]
    · rw [HE.out]; exact HR9.out.past3 HRB9.out _ _ _
    · rw [HE.out]; exact ⟨none, 0, rfl, Nat.le_refl _, Nat.zero_le _, .inl rfl⟩
    · iterate 3 (refine Below.setCell ?_ (by simp) _)
      exact HB9.out

end Go.Proofs.YtipedabppgbfcaaGreatDoor
namespace Go.Proofs.YtipedabppgbfcaaGreatDoor
open Go.RowKit

set_option maxRecDepth 100000 in
set_option maxHeartbeats 4000000 in
theorem specCutB (w : World) (B : Nat) (v v2 : Value) (ns : List Nd) (next : Int) (os : List Ov) (h : DRow w B v v2 ns os) (hl : ns.length ≤ 1048576) (hol : os.length ≤ 2000000) (hz : ∀ n ∈ ns, n.path.length ≤ 2000000 ∧ n.data.length ≤ 2000000) (hoz : ∀ o ∈ os, o.path.length ≤ 2000000 ∧ o.dest.length ≤ 2000000 ∧ o.data.length ≤ 2000000) (k : Int) (hd : diskB ⟨⟨ns, next⟩, os⟩ = true) (h1 : ¬ k < 0) (h2 : ¬ (os.length : Int) < k) :
    Calls Tryz.prog 36 #[.agg #[v, .int .i64 next, v2], .int .i64 k] w fun e w' => ∃ v' u, e = .returned (.agg #[v', .int .i64 (cutV ⟨⟨ns, next⟩, os⟩ k).s.next, u]) ∧ NRd w' v' (cutV ⟨⟨ns, next⟩, os⟩ k).s.ns ∧ OpR.NRd w' u (cutV ⟨⟨ns, next⟩, os⟩ k).os ∧ Below w.heap.size w w' := by
  have hk0 := row_nocap h.ns
  have H := Lib.hid h
  obtain ⟨a1, k1, rfl⟩ := h.ns.shape
  obtain ⟨a2, k2, rfl⟩ := h.os.shape
  obtain ⟨wa, hwa⟩ : ∃ W, w.alloc (.cells #[.slice a1 ns.length k1, .int .i64 next, .slice a2 os.length k2] 44) = W := ⟨_, rfl⟩
  have hsa : wa.heap.size = w.heap.size + 1 := by rw [← hwa]; simp
  have ba : Below w.heap.size w wa := by rw [← hwa]; exact (Below.refl _ _).alloc (Nat.le_refl _) _
  have HX := Lib.hid (show Blk wa w.heap.size #[.slice a1 ns.length k1, .int .i64 next, .slice a2 os.length k2] 44 by rw [← hwa]; exact Blk.new _ _ _)
  obtain ⟨wb, hwb⟩ : ∃ W, wa.alloc (.cells #[.slice none 0 0, .int .i64 0, .slice none 0 0] 44) = W := ⟨_, rfl⟩
  have hsb : wb.heap.size = w.heap.size + 2 := by rw [← hwb]; simp [hsa]
  have bb : Below wa.heap.size wa wb := by rw [← hwb]; exact (Below.refl _ _).alloc (Nat.le_refl _) _
  have HRB := Lib.hid (show Blk wb (w.heap.size + 1) #[.slice none 0 0, .int .i64 0, .slice none 0 0] 44 by rw [← hwb, ← hsa]; exact Blk.new _ _ _)
  have HB := Lib.hid (ba.trans (bb.mono ba.size))
  have K := Lib.hid (show ∀ V, Below wb.heap.size wb V → V.cell? ⟨w.heap.size, 0, none⟩ = some (.slice a1 ns.length k1) ∧ V.cell? ⟨w.heap.size, 1, none⟩ = some (.int .i64 next) ∧ V.cell? ⟨w.heap.size, 2, none⟩ = some (.slice a2 os.length k2) from fun V hb => by
    have hx := (HX.out.on bb).on hb
    exact ⟨hx.cell 0, hx.cell 1, hx.cell 2⟩)
  have CO := specDiskOk wb B _ _ ns next os (H.out.on HB.out) hl hol hz hoz
  obtain ⟨m, hm, hmn, hc⟩ := clampO k os.length
  have HTK := Lib.hid (show os.take k.toNat = os.take m by rw [hm]; exact take_clamp os k.toNat)
  have hsl := sliceO_row H.out.os hmn
  have HSL := Lib.hid hsl
  have HTL := Lib.hid (show (os.take m).length = m by rw [List.length_take]; omega)
  have CD := Lib.hid (fun W (hb : Below wb.heap.size wb W) => specDoAll W _ _ ns next (os.take m) ((H.out.ns.on HB.out).on hb).rd hk0 hl (sliceO_rd ((H.out.os.on HB.out).on hb) hmn) (by rw [HTL.out]; omega) hz (fun o ho => hoz o (List.mem_of_mem_take ho)))
  obtain ⟨t0, t1, t2⟩ := K.out _ (Below.refl _ _)
  have hoi : (os.length : Int) ≤ 2000000 := by omega
  clear h ba bb hsl
  rw [hd] at CO
  have HE := Lib.hid (show cutV ⟨⟨ns, next⟩, os⟩ k = ⟨(doAllV ⟨ns, next⟩ (os.take m)).1, []⟩ by unfold cutV; rw [if_pos hd, HTK.out, (Disk.of hd).take m])
  generalize doAllV ⟨ns, next⟩ (os.take m) = r at CD HE
  obtain ⟨⟨rns, rnx⟩, rk, code⟩ := r
  simp only at CD HE
  obtain rfl : k = m := by omega
  clear hd hm hc hmn
  have hll : ¬ ((os.length : Nat) : Int) < 0 := by omega
  have hs1 := fun W => HSL.out W _ (by first | exact (show (0 : Int) = ((0 : Nat) : Int) from rfl) | rfl)
  go_enter Tryz.func36, Tryz.ntmps36
  go_wp2_with (go_at_call 30; refine CO.mono ?_; rintro e W1 ⟨rfl, hb1⟩; (have HB1 := Lib.hid hb1); clear hb1 CO t0 t1 t2; (obtain ⟨t0, t1, t2⟩ := K.out _ HB1.out))
  have hbw := HB1.out.size
  have KY := fun ob => K.out (W1.drew.alloc ob) (HB1.out.drew.alloc hbw ob)
  have y0 := fun ob => (KY ob).1
  have y1 := fun ob => (KY ob).2.1
  have y2 := fun ob => (KY ob).2.2
  have KX := fun ob => K.out (W1.alloc ob) (HB1.out.alloc hbw ob)
  have x0 := fun ob => (KX ob).1
  have x1 := fun ob => (KX ob).2.1
  have x2 := fun ob => (KX ob).2.2
  clear KY KX
  go_cut [5] (fun c5 V => ∃ (b : Nat) (v' : Value), c5 = .pointer (some ⟨b, 0, none⟩) ∧ Blk V b #[v', .int .i64 rnx] 26 ∧ NRd V v' rns ∧ Below wb.heap.size wb V)
  case first =>
    go_region_with (go_at_call 26; refine (CD.out _ (by first | exact HB1.out.drew | exact HB1.out.drew.alloc hbw _)).mono ?_; rintro e Wa ⟨v5, rfl, hc5, hR5, hb5⟩; (obtain ⟨a5, k5, rfl⟩ : ∃ a c, v5 = .slice a rns.length c := by obtain ⟨a, c, h, _⟩ := hR5; exact ⟨a, c, h⟩); (have HR5 := Lib.hid hR5); (have HBa := Lib.hid (show Below wb.heap.size wb Wa by first | exact HB1.out.drew.trans (hb5.mono hbw) | exact (HB1.out.drew.alloc hbw _).trans (hb5.mono (by simp; omega)))); (first | (have HXa := Lib.hid ((Blk.new W1.drew #[.slice none 0 0, .int .i64 0] 26).on hb5)) | skip); (try (have g0 := HXa.out.cell 0; have g1 := HXa.out.cell 1; have g2 := HXa.out.frozen 0; have g3 := HXa.out.frozen 1; simp at g0 g1; try simp at g2; try simp at g3)); clear hc5 hR5 hb5)
    all_goals
      go_wp2
      go_meet
      first
        | exact ⟨_, _, rfl, Blk.new _ _ _, HR5.out.on ((Below.refl _ _).alloc (Nat.le_refl _) _), HBa.out.alloc HBa.out.size _⟩
        | exact ⟨_, _, rfl, (HXa.out.set 0 _).set 1 _, HR5.out.past HXa.out _ _, (HBa.out.setCell (p := ⟨_, 0, none⟩) hbw _).setCell (p := ⟨_, 1, none⟩) hbw _⟩
  case rest =>
    obtain ⟨b9, v9, rfl, hX9, hR9, hb9⟩ := hcut
    obtain ⟨a9, k9, rfl⟩ : ∃ a c, v9 = .slice a rns.length c := by obtain ⟨a, c, h, _⟩ := hR9; exact ⟨a, c, h⟩
    have HR9 := Lib.hid hR9
    have HRB9 := Lib.hid (HRB.out.on hb9)
    have HB9 := Lib.hid (HB.out.trans (hb9.mono HB.out.size))
    have x0 := hX9.cell 0
    have x1 := hX9.cell 1
    have r0 := HRB9.out.cell 0
    have r1 := HRB9.out.cell 1
    have r2 := HRB9.out.cell 2
    have f0 := HRB9.out.frozen 0
    have f1 := HRB9.out.frozen 1
    have f2 := HRB9.out.frozen 2
    simp at x0 x1 r0 r1 r2
    clear hX9 hR9 hb9
    generalize wc = W9 at *
    go_wp2
    refine bodyPost_ret (v := .agg #[.slice a9 rns.length k9, .int .i64 rnx, .slice none 0 0]) ?_ rfl ⟨.slice a9 rns.length k9, .slice none 0 0, by rw [HE.out], ?_, ?_, ?_⟩
    · simp [results, Tryz.results36, go_sem, r0, r1, r2]
    · rw [HE.out]; exact HR9.out.past3 HRB9.out _ _ _
    · rw [HE.out]; exact ⟨none, 0, rfl, Nat.le_refl _, Nat.zero_le _, .inl rfl⟩
    · iterate 3 (refine Below.setCell ?_ (by simp) _)
      exact HB9.out

end Go.Proofs.YtipedabppgbfcaaGreatDoor
