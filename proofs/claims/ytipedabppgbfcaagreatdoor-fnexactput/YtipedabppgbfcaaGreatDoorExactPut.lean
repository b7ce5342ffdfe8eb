/- Proved: laws.FnExactPut answers true at every disk and op: impl's function answers as spec's does, in memory of its own, and the argument reads as before. The listed tables of the standard library are tied to the program's text, and are not read; the card speaks of the pruned copy of the project that the seat holds. -/
import Derived.Test.YtipedabppgbfcaaGreatDoorK41
import Derived.Test.YtipedabppgbfcaaGreatDoorSpecPutD
import Derived.Test.YtipedabppgbfcaaGreatDoorDiskTrees2
import Derived.Test.YtipedabppgbfcaaGreatDoorK44
import Derived.Test.YtipedabppgbfcaaGreatDoorK46
import Derived.Test.YtipedabppgbfcaaGreatDoorK45
import Derived.Deep.DeepCutAuto
import Derived.Deep.RegionHeld
set_option linter.all false
namespace Go.Proofs.YtipedabppgbfcaaGreatDoor
open Go.RowKit
theorem putd_len (d : Kv) (o : Ov) : (putV d o).1.s.ns.length ≤ 60 ∧ (putV d o).1.os.length ≤ 301 := by
  unfold putV
  split
  · rename_i h
    have hd := Disk.of h
    unfold putR
    split
    · exact ⟨hd.right.len, by have := hd.len; show d.os.length ≤ 301; omega⟩
    · split
      · exact ⟨hd.live.len, Nat.zero_le _⟩
      · split
        · exact ⟨hd.right.len, by have := hd.len; show d.os.length ≤ 301; omega⟩
        · exact ⟨hd.right.len, by have := hd.len; show (d.os ++ [o]).length ≤ 301; simp; omega⟩
  · exact ⟨Nat.zero_le _, Nat.zero_le _⟩

set_option maxRecDepth 100000 in
set_option maxHeartbeats 32000000 in
theorem walkExactPut (a : Option Addr) (len cap : Nat) (ns : List Nd) (next : Int) (ob : Option Addr) (ol oc : Nat) (os : List Ov) (o : Ov) (w : World) (h : NIn w a len cap ns) (ho : OpR.NIn w ob ol oc os) (hw : o.Wf) :
    Calls Tryz.prog 13 #[.agg #[.slice a len cap, .int .i64 next, .slice ob ol oc], .agg #[.int .i64 o.kind, .string (strOf o.path), .string (strOf o.dest), .string (strOf o.data), .int .i64 o.mode, .int .i64 o.time]] w fun e w' => e = .returned (.bool true) ∧ Below w.heap.size w w' := by
  have H00 := Lib.hid h
  have O00 := Lib.hid ho
  have hlen := h.len
  have holen := ho.len
  obtain ⟨wa, hwa⟩ : ∃ W, w.alloc (.cells #[.slice a len cap, .int .i64 next, .slice ob ol oc] 71) = W := ⟨_, rfl⟩
  have hsa : wa.heap.size = w.heap.size + 1 := by rw [← hwa]; simp
  have ba : Below w.heap.size w wa := by rw [← hwa]; exact (Below.refl _ _).alloc (Nat.le_refl _) _
  have HX := Lib.hid (show Blk wa w.heap.size #[.slice a len cap, .int .i64 next, .slice ob ol oc] 71 by rw [← hwa]; exact Blk.new _ _ _)
  obtain ⟨wo, hwo⟩ : ∃ W, wa.alloc (.cells #[.int .i64 o.kind, .string (strOf o.path), .string (strOf o.dest), .string (strOf o.data), .int .i64 o.mode, .int .i64 o.time] 57) = W := ⟨_, rfl⟩
  have hso : wo.heap.size = w.heap.size + 2 := by rw [← hwo]; simp [hsa]
  have bo : Below wa.heap.size wa wo := by rw [← hwo]; exact (Below.refl _ _).alloc (Nat.le_refl _) _
  have HXO := Lib.hid (show Blk wo (w.heap.size + 1) #[.int .i64 o.kind, .string (strOf o.path), .string (strOf o.dest), .string (strOf o.data), .int .i64 o.mode, .int .i64 o.time] 57 by rw [← hwo, ← hsa]; exact Blk.new _ _ _)
  have HBA := Lib.hid (ba.trans (bo.mono ba.size))
  have CZ := szDisk wo a len cap ns next ob ol oc os (h.on HBA.out) (ho.on HBA.out)
  have K := Lib.hid (show ∀ V, Below wo.heap.size wo V → V.cell? ⟨w.heap.size, 0, none⟩ = some (.slice a len cap) ∧ V.cell? ⟨w.heap.size, 1, none⟩ = some (.int .i64 next) ∧ V.cell? ⟨w.heap.size, 2, none⟩ = some (.slice ob ol oc) from fun V hb => by
    have hx := (HX.out.on bo).on hb
    exact ⟨hx.cell 0, hx.cell 1, hx.cell 2⟩)
  obtain ⟨t0, t1, t2⟩ := K.out _ (Below.refl _ _)
  have KO := Lib.hid (show ∀ V, Below wo.heap.size wo V → V.cell? ⟨w.heap.size + 1, 0, none⟩ = some (.int .i64 o.kind) ∧ V.cell? ⟨w.heap.size + 1, 1, none⟩ = some (.string (strOf o.path)) ∧ V.cell? ⟨w.heap.size + 1, 2, none⟩ = some (.string (strOf o.dest)) ∧ V.cell? ⟨w.heap.size + 1, 3, none⟩ = some (.string (strOf o.data)) ∧ V.cell? ⟨w.heap.size + 1, 4, none⟩ = some (.int .i64 o.mode) ∧ V.cell? ⟨w.heap.size + 1, 5, none⟩ = some (.int .i64 o.time) from fun V hb => by
    have hx := HXO.out.on hb
    exact ⟨hx.cell 0, hx.cell 1, hx.cell 2, hx.cell 3, hx.cell 4, hx.cell 5⟩)
  obtain ⟨p0, p1, p2, p3, p4, p5⟩ := KO.out _ (Below.refl _ _)
  have CZO := fun (left : Int) W h0 h1 => szOp o hw left W h0 h1
  clear h ho ba bo
  by_cases hz : ((bulkN ns + OpR.bulkO os : Nat) : Int) ≤ 1048576
  rotate_left
  · rw [leftV_out hz] at CZ
    go_enter Tryz.func13, Tryz.ntmps13
    go_wp2_with (go_at_call 48; refine CZ.mono ?_; rintro e W1 ⟨rfl, hb1⟩)
    go_ret
    exact ⟨rfl, HBA.out.trans (hb1.mono HBA.out.size)⟩
  rw [leftV_in hz] at CZ
  have hz2 : ¬ (1048576 : Int) - ((bulkN ns + OpR.bulkO os : Nat) : Int) < 0 := by omega
  have hll : len ≤ 1048576 := by unfold bulkN at hz; omega
  have hol : ol ≤ 1048576 := by unfold OpR.bulkO at hz; omega
  have hnl : ns.length ≤ 1048576 := by omega
  have hos : os.length ≤ 1048576 := by omega
  have HSZ := Lib.hid (show ∀ n ∈ ns, n.path.length ≤ 2000000 ∧ n.data.length ≤ 2000000 from fun n hn => by have := szNs_mem hn; unfold bulkN at hz; unfold szN at this; omega)
  have HSO := Lib.hid (show ∀ o ∈ os, o.path.length ≤ 2000000 ∧ o.dest.length ≤ 2000000 ∧ o.data.length ≤ 2000000 from fun n hn => by have := OpR.szOs_mem hn; unfold OpR.bulkO at hz; unfold szO at this; omega)
  have CO := Lib.hid (fun W => szOp o hw (1048576 - ((bulkN ns + OpR.bulkO os : Nat) : Int)) W (by omega) (by omega))
  have hz9 := hz
  obtain ⟨L, hL⟩ : ∃ L : Int, (1048576 : Int) - ((bulkN ns + OpR.bulkO os : Nat) : Int) = L := ⟨_, rfl⟩
  rw [hL] at CZ hz2 CO
  clear CZO
  by_cases hy : (szO o : Int) ≤ L
  rotate_left
  · rw [leftV_out hy] at CO
    clear hz hz9 hL
    go_enter Tryz.func13, Tryz.ntmps13
    go_wp2_with (first
      | (go_at_call 48; refine CZ.mono ?_; rintro e W1 ⟨rfl, hb1⟩; (have HB1 := Lib.hid hb1); clear hb1 CZ t0 t1 t2 p0 p1 p2 p3 p4 p5; (obtain ⟨p0, p1, p2, p3, p4, p5⟩ := KO.out _ HB1.out))
      | (go_at_call 38; refine (CO.out _).mono ?_; rintro e W2 ⟨rfl, hb2⟩))
    go_ret
    exact ⟨rfl, HBA.out.trans ((HB1.out.trans (hb2.mono HB1.out.size)).mono (by omega))⟩
  rw [leftV_in hy] at CO
  have hy2 : ¬ L - szO o < 0 := by omega
  have hsz : o.path.length ≤ 2000000 ∧ o.dest.length ≤ 2000000 ∧ o.data.length ≤ 2000000 := by unfold szO at hy; omega
  obtain ⟨L2, hL2⟩ : ∃ L2 : Int, L - szO o = L2 := ⟨_, rfl⟩
  rw [hL2] at CO hy2
  clear hz hz9 hL hy hL2
  have CT := Lib.hid (fun W (hb : Below wo.heap.size wo W) => toDiskB W a len cap ns next ob ol oc os (H00.out.on (HBA.out.trans (hb.mono (by omega)))) (O00.out.on (HBA.out.trans (hb.mono (by omega)))) hll hol)
  have CS := Lib.hid (fun W B v g c (h : DRow W B v (.slice (some ⟨g, 0, none⟩) os.length c) ns os) => specDPut W B v ns next os g c h hnl (by omega) HSZ.out HSO.out o hsz.1 hsz.2.1 hsz.2.2)
  have CI := Lib.hid (fun W v u (h : NRd W v ns) (ho : OpR.NRd W u os) => implPut W v u ns next os h ho (by omega) HSZ.out HSO.out o hsz.1 hsz.2.1 hsz.2.2)
  obtain ⟨hr1, hr2⟩ := putd_len ⟨⟨ns, next⟩, os⟩ o
  generalize putV ⟨⟨ns, next⟩, os⟩ o = r at CS CI hr1 hr2
  obtain ⟨⟨⟨rns, rnx⟩, ros⟩, code⟩ := r
  simp only at CS CI hr1 hr2
  clear hlen holen hw
  go_enter Tryz.func13, Tryz.ntmps13
  go_wp2_with (first
    | (go_at_call 48; refine CZ.mono ?_; rintro e W1 ⟨rfl, hb1⟩; (have HB1 := Lib.hid hb1); clear hb1 CZ t0 t1 t2 p0 p1 p2 p3 p4 p5; (obtain ⟨p0, p1, p2, p3, p4, p5⟩ := KO.out _ HB1.out))
    | (go_at_call 38; refine (CO.out _).mono ?_; rintro e W2 ⟨rfl, hb2⟩; (have HB2 := Lib.hid (HB1.out.trans (hb2.mono HB1.out.size))); clear hb2 CO p0 p1 p2 p3 p4 p5))
  have hs2 := HB2.out.size
  have KK2 := Lib.hid (show ∀ V, Below W2.heap.size W2 V → (V.cell? ⟨w.heap.size, 0, none⟩ = some (.slice a len cap) ∧ V.cell? ⟨w.heap.size, 1, none⟩ = some (.int .i64 next) ∧ V.cell? ⟨w.heap.size, 2, none⟩ = some (.slice ob ol oc)) ∧ V.cell? ⟨w.heap.size + 1, 0, none⟩ = some (.int .i64 o.kind) ∧ V.cell? ⟨w.heap.size + 1, 1, none⟩ = some (.string (strOf o.path)) ∧ V.cell? ⟨w.heap.size + 1, 2, none⟩ = some (.string (strOf o.dest)) ∧ V.cell? ⟨w.heap.size + 1, 3, none⟩ = some (.string (strOf o.data)) ∧ V.cell? ⟨w.heap.size + 1, 4, none⟩ = some (.int .i64 o.mode) ∧ V.cell? ⟨w.heap.size + 1, 5, none⟩ = some (.int .i64 o.time) from fun V hb => ⟨K.out V (HB2.out.trans (hb.mono hs2)), KO.out V (HB2.out.trans (hb.mono hs2))⟩)
  go_cut [6, 7] (fun c6 c7 V => ∃ (b : Nat) (v u : Value), c6 = .pointer (some ⟨b, 0, none⟩) ∧ c7 = .int .i64 code ∧ Blk V b #[v, .int .i64 rnx, u] 44 ∧ DRd V v u rns ros ∧ Below W2.heap.size W2 V)
  case first =>
    go_region_held (fun V => (V.cell? ⟨w.heap.size, 0, none⟩ = some (.slice a len cap) ∧ V.cell? ⟨w.heap.size, 1, none⟩ = some (.int .i64 next) ∧ V.cell? ⟨w.heap.size, 2, none⟩ = some (.slice ob ol oc)) ∧ V.cell? ⟨w.heap.size + 1, 0, none⟩ = some (.int .i64 o.kind) ∧ V.cell? ⟨w.heap.size + 1, 1, none⟩ = some (.string (strOf o.path)) ∧ V.cell? ⟨w.heap.size + 1, 2, none⟩ = some (.string (strOf o.dest)) ∧ V.cell? ⟨w.heap.size + 1, 3, none⟩ = some (.string (strOf o.data)) ∧ V.cell? ⟨w.heap.size + 1, 4, none⟩ = some (.int .i64 o.mode) ∧ V.cell? ⟨w.heap.size + 1, 5, none⟩ = some (.int .i64 o.time)) (first | exact KK2.out _ HBc.out | exact KK2.out _ HBb.out | exact KK2.out _ HBa.out | exact KK2.out _ (Below.refl _ _).drew | exact KK2.out _ (HBc.out.alloc HBc.out.size _) | exact KK2.out _ (HBb.out.alloc HBb.out.size _) | exact KK2.out _ (HBa.out.alloc HBa.out.size _) | exact KK2.out _ (((Below.refl _ _).drew).alloc (Nat.le_refl _) _) | exact KK2.out _ (((HBc.out.setCell (p := ⟨_, 0, none⟩) (by first | exact Nat.le_refl _ | exact HBa.out.size | exact HBb.out.size) _).setCell (p := ⟨_, 1, none⟩) (by first | exact Nat.le_refl _ | exact HBa.out.size | exact HBb.out.size) _).setCell (p := ⟨_, 2, none⟩) (by first | exact Nat.le_refl _ | exact HBa.out.size | exact HBb.out.size) _)) (first
      | (go_at_call 49; refine (CT.out _ (HB2.out.trans (show Below wo.heap.size W2 _ by first | exact ((Below.refl _ _).drew).mono hs2 | exact (((Below.refl W2.heap.size W2).drew).alloc (Nat.le_refl _) _).mono hs2))).mono ?_; rintro e Wa ⟨va, ga, ca, rfl, hNa, hOa, hba⟩; (have HBa := Lib.hid (show Below W2.heap.size W2 Wa by first | exact ((Below.refl _ _).drew).trans hba | exact (((Below.refl _ _).drew).alloc (Nat.le_refl _) _).trans (hba.mono (by simp)))); (have HRa := Lib.hid (DRow.mk hNa hOa)); (first | (have HXa := Lib.hid ((Blk.new W2.drew #[.slice none 0 0, .int .i64 0, .slice none 0 0] 44).on hba)) | skip); clear hba hNa hOa)
      | (go_at_call 40; refine (toOp o _).mono ?_; rintro e Wb ⟨rfl, hbb⟩; (have hbx : Below Wa.heap.size Wa Wb := by first | exact hbb | exact ((Below.refl _ _).alloc (Nat.le_refl _) _).trans (hbb.mono (by simp))); (have HBb := Lib.hid (HBa.out.trans (hbx.mono HBa.out.size))); (have HRb := Lib.hid (HRa.out.on hbx)); (first | (have HXb := Lib.hid (HXa.out.on hbb)) | (have HXb := Lib.hid ((Blk.new Wa #[.slice none 0 0, .int .i64 0, .slice none 0 0] 44).on hbb)) | skip); clear hbb hbx)
      | (go_at_call 29; refine (CS.out _ _ va ga ca (by first | exact HRb.out | exact HRb.out.on ((Below.refl _ _).alloc (Nat.le_refl _) _))).mono ?_; rintro e Wc ⟨vc, uc, rfl, hRc, hbc⟩; (obtain ⟨a5, k5, b5, l5, rfl, rfl⟩ := hRc.form); (have HBc := Lib.hid (show Below W2.heap.size W2 Wc by first | exact HBb.out.trans (hbc.mono HBb.out.size) | exact (HBb.out.alloc HBb.out.size _).trans (hbc.mono (by have := HBb.out.size; simp; omega)))); (have HRc := Lib.hid hRc); (first | (have HXc := Lib.hid (HXb.out.on hbc)) | (have HXc := Lib.hid ((Blk.new Wb #[.slice none 0 0, .int .i64 0, .slice none 0 0] 44).on hbc)) | skip); (try (have g0 := HXc.out.cell 0; have g1 := HXc.out.cell 1; have g2 := HXc.out.cell 2; have q0 := HXc.out.frozen 0; have q1 := HXc.out.frozen 1; have q2 := HXc.out.frozen 2; simp at g0 g1 g2; try simp at q0; try simp at q1; try simp at q2)); clear hbc hRc))
    all_goals
      go_wp2
      go_meet
      first
        | exact ⟨_, _, _, rfl, rfl, Blk.new _ _ _, HRc.out.on ((Below.refl _ _).alloc (Nat.le_refl _) _), HBc.out.alloc HBc.out.size _⟩
        | exact ⟨_, _, _, rfl, rfl, ((HXc.out.set 0 _).set 1 _).set 2 _, ⟨HRc.out.ns.past3 HXc.out _ _ _, op_past3 HRc.out.os HXc.out _ _ _⟩, ((HBc.out.setCell (p := ⟨_, 0, none⟩) (by first | exact Nat.le_refl _ | exact HBa.out.size | exact HBb.out.size) _).setCell (p := ⟨_, 1, none⟩) (by first | exact Nat.le_refl _ | exact HBa.out.size | exact HBb.out.size) _).setCell (p := ⟨_, 2, none⟩) (by first | exact Nat.le_refl _ | exact HBa.out.size | exact HBb.out.size) _⟩
  case rest =>
    obtain ⟨bw, v5, u5, rfl, rfl, hW0, hS0, hb0⟩ := hcut
    obtain ⟨a5, k5, b5, l5, rfl, rfl⟩ := hS0.form
    have HW6 := Lib.hid hW0
    have HS6 := Lib.hid hS0
    have HBA6 := Lib.hid (HB2.out.trans (hb0.mono hs2))
    clear hW0 hS0 hb0
    generalize wc = W6 at *
    obtain ⟨t0, t1, t2⟩ := K.out _ HBA6.out
    go_wp2_with fail
    refine (CT.out _ HBA6.out).mono ?_
    rintro e W7 ⟨v7, g7, c7, rfl, hv7, hu7, hb7⟩
    have hR7 := (DRow.mk hv7 hu7)
    obtain ⟨a7, k7, rfl⟩ := hv7.shape
    have HR7 := Lib.hid hR7
    have HRL7 := Lib.hid (fun k (hk : Value.ownBlock (.slice a7 ns.length k7) = some k ∨ Value.ownBlock (.slice (some ⟨g7, 0, none⟩) os.length c7) = some k) => HR7.out.lt k hk)
    have hs67 := hb7.size
    have HB67 := Lib.hid hb7
    clear hb7 hR7 hv7 hu7 t0 t1 t2
    obtain ⟨W8, hW8⟩ : ∃ W, W7.alloc (.cells #[.slice a7 ns.length k7, .int .i64 next, .slice (some ⟨g7, 0, none⟩) os.length c7] 44) = W := ⟨_, rfl⟩
    have b8 : Below W7.heap.size W7 W8 := by rw [← hW8]; exact (Below.refl _ _).alloc (Nat.le_refl _) _
    have hs78 : W7.heap.size < W8.heap.size := by rw [← hW8]; simp
    have HX8 := Lib.hid (show Blk W8 W7.heap.size #[.slice a7 ns.length k7, .int .i64 next, .slice (some ⟨g7, 0, none⟩) os.length c7] 44 by rw [← hW8]; exact Blk.new _ _ _)
    have HR8 := Lib.hid (HR7.out.on b8)
    have HB68 := Lib.hid (HB67.out.trans (b8.mono hs67))
    have KK8 := Lib.hid (show ∀ V, Below W8.heap.size W8 V → (V.cell? ⟨W7.heap.size, 0, none⟩ = some (.slice a7 ns.length k7) ∧ V.cell? ⟨W7.heap.size, 1, none⟩ = some (.int .i64 next) ∧ V.cell? ⟨W7.heap.size, 2, none⟩ = some (.slice (some ⟨g7, 0, none⟩) os.length c7)) ∧ V.cell? ⟨w.heap.size + 1, 0, none⟩ = some (.int .i64 o.kind) ∧ V.cell? ⟨w.heap.size + 1, 1, none⟩ = some (.string (strOf o.path)) ∧ V.cell? ⟨w.heap.size + 1, 2, none⟩ = some (.string (strOf o.dest)) ∧ V.cell? ⟨w.heap.size + 1, 3, none⟩ = some (.string (strOf o.data)) ∧ V.cell? ⟨w.heap.size + 1, 4, none⟩ = some (.int .i64 o.mode) ∧ V.cell? ⟨w.heap.size + 1, 5, none⟩ = some (.int .i64 o.time) from fun V hb => by
      have hx := HX8.out.on hb
      exact ⟨⟨hx.cell 0, hx.cell 1, hx.cell 2⟩, KO.out V (HBA6.out.trans ((HB68.out.trans (hb.mono HB68.out.size)).mono HBA6.out.size))⟩)
    clear b8
    go_wp2_with fail
    go_cut [9, 10] (fun c9 c10 V => ∃ (b : Nat) (v u : Value), c9 = .pointer (some ⟨b, 0, none⟩) ∧ c10 = .int .i64 code ∧ W8.heap.size ≤ b ∧ Blk V b #[v, .int .i64 rnx, u] 44 ∧ DRow V W8.heap.size v u rns ros ∧ Below W8.heap.size W8 V)
    case first =>
      go_region_held (fun V => (V.cell? ⟨W7.heap.size, 0, none⟩ = some (.slice a7 ns.length k7) ∧ V.cell? ⟨W7.heap.size, 1, none⟩ = some (.int .i64 next) ∧ V.cell? ⟨W7.heap.size, 2, none⟩ = some (.slice (some ⟨g7, 0, none⟩) os.length c7)) ∧ V.cell? ⟨w.heap.size + 1, 0, none⟩ = some (.int .i64 o.kind) ∧ V.cell? ⟨w.heap.size + 1, 1, none⟩ = some (.string (strOf o.path)) ∧ V.cell? ⟨w.heap.size + 1, 2, none⟩ = some (.string (strOf o.dest)) ∧ V.cell? ⟨w.heap.size + 1, 3, none⟩ = some (.string (strOf o.data)) ∧ V.cell? ⟨w.heap.size + 1, 4, none⟩ = some (.int .i64 o.mode) ∧ V.cell? ⟨w.heap.size + 1, 5, none⟩ = some (.int .i64 o.time)) (first | exact KK8.out _ HBb.out | exact KK8.out _ HBa.out | exact KK8.out _ (Below.refl _ _).drew | exact KK8.out _ (HBb.out.alloc HBb.out.size _) | exact KK8.out _ (HBa.out.alloc HBa.out.size _) | exact KK8.out _ (((Below.refl _ _).drew).alloc (Nat.le_refl _) _) | exact KK8.out _ (((HBb.out.setCell (p := ⟨_, 0, none⟩) (by first | exact Nat.le_refl _ | exact HBa.out.size) _).setCell (p := ⟨_, 1, none⟩) (by first | exact Nat.le_refl _ | exact HBa.out.size) _).setCell (p := ⟨_, 2, none⟩) (by first | exact Nat.le_refl _ | exact HBa.out.size) _)) (first
        | (go_at_call 40; refine (toOp o _).mono ?_; rintro e Wa ⟨rfl, hba⟩; (have HBa := Lib.hid (show Below W8.heap.size W8 Wa by first | exact ((Below.refl _ _).drew).trans hba | exact (((Below.refl _ _).drew).alloc (Nat.le_refl _) _).trans (hba.mono (by simp)))); (first | (have HXa := Lib.hid ((Blk.new W8.drew #[.slice none 0 0, .int .i64 0, .slice none 0 0] 44).on hba)) | skip); clear hba)
        | (go_at_call 28; refine (CI.out _ _ _ (by first | exact HR8.out.ns.rd.on HBa.out | exact HR8.out.ns.rd.on (HBa.out.alloc HBa.out.size _)) (by first | exact HR8.out.os.rd.on HBa.out | exact HR8.out.os.rd.on (HBa.out.alloc HBa.out.size _))).mono ?_; rintro e Wb ⟨v9, u9, rfl, hR9, hbb⟩; (obtain ⟨a9, k9, b9, l9, rfl, rfl⟩ := hR9.form); (have HBb := Lib.hid (show Below W8.heap.size W8 Wb by first | exact HBa.out.trans (hbb.mono HBa.out.size) | exact (HBa.out.alloc HBa.out.size _).trans (hbb.mono (by have := HBa.out.size; simp; omega)))); (have HR9 := Lib.hid hR9); (first | (have HXb := Lib.hid (HXa.out.on hbb)) | (have HXb := Lib.hid ((Blk.new Wa #[.slice none 0 0, .int .i64 0, .slice none 0 0] 44).on hbb)) | skip); (try (have g0 := HXb.out.cell 0; have g1 := HXb.out.cell 1; have g2 := HXb.out.cell 2; have q0 := HXb.out.frozen 0; have q1 := HXb.out.frozen 1; have q2 := HXb.out.frozen 2; simp at g0 g1 g2; try simp at q0; try simp at q1; try simp at q2)); clear hbb hR9))
      all_goals
        go_wp2
        go_meet
        first
          | exact ⟨_, _, _, rfl, rfl, HBb.out.size, Blk.new _ _ _, (HR9.out.on ((Below.refl _ _).alloc (Nat.le_refl _) _)).base HBa.out.size, HBb.out.alloc HBb.out.size _⟩
          | exact ⟨_, _, _, rfl, rfl, HBa.out.size, ((HXb.out.set 0 _).set 1 _).set 2 _, (((HR9.out.other _ _ (by show Wa.heap.size < _; simp)).other _ _ (by show Wa.heap.size < _; simp)).other _ _ (by show Wa.heap.size < _; simp)).base (by have := HBa.out.size; simp; omega), ((HBb.out.setCell (p := ⟨_, 0, none⟩) HBa.out.size _).setCell (p := ⟨_, 1, none⟩) HBa.out.size _).setCell (p := ⟨_, 2, none⟩) HBa.out.size _⟩
          | exact ⟨_, _, _, rfl, rfl, Nat.le_refl _, ((HXb.out.set 0 _).set 1 _).set 2 _, (((HR9.out.other _ _ (by show W8.heap.size < Wa.heap.size; have := HXa.out.lt; simpa using this)).other _ _ (by show W8.heap.size < Wa.heap.size; have := HXa.out.lt; simpa using this)).other _ _ (by show W8.heap.size < Wa.heap.size; have := HXa.out.lt; simpa using this)).base HBa.out.size, ((HBb.out.setCell (p := ⟨_, 0, none⟩) (Nat.le_refl _) _).setCell (p := ⟨_, 1, none⟩) (Nat.le_refl _) _).setCell (p := ⟨_, 2, none⟩) (Nat.le_refl _) _⟩
    case rest =>
      obtain ⟨gb, v9, u9, rfl, rfl, hgb, hG9, hR9, hbv⟩ := hcut
      obtain ⟨a9, k9, b9, l9, rfl, rfl⟩ := hR9.form
      have HG10 := Lib.hid hG9
      have HR10 := Lib.hid hR9
      have HB810 := Lib.hid hbv
      have HRL9 := Lib.hid (fun k (hk : Value.ownBlock (.slice a9 rns.length k9) = some k ∨ Value.ownBlock (.slice b9 ros.length l9) = some k) => HR10.out.lt k hk)
      have hs810 := hbv.size
      clear hG9 hR9 hbv
      generalize wc = W10 at *
      have HB610 := Lib.hid (HB68.out.trans (HB810.out.mono HB68.out.size))
      (have g0 := HG10.out.cell 0); (have g1 := HG10.out.cell 1); (have g2 := HG10.out.cell 2); simp at g0 g1 g2
      (have w0 := (HW6.out.on HB610.out).cell 0); (have w1 := (HW6.out.on HB610.out).cell 1); (have w2 := (HW6.out.on HB610.out).cell 2); simp at w0 w1 w2
      have CE := Lib.hid (fun V (hb : Below W10.heap.size W10 V) => eqDisk V (.slice a9 rns.length k9) (.slice a5 rns.length k5) (.slice b9 ros.length l9) (.slice b5 ros.length l5) rnx rns ros (HR10.out.rd.on hb).ns ((HS6.out.on HB610.out).on hb).ns (HR10.out.rd.on hb).os ((HS6.out.on HB610.out).on hb).os)
      go_wp2_with (go_at_call 50; refine (CE.out _ (by first | exact Below.refl _ _ | exact (Below.refl _ _).drew)).mono ?_; rintro e W11 ⟨rfl, hb11⟩)
      have HB811 := Lib.hid (show Below W8.heap.size W8 W11 by first | exact HB810.out.trans (hb11.mono HB810.out.size) | exact HB810.out.drew.trans (hb11.mono HB810.out.size))
      have hb11' : Below W10.heap.size W10 W11 := by first | exact hb11 | exact (Below.refl _ _).drew.trans hb11
      have HG11 := Lib.hid (HG10.out.on hb11')
      have HR11 := Lib.hid (HR10.out.on hb11')
      have hs811 := HB811.out.size
      have hs1011 := hb11'.size
      have HB611 := Lib.hid (HB68.out.trans (HB811.out.mono HB68.out.size))
      have K11 := Lib.hid (show ∀ V, Below W11.heap.size W11 V → V.cell? ⟨W7.heap.size, 0, none⟩ = some (.slice a7 ns.length k7) ∧ V.cell? ⟨W7.heap.size, 1, none⟩ = some (.int .i64 next) ∧ V.cell? ⟨W7.heap.size, 2, none⟩ = some (.slice (some ⟨g7, 0, none⟩) os.length c7) ∧ V.cell? ⟨w.heap.size, 0, none⟩ = some (.slice a len cap) ∧ V.cell? ⟨w.heap.size, 1, none⟩ = some (.int .i64 next) ∧ V.cell? ⟨w.heap.size, 2, none⟩ = some (.slice ob ol oc) from fun V hb => by
        have hx := (HX8.out.on HB811.out).on hb
        obtain ⟨y0, y1, y2⟩ := K.out V (HBA6.out.trans ((HB611.out.trans (hb.mono HB611.out.size)).mono HBA6.out.size))
        exact ⟨hx.cell 0, hx.cell 1, hx.cell 2, y0, y1, y2⟩)
      obtain ⟨x0, x1, x2, t0, t1, t2⟩ := K11.out _ (Below.refl _ _)
      clear hb11 hb11' g0 g1 g2 w0 w1 w2 CE
      go_wp2_with fail
      go_cut [56] (fun t V => t = .bool false ∧ Below W11.heap.size W11 V)
      case first =>
        go_region_held (fun V => V.cell? ⟨W7.heap.size, 0, none⟩ = some (.slice a7 ns.length k7) ∧ V.cell? ⟨W7.heap.size, 1, none⟩ = some (.int .i64 next) ∧ V.cell? ⟨W7.heap.size, 2, none⟩ = some (.slice (some ⟨g7, 0, none⟩) os.length c7) ∧ V.cell? ⟨w.heap.size, 0, none⟩ = some (.slice a len cap) ∧ V.cell? ⟨w.heap.size, 1, none⟩ = some (.int .i64 next) ∧ V.cell? ⟨w.heap.size, 2, none⟩ = some (.slice ob ol oc)) (first | exact K11.out _ HBb.out | exact K11.out _ HBa.out | exact K11.out _ ((Below.refl _ _).drew)) (first
          | (go_at_call 49; refine (CT.out _ (HBA6.out.trans ((HB611.out.drew).mono HBA6.out.size))).mono ?_; rintro e Wa ⟨va, ga, ca, rfl, hva, hua, hba⟩; (have HBa := Lib.hid (show Below W11.heap.size W11 Wa from ((Below.refl _ _).drew).trans hba)); (have HRa := Lib.hid (DRow.mk hva hua)); clear hba hva hua)
          | (go_at_call 50; refine (eqDisk _ _ _ _ _ next ns os (HR8.out.rd.on (HB811.out.trans (HBa.out.mono hs811))).ns HRa.out.rd.ns (HR8.out.rd.on (HB811.out.trans (HBa.out.mono hs811))).os HRa.out.rd.os).mono ?_; rintro e Wb ⟨rfl, hbb⟩; (have HBb := Lib.hid (HBa.out.trans (hbb.mono HBa.out.size))); clear hbb))
        all_goals
          go_wp2
          go_meet
          exact ⟨rfl, HBb.out⟩
      case rest =>
        obtain ⟨rfl, hb11⟩ := hcut
        have HB8c := Lib.hid (HB811.out.trans (hb11.mono hs811))
        have HB6c := Lib.hid (HB68.out.trans (HB8c.out.mono HB68.out.size))
        have HGc := Lib.hid (HG11.out.on hb11)
        have HRc := Lib.hid (HR11.out.on hb11)
        clear hb11 x0 x1 x2 t0 t1 t2 K11 HG10 HR10 HG11 HR11
        generalize wc = W11 at *
        have HG11 := HGc
        have HR11 := HRc
        (have x0 := (HX8.out.on HB8c.out).cell 0); (have x1 := (HX8.out.on HB8c.out).cell 1); (have x2 := (HX8.out.on HB8c.out).cell 2); simp at x0 x1 x2
        have hs11 := HB8c.out.size
        have CM := markDisk W11 _ _ _ ns next os (by omega) (by omega) (HR8.out.on HB8c.out)
        go_wp2_with fail
        refine CM.mono ?_
        rintro e W12 ⟨rfl, _, hg12⟩
        have HT12 := Lib.hid (show Two W11 W12 (Value.ownBlock (.slice a7 ns.length k7)) (Value.ownBlock (.slice (some ⟨g7, 0, none⟩) os.length c7)) from hg12)
        have hs12 := HT12.out.size
        have HB612 := Lib.hid (show Below W6.heap.size W6 W12 from HB6c.out.trans (HT12.out.under (fun k hk => (HRL7.out k hk).1) HB6c.out.size))
        have HG12 := Lib.hid (HT12.out.box HG11.out (fun k hk => (HRL7.out k hk).2) (by omega))
        have HR12 := Lib.hid (show DRow W12 W8.heap.size (.slice a9 rns.length k9) (.slice b9 ros.length l9) rns ros from HT12.out.drow HR11.out (fun k hk => (HRL7.out k hk).2) (Nat.le_of_lt hs78))
        have hk12 : ¬ 1 + 6 * (ns.length : Int) + 6 * (os.length : Int) < 0 := by omega
        (have g0 := HG12.out.cell 0); (have g1 := HG12.out.cell 1); (have g2 := HG12.out.cell 2); simp at g0 g1 g2
        (have w0 := (HW6.out.on HB612.out).cell 0); (have w1 := (HW6.out.on HB612.out).cell 1); (have w2 := (HW6.out.on HB612.out).cell 2); simp at w0 w1 w2
        have CE := Lib.hid (fun V (hb : Below W12.heap.size W12 V) => eqDisk V (.slice a9 rns.length k9) (.slice a5 rns.length k5) (.slice b9 ros.length l9) (.slice b5 ros.length l5) rnx rns ros (HR12.out.rd.on hb).ns ((HS6.out.on HB612.out).on hb).ns (HR12.out.rd.on hb).os ((HS6.out.on HB612.out).on hb).os)
        clear hg12 CM x0 x1 x2
        go_wp2_with (go_at_call 50; refine (CE.out _ (by first | exact Below.refl _ _ | exact (Below.refl _ _).drew)).mono ?_; rintro e W13 ⟨rfl, hb13⟩; (have hb13' : Below W12.heap.size W12 W13 := by first | exact hb13 | exact (Below.refl _ _).drew.trans hb13); (have HB613 := Lib.hid (HB612.out.trans (hb13'.mono HB612.out.size))); (have HG13 := Lib.hid (HG12.out.on hb13')); (have HR13 := Lib.hid (HR12.out.on hb13')); (have hs13 := hb13'.size); clear hb13 hb13' g0 g1 g2 w0 w1 w2 CE; (have g0 := HG13.out.cell 0); (have g1 := HG13.out.cell 1); (have g2 := HG13.out.cell 2); simp at g0 g1 g2)
        refine (markDisk W13 _ _ _ rns rnx ros (by omega) (by omega) HR13.out).mono ?_
        rintro e W14 ⟨rfl, hM14, hg14⟩
        have HT14 := Lib.hid (show Two W13 W14 (Value.ownBlock (.slice a9 rns.length k9)) (Value.ownBlock (.slice b9 ros.length l9)) from hg14)
        have hs14 := HT14.out.size
        have hs68 := HB68.out.size
        have HB614 := Lib.hid (show Below W6.heap.size W6 W14 from HB613.out.trans ((HT14.out.under (fun k hk => (HRL9.out k hk).1) (by omega)).mono (by omega)))
        have HG14 := Lib.hid (HT14.out.blk HG13.out (own_not HR13.out.ns.own HG13.out (by decide)) (own_not HR13.out.os.own HG13.out (by decide)))
        have HM14 := Lib.hid (show DRd W14 (.slice a9 rns.length k9) (.slice b9 ros.length l9) (marksN 1 rns.length) (OpR.marksO (1 + 6 * rns.length) ros.length) from hM14.rd)
        have hk14 : ¬ 1 + 6 * (rns.length : Int) + 6 * (ros.length : Int) < 0 := by omega
        clear hM14 hg14 g0 g1 g2
        (have g0 := HG14.out.cell 0); (have g1 := HG14.out.cell 1); (have g2 := HG14.out.cell 2); simp at g0 g1 g2
        go_wp2_with fail
        refine (heldDisk W14 _ _ rns.length ros.length rnx (by omega) (by omega) HM14.out.ns HM14.out.os).mono ?_
        rintro e W15 ⟨rfl, hb15⟩
        have HB615 := Lib.hid (HB614.out.trans (hb15.mono HB614.out.size))
        have HG15 := Lib.hid (HG14.out.on hb15)
        have HM15 := Lib.hid (HM14.out.on hb15)
        clear hb15 g0 g1 g2
        have HBA15 := Lib.hid (HBA6.out.trans (HB615.out.mono HBA6.out.size))
        have hsA15 := HBA15.out.size
        have KK15 := Lib.hid (show ∀ V, Below W15.heap.size W15 V → (V.cell? ⟨w.heap.size, 0, none⟩ = some (.slice a len cap) ∧ V.cell? ⟨w.heap.size, 1, none⟩ = some (.int .i64 next) ∧ V.cell? ⟨w.heap.size, 2, none⟩ = some (.slice ob ol oc)) ∧ V.cell? ⟨w.heap.size + 1, 0, none⟩ = some (.int .i64 o.kind) ∧ V.cell? ⟨w.heap.size + 1, 1, none⟩ = some (.string (strOf o.path)) ∧ V.cell? ⟨w.heap.size + 1, 2, none⟩ = some (.string (strOf o.dest)) ∧ V.cell? ⟨w.heap.size + 1, 3, none⟩ = some (.string (strOf o.data)) ∧ V.cell? ⟨w.heap.size + 1, 4, none⟩ = some (.int .i64 o.mode) ∧ V.cell? ⟨w.heap.size + 1, 5, none⟩ = some (.int .i64 o.time) from fun V hb => ⟨K.out V (HBA15.out.trans (hb.mono hsA15)), KO.out V (HBA15.out.trans (hb.mono hsA15))⟩)
        go_wp2_with fail
        go_cut [14, 15] (fun c14 c15 V => ∃ (b : Nat) (v u : Value), c14 = .pointer (some ⟨b, 0, none⟩) ∧ c15 = .int .i64 code ∧ Blk V b #[v, .int .i64 rnx, u] 44 ∧ DRd V v u rns ros ∧ Below W15.heap.size W15 V)
        case first =>
          go_region_held (fun V => (V.cell? ⟨w.heap.size, 0, none⟩ = some (.slice a len cap) ∧ V.cell? ⟨w.heap.size, 1, none⟩ = some (.int .i64 next) ∧ V.cell? ⟨w.heap.size, 2, none⟩ = some (.slice ob ol oc)) ∧ V.cell? ⟨w.heap.size + 1, 0, none⟩ = some (.int .i64 o.kind) ∧ V.cell? ⟨w.heap.size + 1, 1, none⟩ = some (.string (strOf o.path)) ∧ V.cell? ⟨w.heap.size + 1, 2, none⟩ = some (.string (strOf o.dest)) ∧ V.cell? ⟨w.heap.size + 1, 3, none⟩ = some (.string (strOf o.data)) ∧ V.cell? ⟨w.heap.size + 1, 4, none⟩ = some (.int .i64 o.mode) ∧ V.cell? ⟨w.heap.size + 1, 5, none⟩ = some (.int .i64 o.time)) (first | exact KK15.out _ HBc.out | exact KK15.out _ HBb.out | exact KK15.out _ HBa.out | exact KK15.out _ (Below.refl _ _).drew | exact KK15.out _ (HBc.out.alloc HBc.out.size _) | exact KK15.out _ (HBb.out.alloc HBb.out.size _) | exact KK15.out _ (HBa.out.alloc HBa.out.size _) | exact KK15.out _ (((Below.refl _ _).drew).alloc (Nat.le_refl _) _) | exact KK15.out _ (((HBc.out.setCell (p := ⟨_, 0, none⟩) (by first | exact Nat.le_refl _ | exact HBa.out.size | exact HBb.out.size) _).setCell (p := ⟨_, 1, none⟩) (by first | exact Nat.le_refl _ | exact HBa.out.size | exact HBb.out.size) _).setCell (p := ⟨_, 2, none⟩) (by first | exact Nat.le_refl _ | exact HBa.out.size | exact HBb.out.size) _)) (first
            | (go_at_call 49; refine (CT.out _ (HBA15.out.trans (show Below wo.heap.size W15 _ by first | exact ((Below.refl _ _).drew).mono hsA15 | exact (((Below.refl W15.heap.size W15).drew).alloc (Nat.le_refl _) _).mono hsA15))).mono ?_; rintro e Wa ⟨va, ga, ca, rfl, hNa, hOa, hba⟩; (have HBa := Lib.hid (show Below W15.heap.size W15 Wa by first | exact ((Below.refl _ _).drew).trans hba | exact (((Below.refl _ _).drew).alloc (Nat.le_refl _) _).trans (hba.mono (by simp)))); (have HRa := Lib.hid (DRow.mk hNa hOa)); (first | (have HXa := Lib.hid ((Blk.new W15.drew #[.slice none 0 0, .int .i64 0, .slice none 0 0] 44).on hba)) | skip); clear hba hNa hOa)
            | (go_at_call 40; refine (toOp o _).mono ?_; rintro e Wb ⟨rfl, hbb⟩; (have hbx : Below Wa.heap.size Wa Wb := by first | exact hbb | exact ((Below.refl _ _).alloc (Nat.le_refl _) _).trans (hbb.mono (by simp))); (have HBb := Lib.hid (HBa.out.trans (hbx.mono HBa.out.size))); (have HRb := Lib.hid (HRa.out.on hbx)); (first | (have HXb := Lib.hid (HXa.out.on hbb)) | (have HXb := Lib.hid ((Blk.new Wa #[.slice none 0 0, .int .i64 0, .slice none 0 0] 44).on hbb)) | skip); clear hbb hbx)
            | (go_at_call 28; refine (CI.out _ _ _ (by first | exact HRb.out.ns.rd | exact (HRb.out.on ((Below.refl _ _).alloc (Nat.le_refl _) _)).ns.rd) (by first | exact HRb.out.os.rd | exact (HRb.out.on ((Below.refl _ _).alloc (Nat.le_refl _) _)).os.rd)).mono ?_; rintro e Wc ⟨vc, uc, rfl, hRc0, hbc⟩; (have hRc := hRc0.rd); clear hRc0; (obtain ⟨a5, k5, b5, l5, rfl, rfl⟩ := hRc.form); (have HBc := Lib.hid (show Below W15.heap.size W15 Wc by first | exact HBb.out.trans (hbc.mono HBb.out.size) | exact (HBb.out.alloc HBb.out.size _).trans (hbc.mono (by have := HBb.out.size; simp; omega)))); (have HRc := Lib.hid hRc); (first | (have HXc := Lib.hid (HXb.out.on hbc)) | (have HXc := Lib.hid ((Blk.new Wb #[.slice none 0 0, .int .i64 0, .slice none 0 0] 44).on hbc)) | skip); (try (have g0 := HXc.out.cell 0; have g1 := HXc.out.cell 1; have g2 := HXc.out.cell 2; have q0 := HXc.out.frozen 0; have q1 := HXc.out.frozen 1; have q2 := HXc.out.frozen 2; simp at g0 g1 g2; try simp at q0; try simp at q1; try simp at q2)); clear hbc hRc))
          all_goals
            go_wp2
            go_meet
            first
              | exact ⟨_, _, _, rfl, rfl, Blk.new _ _ _, HRc.out.on ((Below.refl _ _).alloc (Nat.le_refl _) _), HBc.out.alloc HBc.out.size _⟩
              | exact ⟨_, _, _, rfl, rfl, ((HXc.out.set 0 _).set 1 _).set 2 _, ⟨HRc.out.ns.past3 HXc.out _ _ _, op_past3 HRc.out.os HXc.out _ _ _⟩, ((HBc.out.setCell (p := ⟨_, 0, none⟩) (by first | exact Nat.le_refl _ | exact HBa.out.size | exact HBb.out.size) _).setCell (p := ⟨_, 1, none⟩) (by first | exact Nat.le_refl _ | exact HBa.out.size | exact HBb.out.size) _).setCell (p := ⟨_, 2, none⟩) (by first | exact Nat.le_refl _ | exact HBa.out.size | exact HBb.out.size) _⟩
        case rest =>
          obtain ⟨hbk, vh, uh, rfl, rfl, hH, hRh, hb18⟩ := hcut
          obtain ⟨ah, kh, bh, lh, rfl, rfl⟩ := hRh.form
          have HH18 := Lib.hid hH
          have HRh8 := Lib.hid hRh
          have HB618 := Lib.hid (HB615.out.trans (hb18.mono HB615.out.size))
          have HG18 := Lib.hid (HG15.out.on hb18)
          have HM18 := Lib.hid (HM15.out.on hb18)
          clear hH hRh hb18
          generalize wc = W18 at *
          (have y0 := HH18.out.cell 0); (have y1 := HH18.out.cell 1); (have y2 := HH18.out.cell 2); simp at y0 y1 y2
          (have w0 := (HW6.out.on HB618.out).cell 0); (have w1 := (HW6.out.on HB618.out).cell 1); (have w2 := (HW6.out.on HB618.out).cell 2); simp at w0 w1 w2
          have CE := Lib.hid (fun V (hb : Below W18.heap.size W18 V) => eqDisk V (.slice ah rns.length kh) (.slice a5 rns.length k5) (.slice bh ros.length lh) (.slice b5 ros.length l5) rnx rns ros (HRh8.out.on hb).ns ((HS6.out.on HB618.out).on hb).ns (HRh8.out.on hb).os ((HS6.out.on HB618.out).on hb).os)
          go_wp2_with (go_at_call 50; refine (CE.out _ (by first | exact Below.refl _ _ | exact (Below.refl _ _).drew)).mono ?_; rintro e W19 ⟨rfl, hb19⟩; (have hb19' : Below W18.heap.size W18 W19 := by first | exact hb19 | exact (Below.refl _ _).drew.trans hb19); (have HB619 := Lib.hid (HB618.out.trans (hb19'.mono HB618.out.size))); (have HG19 := Lib.hid (HG18.out.on hb19')); (have HM19 := Lib.hid (HM18.out.on hb19')); clear hb19 hb19' y0 y1 y2 w0 w1 w2 CE; (have g0 := HG19.out.cell 0); (have g1 := HG19.out.cell 1); (have g2 := HG19.out.cell 2); simp at g0 g1 g2)
          refine (heldDisk W19 _ _ rns.length ros.length rnx (by omega) (by omega) HM19.out.ns HM19.out.os).mono ?_
          rintro e W20 ⟨rfl, hb20⟩
          have HBE := Lib.hid (HBA.out.trans (((HBA6.out.trans (HB619.out.mono HBA6.out.size)).trans (hb20.mono (by have := HBA6.out.size; have := HB619.out.size; omega))).mono HBA.out.size))
          clear hb20
          go_wp2
          go_ret
          exact ⟨rfl, HBE.out⟩
end Go.Proofs.YtipedabppgbfcaaGreatDoor
