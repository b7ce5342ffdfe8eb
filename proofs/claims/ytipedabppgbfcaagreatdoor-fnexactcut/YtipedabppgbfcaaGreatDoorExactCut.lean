/- Proved: laws.FnExactCut answers true at every disk and number: impl's function answers as spec's does, in memory of its own, and the argument reads as before. The listed tables of the standard library are tied to the program's text, and are not read; the card speaks of the pruned copy of the project that the seat holds. -/
import Derived.Test.YtipedabppgbfcaaGreatDoorK41
import Derived.Test.YtipedabppgbfcaaGreatDoorK48
import Derived.Test.YtipedabppgbfcaaGreatDoorK36
import Derived.Test.YtipedabppgbfcaaGreatDoorK44
import Derived.Test.YtipedabppgbfcaaGreatDoorK46
import Derived.Test.YtipedabppgbfcaaGreatDoorK45
import Derived.Deep.DeepCutAuto
import Derived.Deep.RegionHeld
set_option linter.all false
namespace Go.Proofs.YtipedabppgbfcaaGreatDoor
open Go.RowKit
theorem cut_len (d : Kv) (k : Int) : (cutV d k).s.ns.length ≤ 60 ∧ (cutV d k).os.length ≤ 300 := by
  unfold cutV
  split
  · rename_i h; exact ⟨(runV_right _ (Disk.of h).right).len, Nat.zero_le _⟩
  · exact ⟨Nat.zero_le _, Nat.zero_le _⟩

set_option maxRecDepth 100000 in
set_option maxHeartbeats 8000000 in
theorem walkExactCut (a : Option Addr) (len cap : Nat) (ns : List Nd) (next : Int) (ob : Option Addr) (ol oc : Nat) (os : List Ov) (k : Int) (w : World) (h : NIn w a len cap ns) (ho : OpR.NIn w ob ol oc os) :
    Calls Tryz.prog 14 #[.agg #[.slice a len cap, .int .i64 next, .slice ob ol oc], .int .i64 k] w fun e w' => e = .returned (.bool true) ∧ Below w.heap.size w w' := by
  have H00 := Lib.hid h
  have O00 := Lib.hid ho
  have hlen := h.len
  have holen := ho.len
  obtain ⟨wa, hwa⟩ : ∃ W, w.alloc (.cells #[.slice a len cap, .int .i64 next, .slice ob ol oc] 71) = W := ⟨_, rfl⟩
  have hsa : wa.heap.size = w.heap.size + 1 := by rw [← hwa]; simp
  have ba : Below w.heap.size w wa := by rw [← hwa]; exact (Below.refl _ _).alloc (Nat.le_refl _) _
  have HX := Lib.hid (show Blk wa w.heap.size #[.slice a len cap, .int .i64 next, .slice ob ol oc] 71 by rw [← hwa]; exact Blk.new _ _ _)
  have HBA := Lib.hid ba
  have CZ := szDisk wa a len cap ns next ob ol oc os (h.on ba) (ho.on ba)
  have K := Lib.hid (show ∀ V, Below wa.heap.size wa V → V.cell? ⟨w.heap.size, 0, none⟩ = some (.slice a len cap) ∧ V.cell? ⟨w.heap.size, 1, none⟩ = some (.int .i64 next) ∧ V.cell? ⟨w.heap.size, 2, none⟩ = some (.slice ob ol oc) from fun V hb => by
    have hx := HX.out.on hb
    exact ⟨hx.cell 0, hx.cell 1, hx.cell 2⟩)
  obtain ⟨t0, t1, t2⟩ := K.out _ (Below.refl _ _)
  clear h ho ba
  by_cases hz : ((bulkN ns + OpR.bulkO os : Nat) : Int) ≤ 1048576
  rotate_left
  · rw [leftV_out hz] at CZ
    go_enter Tryz.func14, Tryz.ntmps14
    go_wp2_with (go_at_call 48; refine CZ.mono ?_; rintro e W1 ⟨rfl, hb1⟩)
    go_ret
    exact ⟨rfl, HBA.out.trans (hb1.mono HBA.out.size)⟩
  rw [leftV_in hz] at CZ
  have hz2 : ¬ (1048576 : Int) - ((bulkN ns + OpR.bulkO os : Nat) : Int) < 0 := by omega
  have hll : len ≤ 1048576 := by unfold bulkN at hz; omega
  have hol : ol ≤ 1048576 := by unfold OpR.bulkO at hz; omega
  have hnl : ns.length ≤ 1048576 := by omega
  have hos : os.length ≤ 1048576 := by omega
  have HSZ := Lib.hid (show ∀ n ∈ ns, n.path.length ≤ 2000000 ∧ n.data.length ≤ 2000000 from fun n hn => by have := szNs_mem hn; unfold bulkN at hz; unfold szN at this; omega)
  have HSO := Lib.hid (show ∀ o ∈ os, o.path.length ≤ 2000000 ∧ o.dest.length ≤ 2000000 ∧ o.data.length ≤ 2000000 from fun n hn => by have := OpR.szOs_mem hn; unfold OpR.bulkO at hz; unfold szO at this; omega)
  obtain ⟨L, hL⟩ : ∃ L : Int, (1048576 : Int) - ((bulkN ns + OpR.bulkO os : Nat) : Int) = L := ⟨_, rfl⟩
  rw [hL] at CZ hz2
  clear hz hL
  have CT := Lib.hid (fun W (hb : Below wa.heap.size wa W) => toDisk W a len cap ns next ob ol oc os (H00.out.on (HBA.out.trans (hb.mono (by omega)))) (O00.out.on (HBA.out.trans (hb.mono (by omega)))) hll hol)
  have CS := Lib.hid (fun W B v u (h : DRow W B v u ns os) => specCut W B v u ns next os h hnl (by omega) HSZ.out HSO.out k)
  have CI := Lib.hid (fun W v u (h : NRd W v ns) (ho : OpR.NRd W u os) => implCut W v u ns next os h ho (by omega) HSZ.out HSO.out k)
  obtain ⟨hr1, hr2⟩ := cut_len ⟨⟨ns, next⟩, os⟩ k
  generalize cutV ⟨⟨ns, next⟩, os⟩ k = r at CS CI hr1 hr2
  obtain ⟨⟨rns, rnx⟩, ros⟩ := r
  simp only at CS CI hr1 hr2
  clear hlen holen
  go_enter Tryz.func14, Tryz.ntmps14
  go_wp2_with (first
    | (go_at_call 48; refine CZ.mono ?_; rintro e W1 ⟨rfl, hb1⟩; (have HB1 := Lib.hid hb1); clear hb1 CZ t0 t1 t2; (obtain ⟨t0, t1, t2⟩ := K.out _ HB1.out)))
  refine (CT.out _ HB1.out).mono ?_
  rintro e W2 ⟨v2, u2, rfl, hv2, hu2, hb2⟩
  have HB2 := Lib.hid (HB1.out.trans (hb2.mono HB1.out.size))
  have CS2 := CS.out W2 _ v2 u2 ⟨hv2, hu2⟩
  clear hv2 hu2 hb2 t0 t1 t2
  go_wp2_with fail
  refine CS2.mono ?_
  rintro e W3 ⟨v5, u5, rfl, hR5, hO5, hb3⟩
  have HB3 := Lib.hid (HB2.out.trans (hb3.mono HB2.out.size))
  obtain ⟨a5, k5, b5, l5, rfl, rfl⟩ := (DRd.mk hR5 hO5).form
  have HS5 := Lib.hid (DRd.mk hR5 hO5)
  obtain ⟨t0, t1, t2⟩ := K.out _ HB3.out
  clear hb3 CS2 hR5 hO5
  obtain ⟨W6, hW6⟩ : ∃ W, W3.alloc (.cells #[.slice a5 rns.length k5, .int .i64 rnx, .slice b5 ros.length l5] 44) = W := ⟨_, rfl⟩
  have b6 : Below W3.heap.size W3 W6 := by rw [← hW6]; exact (Below.refl _ _).alloc (Nat.le_refl _) _
  have HW6 := Lib.hid (show Blk W6 W3.heap.size #[.slice a5 rns.length k5, .int .i64 rnx, .slice b5 ros.length l5] 44 by rw [← hW6]; exact Blk.new _ _ _)
  have HS6 := Lib.hid (HS5.out.on b6)
  have HBA6 := Lib.hid (show Below wa.heap.size wa W6 from HB3.out.trans (b6.mono HB3.out.size))
  obtain ⟨t0, t1, t2⟩ := K.out _ HBA6.out
  clear b6
  go_wp2_with fail
  refine (CT.out _ HBA6.out).mono ?_
  rintro e W7 ⟨v7, u7, rfl, hv7, hu7, hb7⟩
  have hR7 := (DRow.mk hv7 hu7)
  obtain ⟨a7, k7, b7, l7, rfl, rfl⟩ := hR7.form
  have HR7 := Lib.hid hR7
  have HRL7 := Lib.hid (fun k (hk : Value.ownBlock (.slice a7 ns.length k7) = some k ∨ Value.ownBlock (.slice b7 os.length l7) = some k) => HR7.out.lt k hk)
  have hs67 := hb7.size
  have HB67 := Lib.hid hb7
  clear hb7 hR7 hv7 hu7 t0 t1 t2
  obtain ⟨W8, hW8⟩ : ∃ W, W7.alloc (.cells #[.slice a7 ns.length k7, .int .i64 next, .slice b7 os.length l7] 44) = W := ⟨_, rfl⟩
  have b8 : Below W7.heap.size W7 W8 := by rw [← hW8]; exact (Below.refl _ _).alloc (Nat.le_refl _) _
  have hs78 : W7.heap.size < W8.heap.size := by rw [← hW8]; simp
  have HX8 := Lib.hid (show Blk W8 W7.heap.size #[.slice a7 ns.length k7, .int .i64 next, .slice b7 os.length l7] 44 by rw [← hW8]; exact Blk.new _ _ _)
  have HR8 := Lib.hid (HR7.out.on b8)
  have HB68 := Lib.hid (HB67.out.trans (b8.mono hs67))
  have CI8 := CI.out W8 _ _ HR8.out.ns.rd HR8.out.os.rd
  (have x0 := HX8.out.cell 0); (have x1 := HX8.out.cell 1); (have x2 := HX8.out.cell 2); simp at x0 x1 x2
  clear b8
  go_wp2_with fail
  refine CI8.mono ?_
  rintro e W9 ⟨v9, u9, rfl, hR9, hb9⟩
  obtain ⟨a9, k9, b9, l9, rfl, rfl⟩ := hR9.form
  have HR9 := Lib.hid hR9
  have HRL9 := Lib.hid (fun k (hk : Value.ownBlock (.slice a9 rns.length k9) = some k ∨ Value.ownBlock (.slice b9 ros.length l9) = some k) => HR9.out.lt k hk)
  have hs89 := hb9.size
  have HB89 := Lib.hid hb9
  clear hb9 hR9 CI8 x0 x1 x2
  obtain ⟨W10, hW10⟩ : ∃ W, W9.alloc (.cells #[.slice a9 rns.length k9, .int .i64 rnx, .slice b9 ros.length l9] 44) = W := ⟨_, rfl⟩
  have b10 : Below W9.heap.size W9 W10 := by rw [← hW10]; exact (Below.refl _ _).alloc (Nat.le_refl _) _
  have HG10 := Lib.hid (show Blk W10 W9.heap.size #[.slice a9 rns.length k9, .int .i64 rnx, .slice b9 ros.length l9] 44 by rw [← hW10]; exact Blk.new _ _ _)
  have HR10 := Lib.hid (HR9.out.on b10)
  have HB810 := Lib.hid (HB89.out.trans (b10.mono hs89))
  have HB610 := Lib.hid (HB68.out.trans (HB810.out.mono HB68.out.size))
  have hs910 : W9.heap.size < W10.heap.size := by rw [← hW10]; simp
  (have g0 := HG10.out.cell 0); (have g1 := HG10.out.cell 1); (have g2 := HG10.out.cell 2); simp at g0 g1 g2
  (have w0 := (HW6.out.on HB610.out).cell 0); (have w1 := (HW6.out.on HB610.out).cell 1); (have w2 := (HW6.out.on HB610.out).cell 2); simp at w0 w1 w2
  have CE := Lib.hid (fun V (hb : Below W10.heap.size W10 V) => eqDisk V (.slice a9 rns.length k9) (.slice a5 rns.length k5) (.slice b9 ros.length l9) (.slice b5 ros.length l5) rnx rns ros (HR10.out.rd.on hb).ns ((HS6.out.on HB610.out).on hb).ns (HR10.out.rd.on hb).os ((HS6.out.on HB610.out).on hb).os)
  clear b10
  go_wp2_with (go_at_call 50; refine (CE.out _ (by first | exact Below.refl _ _ | exact (Below.refl _ _).drew)).mono ?_; rintro e W11 ⟨rfl, hb11⟩)
  have HB811 := Lib.hid (show Below W8.heap.size W8 W11 by first | exact HB810.out.trans (hb11.mono HB810.out.size) | exact HB810.out.drew.trans (hb11.mono HB810.out.size))
  have hb11' : Below W10.heap.size W10 W11 := by first | exact hb11 | exact (Below.refl _ _).drew.trans hb11
  have HG11 := Lib.hid (HG10.out.on hb11')
  have HR11 := Lib.hid (HR10.out.on hb11')
  have hs811 := HB811.out.size
  have hs1011 := hb11'.size
  have HB611 := Lib.hid (HB68.out.trans (HB811.out.mono HB68.out.size))
  have K11 := Lib.hid (show ∀ V, Below W11.heap.size W11 V → V.cell? ⟨W7.heap.size, 0, none⟩ = some (.slice a7 ns.length k7) ∧ V.cell? ⟨W7.heap.size, 1, none⟩ = some (.int .i64 next) ∧ V.cell? ⟨W7.heap.size, 2, none⟩ = some (.slice b7 os.length l7) ∧ V.cell? ⟨w.heap.size, 0, none⟩ = some (.slice a len cap) ∧ V.cell? ⟨w.heap.size, 1, none⟩ = some (.int .i64 next) ∧ V.cell? ⟨w.heap.size, 2, none⟩ = some (.slice ob ol oc) from fun V hb => by
    have hx := (HX8.out.on HB811.out).on hb
    obtain ⟨y0, y1, y2⟩ := K.out V (HBA6.out.trans ((HB611.out.trans (hb.mono HB611.out.size)).mono HBA6.out.size))
    exact ⟨hx.cell 0, hx.cell 1, hx.cell 2, y0, y1, y2⟩)
  obtain ⟨x0, x1, x2, t0, t1, t2⟩ := K11.out _ (Below.refl _ _)
  clear hb11 hb11' g0 g1 g2 w0 w1 w2 CE
  go_wp2_with fail
  go_cut [35] (fun t V => t = .bool false ∧ Below W11.heap.size W11 V)
  case first =>
    go_region_held (fun V => V.cell? ⟨W7.heap.size, 0, none⟩ = some (.slice a7 ns.length k7) ∧ V.cell? ⟨W7.heap.size, 1, none⟩ = some (.int .i64 next) ∧ V.cell? ⟨W7.heap.size, 2, none⟩ = some (.slice b7 os.length l7) ∧ V.cell? ⟨w.heap.size, 0, none⟩ = some (.slice a len cap) ∧ V.cell? ⟨w.heap.size, 1, none⟩ = some (.int .i64 next) ∧ V.cell? ⟨w.heap.size, 2, none⟩ = some (.slice ob ol oc)) (first | exact K11.out _ HBb.out | exact K11.out _ HBa.out | exact K11.out _ ((Below.refl _ _).drew)) (first
      | (go_at_call 49; refine (CT.out _ (HBA6.out.trans ((HB611.out.drew).mono HBA6.out.size))).mono ?_; rintro e Wa ⟨va, ua, rfl, hva, hua, hba⟩; (have HBa := Lib.hid (show Below W11.heap.size W11 Wa from ((Below.refl _ _).drew).trans hba)); (have HRa := Lib.hid (DRow.mk hva hua)); clear hba hva hua)
      | (go_at_call 50; refine (eqDisk _ _ _ _ _ next ns os (HR8.out.rd.on (HB811.out.trans (HBa.out.mono hs811))).ns HRa.out.rd.ns (HR8.out.rd.on (HB811.out.trans (HBa.out.mono hs811))).os HRa.out.rd.os).mono ?_; rintro e Wb ⟨rfl, hbb⟩; (have HBb := Lib.hid (HBa.out.trans (hbb.mono HBa.out.size))); clear hbb))
    all_goals
      go_wp2
      go_meet
      exact ⟨rfl, HBb.out⟩
  case rest =>
    obtain ⟨rfl, hb11⟩ := hcut
    have HB8c := Lib.hid (HB811.out.trans (hb11.mono hs811))
    have HB6c := Lib.hid (HB68.out.trans (HB8c.out.mono HB68.out.size))
    have HGc := Lib.hid (HG11.out.on hb11)
    have HRc := Lib.hid (HR11.out.on hb11)
    clear hb11 x0 x1 x2 t0 t1 t2 K11 HG10 HR10 HG11 HR11
    generalize wc = W11 at *
    have HG11 := HGc
    have HR11 := HRc
    (have x0 := (HX8.out.on HB8c.out).cell 0); (have x1 := (HX8.out.on HB8c.out).cell 1); (have x2 := (HX8.out.on HB8c.out).cell 2); simp at x0 x1 x2
    have hs11 := HB8c.out.size
    have CM := markDisk W11 _ _ _ ns next os (by omega) (by omega) (HR8.out.on HB8c.out)
    go_wp2_with fail
    refine CM.mono ?_
    rintro e W12 ⟨rfl, _, hg12⟩
    have HT12 := Lib.hid (show Two W11 W12 (Value.ownBlock (.slice a7 ns.length k7)) (Value.ownBlock (.slice b7 os.length l7)) from hg12)
    have hs12 := HT12.out.size
    have HB612 := Lib.hid (show Below W6.heap.size W6 W12 from HB6c.out.trans (HT12.out.under (fun k hk => (HRL7.out k hk).1) HB6c.out.size))
    have HG12 := Lib.hid (HT12.out.box HG11.out (fun k hk => (HRL7.out k hk).2) (by omega))
    have HR12 := Lib.hid (show DRow W12 W8.heap.size (.slice a9 rns.length k9) (.slice b9 ros.length l9) rns ros from HT12.out.drow HR11.out (fun k hk => (HRL7.out k hk).2) (Nat.le_of_lt hs78))
    have hk12 : ¬ 1 + 6 * (ns.length : Int) + 6 * (os.length : Int) < 0 := by omega
    (have g0 := HG12.out.cell 0); (have g1 := HG12.out.cell 1); (have g2 := HG12.out.cell 2); simp at g0 g1 g2
    (have w0 := (HW6.out.on HB612.out).cell 0); (have w1 := (HW6.out.on HB612.out).cell 1); (have w2 := (HW6.out.on HB612.out).cell 2); simp at w0 w1 w2
    have CE := Lib.hid (fun V (hb : Below W12.heap.size W12 V) => eqDisk V (.slice a9 rns.length k9) (.slice a5 rns.length k5) (.slice b9 ros.length l9) (.slice b5 ros.length l5) rnx rns ros (HR12.out.rd.on hb).ns ((HS6.out.on HB612.out).on hb).ns (HR12.out.rd.on hb).os ((HS6.out.on HB612.out).on hb).os)
    clear hg12 CM x0 x1 x2
    go_wp2_with (go_at_call 50; refine (CE.out _ (by first | exact Below.refl _ _ | exact (Below.refl _ _).drew)).mono ?_; rintro e W13 ⟨rfl, hb13⟩; (have hb13' : Below W12.heap.size W12 W13 := by first | exact hb13 | exact (Below.refl _ _).drew.trans hb13); (have HB613 := Lib.hid (HB612.out.trans (hb13'.mono HB612.out.size))); (have HG13 := Lib.hid (HG12.out.on hb13')); (have HR13 := Lib.hid (HR12.out.on hb13')); (have hs13 := hb13'.size); clear hb13 hb13' g0 g1 g2 w0 w1 w2 CE; (have g0 := HG13.out.cell 0); (have g1 := HG13.out.cell 1); (have g2 := HG13.out.cell 2); simp at g0 g1 g2)
    refine (markDisk W13 _ _ _ rns rnx ros (by omega) (by omega) HR13.out).mono ?_
    rintro e W14 ⟨rfl, hM14, hg14⟩
    have HT14 := Lib.hid (show Two W13 W14 (Value.ownBlock (.slice a9 rns.length k9)) (Value.ownBlock (.slice b9 ros.length l9)) from hg14)
    have hs14 := HT14.out.size
    have hs68 := HB68.out.size
    have HB614 := Lib.hid (show Below W6.heap.size W6 W14 from HB613.out.trans ((HT14.out.under (fun k hk => (HRL9.out k hk).1) (by omega)).mono (by omega)))
    have HG14 := Lib.hid (HT14.out.box HG13.out (fun k hk => (HRL9.out k hk).2) (Nat.le_refl _))
    have HM14 := Lib.hid (show DRd W14 (.slice a9 rns.length k9) (.slice b9 ros.length l9) (marksN 1 rns.length) (OpR.marksO (1 + 6 * rns.length) ros.length) from hM14.rd)
    have hk14 : ¬ 1 + 6 * (rns.length : Int) + 6 * (ros.length : Int) < 0 := by omega
    clear hM14 hg14 g0 g1 g2
    (have g0 := HG14.out.cell 0); (have g1 := HG14.out.cell 1); (have g2 := HG14.out.cell 2); simp at g0 g1 g2
    go_wp2_with fail
    refine (heldDisk W14 _ _ rns.length ros.length rnx (by omega) (by omega) HM14.out.ns HM14.out.os).mono ?_
    rintro e W15 ⟨rfl, hb15⟩
    have HB615 := Lib.hid (HB614.out.trans (hb15.mono HB614.out.size))
    have HG15 := Lib.hid (HG14.out.on hb15)
    have HM15 := Lib.hid (HM14.out.on hb15)
    clear hb15 g0 g1 g2
    have HBA15 := Lib.hid (HBA6.out.trans (HB615.out.mono HBA6.out.size))
    obtain ⟨t0, t1, t2⟩ := K.out _ HBA15.out
    go_wp2_with fail
    refine (CT.out _ HBA15.out).mono ?_
    rintro e W16 ⟨va, ua, rfl, hva, hua, hb16⟩
    have hR16 := (DRow.mk hva hua)
    have HB616 := Lib.hid (HB615.out.trans (hb16.mono HB615.out.size))
    have HG16 := Lib.hid (HG15.out.on hb16)
    have HM16 := Lib.hid (HM15.out.on hb16)
    have CI16 := CI.out W16 _ _ hR16.ns.rd hR16.os.rd
    clear hb16 hva hua hR16 t0 t1 t2
    go_wp2_with fail
    refine CI16.mono ?_
    rintro e W17 ⟨vh, uh, rfl, hRh, hb17⟩
    obtain ⟨ah, kh, bh, lh, rfl, rfl⟩ := hRh.form
    have HB617 := Lib.hid (HB616.out.trans (hb17.mono HB616.out.size))
    have HG17 := Lib.hid (HG16.out.on hb17)
    have HM17 := Lib.hid (HM16.out.on hb17)
    have HRh := Lib.hid hRh.rd
    clear hb17 CI16 hRh
    obtain ⟨W18, hW18⟩ : ∃ W, W17.alloc (.cells #[.slice ah rns.length kh, .int .i64 rnx, .slice bh ros.length lh] 44) = W := ⟨_, rfl⟩
    have b18 : Below W17.heap.size W17 W18 := by rw [← hW18]; exact (Below.refl _ _).alloc (Nat.le_refl _) _
    have HH18 := Lib.hid (show Blk W18 W17.heap.size #[.slice ah rns.length kh, .int .i64 rnx, .slice bh ros.length lh] 44 by rw [← hW18]; exact Blk.new _ _ _)
    have HB618 := Lib.hid (HB617.out.trans (b18.mono HB617.out.size))
    have HG18 := Lib.hid (HG17.out.on b18)
    have HM18 := Lib.hid (HM17.out.on b18)
    have HRh8 := Lib.hid (HRh.out.on b18)
    (have y0 := HH18.out.cell 0); (have y1 := HH18.out.cell 1); (have y2 := HH18.out.cell 2); simp at y0 y1 y2
    clear b18
    (have w0 := (HW6.out.on HB618.out).cell 0); (have w1 := (HW6.out.on HB618.out).cell 1); (have w2 := (HW6.out.on HB618.out).cell 2); simp at w0 w1 w2
    have CE := Lib.hid (fun V (hb : Below W18.heap.size W18 V) => eqDisk V (.slice ah rns.length kh) (.slice a5 rns.length k5) (.slice bh ros.length lh) (.slice b5 ros.length l5) rnx rns ros (HRh8.out.on hb).ns ((HS6.out.on HB618.out).on hb).ns (HRh8.out.on hb).os ((HS6.out.on HB618.out).on hb).os)
    go_wp2_with (go_at_call 50; refine (CE.out _ (by first | exact Below.refl _ _ | exact (Below.refl _ _).drew)).mono ?_; rintro e W19 ⟨rfl, hb19⟩; (have hb19' : Below W18.heap.size W18 W19 := by first | exact hb19 | exact (Below.refl _ _).drew.trans hb19); (have HB619 := Lib.hid (HB618.out.trans (hb19'.mono HB618.out.size))); (have HG19 := Lib.hid (HG18.out.on hb19')); (have HM19 := Lib.hid (HM18.out.on hb19')); clear hb19 hb19' y0 y1 y2 w0 w1 w2 CE; (have g0 := HG19.out.cell 0); (have g1 := HG19.out.cell 1); (have g2 := HG19.out.cell 2); simp at g0 g1 g2)
    refine (heldDisk W19 _ _ rns.length ros.length rnx (by omega) (by omega) HM19.out.ns HM19.out.os).mono ?_
    rintro e W20 ⟨rfl, hb20⟩
    have HBE := Lib.hid (HBA.out.trans (((HBA6.out.trans (HB619.out.mono HBA6.out.size)).trans (hb20.mono (by have := HBA6.out.size; have := HB619.out.size; omega))).mono HBA.out.size))
    clear hb20
    go_wp2
    go_ret
    exact ⟨rfl, HBE.out⟩
end Go.Proofs.YtipedabppgbfcaaGreatDoor
