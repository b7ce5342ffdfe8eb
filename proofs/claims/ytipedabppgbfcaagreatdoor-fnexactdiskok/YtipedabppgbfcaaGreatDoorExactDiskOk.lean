/- Proved: laws.FnExactDiskOk answers true at every disk: impl's function answers as spec's does, in memory of its own, and the argument reads as before. The listed tables of the standard library are tied to the program's text, and are not read; the card speaks of the pruned copy of the project that the seat holds. -/
import Derived.Test.YtipedabppgbfcaaGreatDoorK41
import Derived.Test.YtipedabppgbfcaaGreatDoorK44
import Derived.Test.YtipedabppgbfcaaGreatDoorK36
import Derived.Test.YtipedabppgbfcaaGreatDoorK45
import Derived.Deep.DeepCutAuto
import Derived.Deep.RegionHeld
set_option linter.all false
namespace Go.Proofs.YtipedabppgbfcaaGreatDoor
open Go.RowKit

set_option maxRecDepth 100000 in
set_option maxHeartbeats 8000000 in
theorem walkExactDiskOk (a : Option Addr) (len cap : Nat) (ns : List Nd) (next : Int) (ob : Option Addr) (ol oc : Nat) (os : List Ov) (w : World) (h : NIn w a len cap ns) (ho : OpR.NIn w ob ol oc os) :
    Calls Tryz.prog 10 #[.agg #[.slice a len cap, .int .i64 next, .slice ob ol oc]] w fun e w' => e = .returned (.bool true) ∧ Below w.heap.size w w' := by
  have H00 := Lib.hid h
  have O00 := Lib.hid ho
  have hlen := h.len
  have holen := ho.len
  obtain ⟨wa, hwa⟩ : ∃ W, w.alloc (.cells #[.slice a len cap, .int .i64 next, .slice ob ol oc] 71) = W := ⟨_, rfl⟩
  have hsa : wa.heap.size = w.heap.size + 1 := by rw [← hwa]; simp
  have ba : Below w.heap.size w wa := by rw [← hwa]; exact (Below.refl _ _).alloc (Nat.le_refl _) _
  have HX := Lib.hid (show Blk wa w.heap.size #[.slice a len cap, .int .i64 next, .slice ob ol oc] 71 by rw [← hwa]; exact Blk.new _ _ _)
  have HBA := Lib.hid ba
  have CZ := szDisk wa a len cap ns next ob ol oc os (h.on ba) (ho.on ba)
  have K := Lib.hid (show ∀ V, Below wa.heap.size wa V → V.cell? ⟨w.heap.size, 0, none⟩ = some (.slice a len cap) ∧ V.cell? ⟨w.heap.size, 1, none⟩ = some (.int .i64 next) ∧ V.cell? ⟨w.heap.size, 2, none⟩ = some (.slice ob ol oc) from fun V hb => by
    have hx := HX.out.on hb
    exact ⟨hx.cell 0, hx.cell 1, hx.cell 2⟩)
  obtain ⟨t0, t1, t2⟩ := K.out _ (Below.refl _ _)
  clear h ho ba
  by_cases hz : ((bulkN ns + OpR.bulkO os : Nat) : Int) ≤ 1048576
  rotate_left
  · rw [leftV_out hz] at CZ
    go_enter Tryz.func10, Tryz.ntmps10
    go_wp2_with (go_at_call 48; refine CZ.mono ?_; rintro e W1 ⟨rfl, hb1⟩)
    go_ret
    exact ⟨rfl, HBA.out.trans (hb1.mono HBA.out.size)⟩
  rw [leftV_in hz] at CZ
  have hz2 : ¬ (1048576 : Int) - ((bulkN ns + OpR.bulkO os : Nat) : Int) < 0 := by omega
  have hll : len ≤ 1048576 := by unfold bulkN at hz; omega
  have hol : ol ≤ 1048576 := by unfold OpR.bulkO at hz; omega
  have hnl : ns.length ≤ 1048576 := by omega
  have hos : os.length ≤ 1048576 := by omega
  have HSZ := Lib.hid (show ∀ n ∈ ns, n.path.length ≤ 2000000 ∧ n.data.length ≤ 2000000 from fun n hn => by have := szNs_mem hn; unfold bulkN at hz; unfold szN at this; omega)
  have HSO := Lib.hid (show ∀ o ∈ os, o.path.length ≤ 2000000 ∧ o.dest.length ≤ 2000000 ∧ o.data.length ≤ 2000000 from fun n hn => by have := OpR.szOs_mem hn; unfold OpR.bulkO at hz; unfold szO at this; omega)
  obtain ⟨L, hL⟩ : ∃ L : Int, (1048576 : Int) - ((bulkN ns + OpR.bulkO os : Nat) : Int) = L := ⟨_, rfl⟩
  rw [hL] at CZ hz2
  clear hz hL
  have CT := Lib.hid (fun W (hb : Below wa.heap.size wa W) => toDisk W a len cap ns next ob ol oc os (H00.out.on (HBA.out.trans (hb.mono (by omega)))) (O00.out.on (HBA.out.trans (hb.mono (by omega)))) hll hol)
  have CS := Lib.hid (fun W B v u (h : DRow W B v u ns os) => specDiskOk W B v u ns next os h hnl (by omega) HSZ.out HSO.out)
  have CI := Lib.hid (fun W v u (h : NRd W v ns) (ho : OpR.NRd W u os) => implDiskOk W v u ns next os h ho (by omega) HSZ.out HSO.out)
  generalize diskB ⟨⟨ns, next⟩, os⟩ = bb at CS CI
  clear hlen holen
  go_enter Tryz.func10, Tryz.ntmps10
  go_wp2_with (first
    | (go_at_call 48; refine CZ.mono ?_; rintro e W1 ⟨rfl, hb1⟩; (have HB1 := Lib.hid hb1); clear hb1 CZ t0 t1 t2; (obtain ⟨t0, t1, t2⟩ := K.out _ HB1.out)))
  refine (CT.out _ HB1.out).mono ?_
  rintro e W2 ⟨v2, u2, rfl, hv2, hu2, hb2⟩
  have HB2 := Lib.hid (HB1.out.trans (hb2.mono HB1.out.size))
  have CS2 := CS.out W2 _ v2 u2 ⟨hv2, hu2⟩
  clear hv2 hu2 hb2 t0 t1 t2
  go_wp2_with fail
  refine CS2.mono ?_
  rintro e W3 ⟨rfl, hb3⟩
  have HB3 := Lib.hid (HB2.out.trans (hb3.mono HB2.out.size))
  obtain ⟨t0, t1, t2⟩ := K.out _ HB3.out
  clear hb3 CS2
  go_wp2_with fail
  refine (CT.out _ HB3.out).mono ?_
  rintro e W4 ⟨v4, u4, rfl, hv4, hu4, hb4⟩
  have HB4 := Lib.hid (HB3.out.trans (hb4.mono HB3.out.size))
  obtain ⟨a4, k4, rfl⟩ := hv4.shape
  obtain ⟨b4, l4, rfl⟩ := hu4.shape
  have HR4 := Lib.hid hv4
  have HO4 := Lib.hid hu4
  clear hv4 hu4 hb4 t0 t1 t2
  obtain ⟨W5, hW5⟩ : ∃ W, W4.alloc (.cells #[.slice a4 ns.length k4, .int .i64 next, .slice b4 os.length l4] 44) = W := ⟨_, rfl⟩
  have b5 : Below W4.heap.size W4 W5 := by rw [← hW5]; exact (Below.refl _ _).alloc (Nat.le_refl _) _
  have HX5 := Lib.hid (show Blk W5 W4.heap.size #[.slice a4 ns.length k4, .int .i64 next, .slice b4 os.length l4] 44 by rw [← hW5]; exact Blk.new _ _ _)
  have HB5 := Lib.hid (HB4.out.trans (b5.mono HB4.out.size))
  have HR5 := Lib.hid (HR4.out.on b5)
  have HO5 := Lib.hid (HO4.out.on b5)
  have x0 := HX5.out.cell 0
  have x1 := HX5.out.cell 1
  have x2 := HX5.out.cell 2
  simp at x0 x1 x2
  have CI5 := CI.out W5 _ _ HR5.out.rd HO5.out.rd
  clear b5
  go_wp2_with fail
  refine CI5.mono ?_
  rintro e W6 ⟨rfl, hb6⟩
  have HB6 := Lib.hid (HB5.out.trans (hb6.mono HB5.out.size))
  have HX6 := Lib.hid (HX5.out.on hb6)
  have HR6 := Lib.hid (HR5.out.on hb6)
  have HO6 := Lib.hid (HO5.out.on hb6)
  have K6 := Lib.hid (show ∀ V, Below W6.heap.size W6 V → V.cell? ⟨W4.heap.size, 0, none⟩ = some (.slice a4 ns.length k4) ∧ V.cell? ⟨W4.heap.size, 1, none⟩ = some (.int .i64 next) ∧ V.cell? ⟨W4.heap.size, 2, none⟩ = some (.slice b4 os.length l4) ∧ V.cell? ⟨w.heap.size, 0, none⟩ = some (.slice a len cap) ∧ V.cell? ⟨w.heap.size, 1, none⟩ = some (.int .i64 next) ∧ V.cell? ⟨w.heap.size, 2, none⟩ = some (.slice ob ol oc) from fun V hb => by
    have hx := HX6.out.on hb
    obtain ⟨y0, y1, y2⟩ := K.out V (HB6.out.trans (hb.mono HB6.out.size))
    exact ⟨hx.cell 0, hx.cell 1, hx.cell 2, y0, y1, y2⟩)
  obtain ⟨x0, x1, x2, t0, t1, t2⟩ := K6.out _ (Below.refl _ _)
  have hbb : (bb != bb) = false := by cases bb <;> rfl
  clear hb6 CI5
  go_wp2_with fail
  go_cut [26] (fun t V => t = .bool false ∧ Below W6.heap.size W6 V)
  case first =>
    go_region_held (fun V => V.cell? ⟨W4.heap.size, 0, none⟩ = some (.slice a4 ns.length k4) ∧ V.cell? ⟨W4.heap.size, 1, none⟩ = some (.int .i64 next) ∧ V.cell? ⟨W4.heap.size, 2, none⟩ = some (.slice b4 os.length l4) ∧ V.cell? ⟨w.heap.size, 0, none⟩ = some (.slice a len cap) ∧ V.cell? ⟨w.heap.size, 1, none⟩ = some (.int .i64 next) ∧ V.cell? ⟨w.heap.size, 2, none⟩ = some (.slice ob ol oc)) (first | exact K6.out _ HB8.out | exact K6.out _ HB7.out | exact K6.out _ (Below.refl _ _).drew) (first
      | (go_at_call 49; refine (CT.out _ (HB6.out.trans ((Below.refl _ _).drew.mono HB6.out.size))).mono ?_; rintro e W7 ⟨v7, u7, rfl, hv7, hu7, hb7⟩; (have HR7 := Lib.hid (And.intro hv7 hu7)); (have HB7 := Lib.hid ((Below.refl W6.heap.size W6).drew.trans hb7)); clear hv7 hu7 hb7)
      | (go_at_call 50; refine (eqDisk _ _ _ _ _ next ns os (HR6.out.on HB7.out).rd HR7.out.1.rd (HO6.out.on HB7.out).rd HR7.out.2.rd).mono ?_; rintro e W8 ⟨rfl, hb8⟩; (have HB8 := Lib.hid (HB7.out.trans (hb8.mono HB7.out.size))); clear hb8))
    all_goals
      go_wp2
      go_meet
      exact ⟨rfl, HB8.out⟩
  case rest =>
    obtain ⟨rfl, hb9⟩ := hcut
    have HB9 := Lib.hid ((HBA.out.trans (HB6.out.mono HBA.out.size)).trans (hb9.mono (by have := HBA.out.size; have := HB6.out.size; omega)))
    clear hb9 x0 x1 x2 t0 t1 t2
    generalize wc = W9 at *
    go_wp2
    go_ret
    exact ⟨rfl, HB9.out⟩
end Go.Proofs.YtipedabppgbfcaaGreatDoor
