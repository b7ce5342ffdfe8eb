/- Proved: laws.FnExactDoAll answers true at every tree and every list of ops: impl.DoAll answers as spec.DoAll does, in memory of its own, and the arguments read as before. The listed tables of the standard library are tied to the program's text, and are not read; the card speaks of the pruned copy of the project that the seat holds. -/
import Derived.Test.YtipedabppgbfcaaGreatDoorImplDoAll
import Derived.Test.YtipedabppgbfcaaGreatDoorK44
import Derived.Test.YtipedabppgbfcaaGreatDoorK46
import Derived.Test.YtipedabppgbfcaaGreatDoorK36
import Derived.Test.YtipedabppgbfcaaGreatDoorK45
import Derived.Deep.DeepCutAuto
import Derived.Deep.RegionHeld
set_option linter.all false
namespace Go.Proofs.YtipedabppgbfcaaGreatDoor
open Go.RowKit

theorem all_len (t : Tv) (os : List Ov) (h : t.ns.length ≤ 1048576) : (doAllV t os).1.ns.length ≤ 1048576 := by
  by_cases ht : treeB t.ns t.next = true
  · rw [all_tree ht]
    have hg : ∀ (os : List Ov) (t : Tv) (k : Nat), Right t.ns t.next → Right (doGo t os k).1.ns (doGo t os k).1.next := by
      intro os
      induction os with
      | nil => intro t k h; exact h
      | cons o r ih =>
        intro t k h
        unfold doGo
        split
        · exact ih _ _ (do_right h)
        · exact h
    have := (hg os t 0 (Right.of ht)).len
    omega
  · unfold doAllV
    rw [if_neg ht]
    split
    · exact h
    · exact Nat.zero_le _
set_option maxRecDepth 100000 in
set_option maxHeartbeats 32000000 in
theorem walkExactDoAll (a : Option Addr) (len cap : Nat) (ns : List Nd) (next : Int) (ob : Option Addr) (ol oc : Nat) (os : List Ov) (w : World) (h : NIn w a len cap ns) (ho : OpR.NIn w ob ol oc os) :
    Calls Tryz.prog 9 #[.agg #[.slice a len cap, .int .i64 next], .slice ob ol oc] w fun e w' => e = .returned (.bool true) ∧ Below w.heap.size w w' := by
  have H00 := Lib.hid h
  have O00 := Lib.hid ho
  have hlen := h.len
  have holen := ho.len
  obtain ⟨wa, hwa⟩ : ∃ W, w.alloc (.cells #[.slice a len cap, .int .i64 next] 56) = W := ⟨_, rfl⟩
  have hsa : wa.heap.size = w.heap.size + 1 := by rw [← hwa]; simp
  have ba : Below w.heap.size w wa := by rw [← hwa]; exact (Below.refl _ _).alloc (Nat.le_refl _) _
  have HX := Lib.hid (show Blk wa w.heap.size #[.slice a len cap, .int .i64 next] 56 by rw [← hwa]; exact Blk.new _ _ _)
  have HBA := Lib.hid ba
  have CZ := szTree wa a len cap ns next 1048576 (by omega) (by omega) (h.on ba)
  have K := Lib.hid (show ∀ V, Below wa.heap.size wa V → V.cell? ⟨w.heap.size, 0, none⟩ = some (.slice a len cap) ∧ V.cell? ⟨w.heap.size, 1, none⟩ = some (.int .i64 next) from fun V hb => by
    have hx := HX.out.on hb
    exact ⟨hx.cell 0, hx.cell 1⟩)
  obtain ⟨t0, t1⟩ := K.out _ (Below.refl _ _)
  clear h ho ba
  by_cases hz : (bulkN ns : Int) ≤ 1048576
  rotate_left
  · rw [leftV_out hz] at CZ
    go_enter Tryz.func9, Tryz.ntmps9
    go_wp2_with (go_at_call 37; refine CZ.mono ?_; rintro e W1 ⟨rfl, hb1⟩)
    go_ret
    exact ⟨rfl, HBA.out.trans (hb1.mono HBA.out.size)⟩
  rw [leftV_in hz] at CZ
  have hz2 : ¬ (1048576 : Int) - bulkN ns < 0 := by omega
  have hll : len ≤ 1048576 := by unfold bulkN at hz; omega
  have hnl : ns.length ≤ 1048576 := by omega
  have HSZ := Lib.hid (show ∀ n ∈ ns, n.path.length ≤ 2000000 ∧ n.data.length ≤ 2000000 from fun n hn => by have := szNs_mem hn; unfold bulkN at hz; unfold szN at this; omega)
  have CO := Lib.hid (fun W (hb : Below wa.heap.size wa W) => OpR.szOpS W ob ol oc os (1048576 - bulkN ns) (by omega) (by omega) (O00.out.on (HBA.out.trans (hb.mono (by omega)))))
  by_cases hy : (OpR.bulkO os : Int) ≤ 1048576 - bulkN ns
  rotate_left
  · have HE := Lib.hid (leftV_out hy)
    go_enter Tryz.func9, Tryz.ntmps9
    go_wp2_with (first
      | (go_at_call 37; refine CZ.mono ?_; rintro e W1 ⟨rfl, hb1⟩; (have HB1 := Lib.hid hb1); clear hb1)
      | (go_at_call 44; refine (CO.out _ HB1.out).mono ?_; rw [HE.out]; rintro e W2 ⟨rfl, hb2⟩))
    go_ret
    exact ⟨rfl, HBA.out.trans ((HB1.out.trans (hb2.mono HB1.out.size)).mono HBA.out.size)⟩
  have HE := Lib.hid (leftV_in hy)
  have hy2 : ¬ (1048576 : Int) - bulkN ns - (OpR.bulkO os : Int) < 0 := by omega
  have hol : ol ≤ 1048576 := by unfold OpR.bulkO at hy; omega
  have hos : os.length ≤ 1048576 := by omega
  have HSO := Lib.hid (show ∀ o ∈ os, o.path.length ≤ 2000000 ∧ o.dest.length ≤ 2000000 ∧ o.data.length ≤ 2000000 from fun n hn => by have := OpR.szOs_mem hn; unfold OpR.bulkO at hy; unfold szO at this; omega)
  obtain ⟨L, hL⟩ : ∃ L : Int, (1048576 : Int) - bulkN ns = L := ⟨_, rfl⟩
  rw [hL] at CZ hz2 CO HE hy2
  obtain ⟨L2, hL2⟩ : ∃ L2 : Int, L - (OpR.bulkO os : Int) = L2 := ⟨_, rfl⟩
  rw [hL2] at HE hy2
  clear hz hL hy hL2
  have CT := Lib.hid (fun W (hb : Below wa.heap.size wa W) => toTree W a len cap ns next (H00.out.on (HBA.out.trans (hb.mono (by omega)))) hll)
  have CTO := Lib.hid (fun W (hb : Below wa.heap.size wa W) => OpR.toOpS W ob ol oc os (O00.out.on (HBA.out.trans (hb.mono (by omega)))) hol)
  have CS := Lib.hid (fun W v v2 (h : NRd W v ns) hk (h2 : OpR.NRd W v2 os) => specDoAll W v v2 ns next os h hk hnl h2 (by omega) HSZ.out HSO.out)
  have CI := Lib.hid (fun W v v2 (h : NRd W v ns) hk (h2 : OpR.NRd W v2 os) => implDoAll W v v2 ns next os h hk hnl h2 (by omega) HSZ.out HSO.out)
  have hr1 : (doAllV ⟨ns, next⟩ os).1.ns.length ≤ 1048576 := all_len ⟨ns, next⟩ os hnl
  generalize doAllV ⟨ns, next⟩ os = r at CS CI hr1
  obtain ⟨⟨rns, rnx⟩, rk, code⟩ := r
  simp only at CS CI hr1
  clear hlen holen
  go_enter Tryz.func9, Tryz.ntmps9
  go_wp2_with (first
    | (go_at_call 37; refine CZ.mono ?_; rintro e W1 ⟨rfl, hb1⟩; (have HB1 := Lib.hid hb1); clear hb1 CZ t0 t1)
    | (go_at_call 44; refine (CO.out _ HB1.out).mono ?_; rw [HE.out]; rintro e W2 ⟨rfl, hb2⟩; (have HB2 := Lib.hid (HB1.out.trans (hb2.mono HB1.out.size))); (obtain ⟨t0, t1⟩ := K.out _ HB2.out); clear hb2 CO))
  have hs2 := HB2.out.size
  have KK2 := Lib.hid (show ∀ V, Below W2.heap.size W2 V → V.cell? ⟨w.heap.size, 0, none⟩ = some (.slice a len cap) ∧ V.cell? ⟨w.heap.size, 1, none⟩ = some (.int .i64 next) from fun V hb => K.out V (HB2.out.trans (hb.mono hs2)))
  refine (CT.out _ HB2.out).mono ?_
  rintro e W3 ⟨v3, rfl, hN3, hb3⟩
  have HN3 := Lib.hid hN3
  have HB3 := Lib.hid (HB2.out.trans (hb3.mono hs2))
  have hs3 := HB3.out.size
  clear hb3 hN3 t0 t1
  go_wp2_with fail
  refine (CTO.out _ HB3.out).mono ?_
  rintro e W4 ⟨u4, rfl, hO4, hb4⟩
  have HB4 := Lib.hid (HB3.out.trans (hb4.mono hs3))
  have HN4 := Lib.hid (HN3.out.on hb4)
  have CS4 := CS.out W4 _ _ HN4.out.rd (row_nocap HN4.out) hO4.rd
  have hs4 := HB4.out.size
  clear hb4 hO4
  go_wp2_with fail
  refine CS4.mono ?_
  rintro e W5 ⟨v5, rfl, _, hR5, hb5⟩
  obtain ⟨a5, k5, rfl⟩ : ∃ a c, v5 = .slice a rns.length c := by obtain ⟨a, c, h, _⟩ := hR5; exact ⟨a, c, h⟩
  have HR5 := Lib.hid hR5
  have HB5 := Lib.hid (HB4.out.trans (hb5.mono hs4))
  have hs5 := HB5.out.size
  clear hb5 hR5 CS4
  obtain ⟨t0, t1⟩ := K.out _ HB5.out
  have KT := fun ob => K.out (W5.alloc ob) (HB5.out.alloc hs5 ob)
  have y0 := fun ob => (KT ob).1
  have y1 := fun ob => (KT ob).2
  clear KT
  obtain ⟨W6, hW6⟩ : ∃ W, W5.alloc (.cells #[.slice a5 rns.length k5, .int .i64 rnx] 26) = W := ⟨_, rfl⟩
  have b6 : Below W5.heap.size W5 W6 := by rw [← hW6]; exact (Below.refl _ _).alloc (Nat.le_refl _) _
  have HW6 := Lib.hid (show Blk W6 W5.heap.size #[.slice a5 rns.length k5, .int .i64 rnx] 26 by rw [← hW6]; exact Blk.new _ _ _)
  have HS6 := Lib.hid (HR5.out.on b6)
  have HBA6 := Lib.hid (show Below wa.heap.size wa W6 from HB5.out.trans (b6.mono hs5))
  have hs6 := HBA6.out.size
  clear b6 y0 y1 t0 t1
  obtain ⟨t0, t1⟩ := K.out _ HBA6.out
  go_wp2_with fail
  refine (CT.out _ HBA6.out).mono ?_
  rintro e W7 ⟨v7, rfl, hN7, hb7⟩
  obtain ⟨a7, k7, rfl⟩ := hN7.shape
  have HN7 := Lib.hid hN7
  have HRL7 := Lib.hid (fun k (hk : Value.ownBlock (.slice a7 ns.length k7) = some k) => own_lt hN7.own k hk)
  have hs67 := hb7.size
  have HB67 := Lib.hid hb7
  clear hb7 hN7 t0 t1
  obtain ⟨W8, hW8⟩ : ∃ W, W7.alloc (.cells #[.slice a7 ns.length k7, .int .i64 next] 26) = W := ⟨_, rfl⟩
  have b8 : Below W7.heap.size W7 W8 := by rw [← hW8]; exact (Below.refl _ _).alloc (Nat.le_refl _) _
  have hs78 : W7.heap.size < W8.heap.size := by rw [← hW8]; simp
  have HX8 := Lib.hid (show Blk W8 W7.heap.size #[.slice a7 ns.length k7, .int .i64 next] 26 by rw [← hW8]; exact Blk.new _ _ _)
  have HN8 := Lib.hid (HN7.out.on b8)
  have HB68 := Lib.hid (HB67.out.trans (b8.mono hs67))
  have HBA8 := Lib.hid (HBA6.out.trans (HB68.out.mono hs6))
  clear b8
  go_wp2_with fail
  refine (CTO.out _ HBA8.out).mono ?_
  rintro e W9 ⟨u9, rfl, hO9, hb9⟩
  obtain ⟨c9, l9, rfl⟩ := hO9.shape
  have HO9 := Lib.hid hO9
  have HRL9 := Lib.hid (fun k (hk : Value.ownBlock (.slice c9 os.length l9) = some k) => own_lt hO9.own k hk)
  have hs89 := hb9.size
  have HX9 := Lib.hid (HX8.out.on hb9)
  have HN9 := Lib.hid (HN8.out.on hb9)
  have HB69 := Lib.hid (HB68.out.trans (hb9.mono HB68.out.size))
  have CI9 := CI.out W9 _ _ HN9.out.rd (row_nocap HN9.out) hO9.rd
  have x0 := HX9.out.cell 0
  have x1 := HX9.out.cell 1
  simp at x0 x1
  clear hb9 hO9
  go_wp2_with fail
  refine CI9.mono ?_
  rintro e W10 ⟨v10, rfl, hR10, hb10⟩
  obtain ⟨a10, k10, rfl⟩ := hR10.shape
  have HR10 := Lib.hid hR10
  have HRL10 := Lib.hid (fun k (hk : Value.ownBlock (.slice a10 rns.length k10) = some k) => own_lt hR10.own k hk)
  have hs910 := hb10.size
  have HB910 := Lib.hid hb10
  clear hb10 hR10 CI9 x0 x1
  obtain ⟨W11, hW11⟩ : ∃ W, W10.alloc (.cells #[.slice a10 rns.length k10, .int .i64 rnx] 26) = W := ⟨_, rfl⟩
  have b11 : Below W10.heap.size W10 W11 := by rw [← hW11]; exact (Below.refl _ _).alloc (Nat.le_refl _) _
  have HG11 := Lib.hid (show Blk W11 W10.heap.size #[.slice a10 rns.length k10, .int .i64 rnx] 26 by rw [← hW11]; exact Blk.new _ _ _)
  have HR11 := Lib.hid (HR10.out.on b11)
  have HB911 := Lib.hid (HB910.out.trans (b11.mono hs910))
  have HB611 := Lib.hid (HB69.out.trans (HB911.out.mono HB69.out.size))
  have hs1011 : W10.heap.size < W11.heap.size := by rw [← hW11]; simp
  (have g0 := HG11.out.cell 0); (have g1 := HG11.out.cell 1); simp at g0 g1
  (have w0 := (HW6.out.on HB611.out).cell 0); (have w1 := (HW6.out.on HB611.out).cell 1); simp at w0 w1
  have CE := Lib.hid (fun V (hb : Below W11.heap.size W11 V) => eqTree V (.slice a10 rns.length k10) (.slice a5 rns.length k5) rnx rns (HR11.out.rd.on hb) ((HS6.out.on HB611.out).on hb))
  have hrk : ((rk : Int) != (rk : Int)) = false := by simp
  clear b11
  go_wp2_with (go_at_call 41; refine (CE.out _ (by first | exact Below.refl _ _ | exact (Below.refl _ _).drew)).mono ?_; rintro e W12 ⟨rfl, hb12⟩)
  have hb12' : Below W11.heap.size W11 W12 := by first | exact hb12 | exact (Below.refl _ _).drew.trans hb12
  have HB912 := Lib.hid (HB911.out.trans (hb12'.mono HB911.out.size))
  have HG12 := Lib.hid (HG11.out.on hb12')
  have HR12 := Lib.hid (HR11.out.on hb12')
  have hs912 := HB912.out.size
  have HB612 := Lib.hid (HB69.out.trans (HB912.out.mono HB69.out.size))
  have HBA12 := Lib.hid (HBA6.out.trans (HB612.out.mono hs6))
  have K12 := Lib.hid (show ∀ V, Below W12.heap.size W12 V → V.cell? ⟨W7.heap.size, 0, none⟩ = some (.slice a7 ns.length k7) ∧ V.cell? ⟨W7.heap.size, 1, none⟩ = some (.int .i64 next) ∧ V.cell? ⟨w.heap.size, 0, none⟩ = some (.slice a len cap) ∧ V.cell? ⟨w.heap.size, 1, none⟩ = some (.int .i64 next) from fun V hb => by
    have hx := (HX9.out.on HB912.out).on hb
    obtain ⟨y0, y1⟩ := K.out V (HBA12.out.trans (hb.mono HBA12.out.size))
    exact ⟨hx.cell 0, hx.cell 1, y0, y1⟩)
  obtain ⟨x0, x1, t0, t1⟩ := K12.out _ (Below.refl _ _)
  have hsA12 := HBA12.out.size
  clear hb12 hb12' g0 g1 w0 w1 CE
  go_wp2_with fail
  go_cut [68] (fun t V => t = .bool false ∧ Below W12.heap.size W12 V)
  case first =>
    go_region_held (fun V => V.cell? ⟨W7.heap.size, 0, none⟩ = some (.slice a7 ns.length k7) ∧ V.cell? ⟨W7.heap.size, 1, none⟩ = some (.int .i64 next) ∧ V.cell? ⟨w.heap.size, 0, none⟩ = some (.slice a len cap) ∧ V.cell? ⟨w.heap.size, 1, none⟩ = some (.int .i64 next)) (first | exact K12.out _ HBb.out | exact K12.out _ HBa.out | exact K12.out _ ((Below.refl _ _).drew)) (first
      | (go_at_call 39; refine (CT.out _ (HBA12.out.trans ((Below.refl _ _).drew.mono hsA12))).mono ?_; rintro e Wa ⟨va, rfl, hva, hba⟩; (have HBa := Lib.hid (show Below W12.heap.size W12 Wa from ((Below.refl _ _).drew).trans hba)); (have HRa := Lib.hid hva); clear hba hva)
      | (go_at_call 41; refine (eqTree _ _ _ next ns (HN9.out.rd.on (HB912.out.trans (HBa.out.mono hs912))) HRa.out.rd).mono ?_; rintro e Wb ⟨rfl, hbb⟩; (have HBb := Lib.hid (HBa.out.trans (hbb.mono HBa.out.size))); clear hbb))
    all_goals
      go_wp2
      go_meet
      exact ⟨rfl, HBb.out⟩
  case rest =>
    obtain ⟨rfl, hb13⟩ := hcut
    have HB913 := Lib.hid (HB912.out.trans (hb13.mono hs912))
    have HB613 := Lib.hid (HB69.out.trans (HB913.out.mono HB69.out.size))
    have HG13 := Lib.hid (HG12.out.on hb13)
    have HR13 := Lib.hid (HR12.out.on hb13)
    clear hb13 x0 x1 t0 t1 K12 HG11 HR11 HG12 HR12
    generalize wc = W13 at *
    have HBA13 := Lib.hid (HBA6.out.trans (HB613.out.mono hs6))
    have hsA13 := HBA13.out.size
    have hs913 := HB913.out.size
    go_wp2_with fail
    refine (CTO.out _ HBA13.out).mono ?_
    rintro e W14 ⟨u14, rfl, hO14, hb14⟩
    have HB914 := Lib.hid (HB913.out.trans (hb14.mono hs913))
    have CEO := OpR.eqOpS W14 _ _ os (HO9.out.rd.on HB914.out) hO14.rd
    have HG14 := Lib.hid (HG13.out.on hb14)
    have HR14 := Lib.hid (HR13.out.on hb14)
    clear hb14 hO14
    go_wp2_with fail
    refine CEO.mono ?_
    rintro e W15 ⟨rfl, hb15⟩
    have HB915 := Lib.hid (HB914.out.trans (hb15.mono HB914.out.size))
    have HB615 := Lib.hid (HB69.out.trans (HB915.out.mono HB69.out.size))
    have HG15 := Lib.hid (HG14.out.on hb15)
    have HR15 := Lib.hid (HR14.out.on hb15)
    (have x0 := (HX9.out.on HB915.out).cell 0); (have x1 := (HX9.out.on HB915.out).cell 1); simp at x0 x1
    have CM := markTree1 W15 _ _ ns next (by omega) (HN9.out.on HB915.out)
    have hs915 := HB915.out.size
    clear hb15 CEO
    go_wp2_with fail
    refine CM.mono ?_
    rintro e W16 ⟨rfl, _, hg16⟩
    have HT16 := Lib.hid (Two.one hg16)
    have hl7 : ∀ k, Value.ownBlock (.slice a7 ns.length k7) = some k ∨ none = some k → W6.heap.size ≤ k ∧ k < W7.heap.size := fun k hk => by
      rcases hk with hk | hk
      · exact HRL7.out k hk
      · cases hk
    have hs16 := HT16.out.size
    have HB616 := Lib.hid (HB615.out.trans (HT16.out.under (fun k hk => (hl7 k hk).1) HB615.out.size))
    have HG16 := Lib.hid (HT16.out.box HG15.out (fun k hk => (hl7 k hk).2) (by omega))
    have HR16 := Lib.hid (show NRow W16 W9.heap.size (.slice a10 rns.length k10) rns from HT16.out.row HR15.out (fun k hk => (hl7 k hk).2) (by omega))
    have HO16 := Lib.hid (show OpR.NRow W16 W8.heap.size (.slice c9 os.length l9) os from HT16.out.row (HO9.out.on HB915.out) (fun k hk => (hl7 k hk).2) (by omega))
    have HK := Lib.hid (show (1 : Int) + 6 * (ns.length : Int) = ((1 + 6 * ns.length : Nat) : Int) by omega)
    have CMO := OpR.markOpS W16 _ _ os (1 + 6 * ns.length) (by omega) (by omega) (by omega) HO16.out
    rw [← HK.out] at CMO
    clear hg16 CM x0 x1
    go_wp2_with fail
    refine CMO.mono ?_
    rintro e W17 ⟨rfl, _, hg17⟩
    have HT17 := Lib.hid (Two.one hg17)
    have hl9 : ∀ k, Value.ownBlock (.slice c9 os.length l9) = some k ∨ none = some k → W8.heap.size ≤ k ∧ k < W9.heap.size := fun k hk => by
      rcases hk with hk | hk
      · exact HRL9.out k hk
      · cases hk
    have hs17 := HT17.out.size
    have HB617 := Lib.hid (HB616.out.trans ((HT17.out.under (fun k hk => (hl9 k hk).1) (by omega)).mono (by have := HB68.out.size; omega)))
    have HG17 := Lib.hid (HT17.out.box HG16.out (fun k hk => (hl9 k hk).2) (by omega))
    have HR17 := Lib.hid (show NRow W17 W9.heap.size (.slice a10 rns.length k10) rns from HT17.out.row HR16.out (fun k hk => (hl9 k hk).2) (Nat.le_refl _))
    have hk17 : ¬ 1 + 6 * (ns.length : Int) + 6 * (os.length : Int) < 0 := by omega
    have hkd : decide (1 + 6 * (ns.length : Int) + 6 * (os.length : Int) < 0) = false := by simp; omega
    (have g0 := HG17.out.cell 0); (have g1 := HG17.out.cell 1); simp at g0 g1
    (have w0 := (HW6.out.on HB617.out).cell 0); (have w1 := (HW6.out.on HB617.out).cell 1); simp at w0 w1
    have CE := Lib.hid (fun V (hb : Below W17.heap.size W17 V) => eqTree V (.slice a10 rns.length k10) (.slice a5 rns.length k5) rnx rns (HR17.out.rd.on hb) ((HS6.out.on HB617.out).on hb))
    clear hg17 CMO
    go_wp2_with (go_at_call 41; refine (CE.out _ (by first | exact Below.refl _ _ | exact (Below.refl _ _).drew)).mono ?_; rintro e W18 ⟨rfl, hb18⟩; (have hb18' : Below W17.heap.size W17 W18 := by first | exact hb18 | exact (Below.refl _ _).drew.trans hb18); (have HB618 := Lib.hid (HB617.out.trans (hb18'.mono HB617.out.size))); (have HG18 := Lib.hid (HG17.out.on hb18')); (have HR18 := Lib.hid (HR17.out.on hb18')); (have hs18 := hb18'.size); clear hb18 hb18' g0 g1 w0 w1 CE; (have g0 := HG18.out.cell 0); (have g1 := HG18.out.cell 1); simp at g0 g1)
    refine (markTree1 W18 _ _ rns rnx (by omega) HR18.out).mono ?_
    rintro e W19 ⟨rfl, hM19, hg19⟩
    have HT19 := Lib.hid (Two.one hg19)
    have hl10 : ∀ k, Value.ownBlock (.slice a10 rns.length k10) = some k ∨ none = some k → W9.heap.size ≤ k ∧ k < W10.heap.size := fun k hk => by
      rcases hk with hk | hk
      · exact HRL10.out k hk
      · cases hk
    have hs19 := HT19.out.size
    have hs69 := HB69.out.size
    have HB619 := Lib.hid (HB618.out.trans ((HT19.out.under (fun k hk => (hl10 k hk).1) (by omega)).mono (by omega)))
    have HG19 := Lib.hid (HT19.out.box HG18.out (fun k hk => (hl10 k hk).2) (Nat.le_refl _))
    have HM19 := Lib.hid hM19.rd
    have hk19 : ¬ 1 + 6 * (rns.length : Int) < 0 := by omega
    clear hM19 hg19 g0 g1
    (have g0 := HG19.out.cell 0); (have g1 := HG19.out.cell 1); simp at g0 g1
    go_wp2_with fail
    refine (heldTree1 W19 _ rns.length rnx (by omega) HM19.out).mono ?_
    rintro e W20 ⟨rfl, hb20⟩
    have HB620 := Lib.hid (HB619.out.trans (hb20.mono HB619.out.size))
    have HG20 := Lib.hid (HG19.out.on hb20)
    have HM20 := Lib.hid (HM19.out.on hb20)
    clear hb20 g0 g1
    have HBA20 := Lib.hid (HBA6.out.trans (HB620.out.mono hs6))
    obtain ⟨t0, t1⟩ := K.out _ HBA20.out
    go_wp2_with fail
    refine (CT.out _ HBA20.out).mono ?_
    rintro e W21 ⟨v21, rfl, hN21, hb21⟩
    have HB621 := Lib.hid (HB620.out.trans (hb21.mono HB620.out.size))
    have HN21 := Lib.hid hN21
    have HG21 := Lib.hid (HG20.out.on hb21)
    have HM21 := Lib.hid (HM20.out.on hb21)
    have HBA21 := Lib.hid (HBA6.out.trans (HB621.out.mono hs6))
    clear hb21 hN21 t0 t1
    go_wp2_with fail
    refine (CTO.out _ HBA21.out).mono ?_
    rintro e W22 ⟨u22, rfl, hO22, hb22⟩
    have HB622 := Lib.hid (HB621.out.trans (hb22.mono HB621.out.size))
    have HN22 := Lib.hid (HN21.out.on hb22)
    have HG22 := Lib.hid (HG21.out.on hb22)
    have HM22 := Lib.hid (HM21.out.on hb22)
    have CI22 := CI.out W22 _ _ HN22.out.rd (row_nocap HN22.out) hO22.rd
    clear hb22 hO22
    go_wp2_with fail
    refine CI22.mono ?_
    rintro e W23 ⟨vh, rfl, hRh, hb23⟩
    obtain ⟨ah, kh, rfl⟩ := hRh.shape
    have HB623 := Lib.hid (HB622.out.trans (hb23.mono HB622.out.size))
    have HG23 := Lib.hid (HG22.out.on hb23)
    have HM23 := Lib.hid (HM22.out.on hb23)
    have HRh := Lib.hid hRh.rd
    clear hb23 CI22 hRh
    obtain ⟨W24, hW24⟩ : ∃ W, W23.alloc (.cells #[.slice ah rns.length kh, .int .i64 rnx] 26) = W := ⟨_, rfl⟩
    have b24 : Below W23.heap.size W23 W24 := by rw [← hW24]; exact (Below.refl _ _).alloc (Nat.le_refl _) _
    have HH24 := Lib.hid (show Blk W24 W23.heap.size #[.slice ah rns.length kh, .int .i64 rnx] 26 by rw [← hW24]; exact Blk.new _ _ _)
    have HB624 := Lib.hid (HB623.out.trans (b24.mono HB623.out.size))
    have HG24 := Lib.hid (HG23.out.on b24)
    have HM24 := Lib.hid (HM23.out.on b24)
    have HRh4 := Lib.hid (HRh.out.on b24)
    (have y0 := HH24.out.cell 0); (have y1 := HH24.out.cell 1); simp at y0 y1
    (have w0 := (HW6.out.on HB624.out).cell 0); (have w1 := (HW6.out.on HB624.out).cell 1); simp at w0 w1
    have CE := Lib.hid (fun V (hb : Below W24.heap.size W24 V) => eqTree V (.slice ah rns.length kh) (.slice a5 rns.length k5) rnx rns (HRh4.out.on hb) ((HS6.out.on HB624.out).on hb))
    clear b24
    go_wp2_with (go_at_call 41; refine (CE.out _ (by first | exact Below.refl _ _ | exact (Below.refl _ _).drew)).mono ?_; rintro e W25 ⟨rfl, hb25⟩; (have hb25' : Below W24.heap.size W24 W25 := by first | exact hb25 | exact (Below.refl _ _).drew.trans hb25); (have HB625 := Lib.hid (HB624.out.trans (hb25'.mono HB624.out.size))); (have HG25 := Lib.hid (HG24.out.on hb25')); (have HM25 := Lib.hid (HM24.out.on hb25')); clear hb25 hb25' y0 y1 w0 w1 CE; (have g0 := HG25.out.cell 0); (have g1 := HG25.out.cell 1); simp at g0 g1)
    refine (heldTree1 W25 _ rns.length rnx (by omega) HM25.out).mono ?_
    rintro e W26 ⟨rfl, hb26⟩
    have HBE := Lib.hid (HBA.out.trans (((HBA6.out.trans (HB625.out.mono hs6)).trans (hb26.mono (by have := HB625.out.size; omega))).mono HBA.out.size))
    clear hb26
    go_wp2
    go_ret
    exact ⟨rfl, HBE.out⟩
end Go.Proofs.YtipedabppgbfcaaGreatDoor
