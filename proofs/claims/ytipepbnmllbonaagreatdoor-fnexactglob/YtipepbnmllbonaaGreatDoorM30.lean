/- The listed tables are never read on the roads that these laws take: nothing is asked of them. Proved: laws.FnExactGlob answers true at every tree and every pattern: impl.Glob answers as spec.Glob does, in memory of its own, and the arguments read as before. The listed tables of the standard library are tied to the program's text, and are not read; the card speaks of the pruned copy of the project that the seat holds. -/
import Derived.Test.YtipepbnmllbonaaGreatDoorM1
import Derived.LaidMore
import Derived.Test.YtipepbnmllbonaaGreatDoorM28
import Derived.Test.YtipepbnmllbonaaGreatDoorM29
import Derived.Deep.DeepCutAuto
namespace Go.Proofs.YtipepbnmllbonaaGreatDoor
open Go.RowKit
def Tabs4 (_ : World) : Prop := True
theorem tabs_of4 {l : List (String × DataW Unit)} {W : World} (_ : laidMetH Tryz.prog l W) : Tabs4 W := trivial
end Go.Proofs.YtipepbnmllbonaaGreatDoor
namespace Go.Proofs.YtipepbnmllbonaaGreatDoor
open Go.RowKit
theorem shownExactGlob (w : World) (B g : Nat) (v : Value) (ls : List (List UInt8)) (h : Strs w B v ls) (hB : g < B) : v.ownBlock ≠ some g := by
  intro e
  have := (World.ownsRow.lt h g e).1
  omega
set_option maxRecDepth 100000 in
set_option maxHeartbeats 8000000 in
theorem walkFnExactGlob (a : Option Addr) (len cap : Nat) (ns : List Nd) (next : Int) (s : ByteArray) (w : World) (h : NIn w a len cap ns) :
    Calls Tryz.prog 10 #[.agg #[.slice a len cap, .int .i64 next], .string s] w fun e w' => e = .returned (.bool true) ∧ Below w.heap.size w w' := by
  have hb0 := (Below.refl w.heap.size w).alloc (Nat.le_refl _) (.cells #[.slice a len cap, .int .i64 next] 54)
  have B0 := Lib.hid (Blk.new w #[.slice a len cap, .int .i64 next] 54)
  have HN := Lib.hid (h.on hb0)
  have HB0 := Lib.hid hb0
  have hlen := h.len
  have H00 := Lib.hid h
  clear h hb0
  by_cases hs : s.size ≤ 1048576
  rotate_left
  · go_enter Tryz.func10, Tryz.ntmps10
    go_wp2
    go_ret
    exact ⟨rfl, HB0.out⟩
  have CZ := szTree _ a len cap ns next 1048576 (by omega) (by omega) HN.out
  by_cases hz : (bulkN ns : Int) ≤ 1048576
  rotate_left
  · rw [leftV_out hz] at CZ
    go_enter Tryz.func10, Tryz.ntmps10
    go_wp2_with fail
    refine CZ.mono ?_
    rintro e W1 ⟨rfl, hb1⟩
    go_wp2
    go_ret
    exact ⟨rfl, HB0.out.trans (hb1.mono HB0.out.size)⟩
  rw [leftV_in hz] at CZ
  have hll : len ≤ 1048576 := by unfold bulkN at hz; omega
  have hnl : ns.length ≤ 1048576 := by omega
  have hz2 : ¬ (1048576 : Int) - bulkN ns < 0 := by omega
  have HSZ := Lib.hid (show ∀ n ∈ ns, n.path.length ≤ 2000000 ∧ n.data.length ≤ 2000000 from fun n hn => by have := szNs_mem hn; unfold bulkN at hz; unfold szN at this; omega)
  obtain ⟨sl, rfl⟩ : ∃ sl, s = strOf sl := ⟨s.data.toList, by cases s; simp [strOf]⟩
  have hsl : sl.length ≤ 1048576 := by rw [strOf_size] at hs; exact hs
  have hrl := globV_len ns next sl
  have HRL := Lib.hid (show (globV ns next sl).length ≤ 1048576 by omega)
  have CS0 := Lib.hid (fun W v h => specGlob W v ns next sl h HSZ.out hnl (by omega))
  have CI0 := Lib.hid (fun W v h => implGlob W v ns next sl h HSZ.out hnl (by omega))
  generalize globV ns next sl = ls at CS0 CI0 HRL
  have hlsl : ls.length ≤ 1048576 := HRL.out
  clear hlen hrl
  go_enter Tryz.func10, Tryz.ntmps10
  go_wp2_with fail
  refine CZ.mono ?_
  rintro e W1 ⟨rfl, hb1⟩
  have HB1 := Lib.hid (HB0.out.trans (hb1.mono HB0.out.size))
  have HN1 := Lib.hid (HN.out.on hb1)
  have B1 := B0.out.on hb1
  have c0 := B1.cell 0
  have c1 := B1.cell 1
  simp at c0 c1
  have HB0L := Lib.hid (Blk.on B0.out hb1)
  clear hb1 B1 B0
  go_wp2_with fail
  refine (toTree W1 a len cap ns next HN1.out hll).mono ?_
  rintro e W2 ⟨v2, rfl, hR2, hb2⟩
  obtain ⟨a2, k2, rfl⟩ := hR2.shape
  have CS := CS0.out W2 _ hR2.rd
  have HB2 := Lib.hid (HB1.out.trans (hb2.mono HB1.out.size))
  have HN2 := Lib.hid (HN1.out.on hb2)
  have BL2 := Lib.hid (HB0L.out.on hb2)
  clear hb2 hR2 c0 c1
  go_wp2_with fail
  refine CS.mono ?_
  rintro e W3 ⟨v3, rfl, hS3, hb3⟩
  have HB3 := Lib.hid (HB2.out.trans (hb3.mono HB2.out.size))
  have HN3 := Lib.hid (HN2.out.on hb3)
  have BL3 := Lib.hid (BL2.out.on hb3)
  have HS3 := Lib.hid hS3
  have HU3 := Lib.hid (fun k e => (World.ownsRow.lt hS3 k e).2)
  have c0 := BL3.out.cell 0
  have c1 := BL3.out.cell 1
  simp at c0 c1
  clear hb3 CS hS3
  go_wp2_with fail
  refine (toTree W3 a len cap ns next HN3.out hll).mono ?_
  rintro e W4 ⟨v4, rfl, hR4, hb4⟩
  obtain ⟨a4, k4, rfl⟩ := hR4.shape
  have HB4 := Lib.hid (HB3.out.trans (hb4.mono HB3.out.size))
  have HN4 := Lib.hid (HN3.out.on hb4)
  have BL4 := Lib.hid (BL3.out.on hb4)
  have HS4 := Lib.hid (HS3.out.on hb4)
  have hs4 := hb4.size
  have HGX := Lib.hid (World.ownsRow.lt hR4)
  have hbx := ((Below.refl W4.heap.size W4).alloc (Nat.le_refl _) (.cells #[.slice a4 ns.length k4, .int .i64 next] 26))
  obtain ⟨W5, hW5⟩ : ∃ W5, W4.alloc (.cells #[.slice a4 ns.length k4, .int .i64 next] 26) = W5 := ⟨_, rfl⟩
  rw [hW5] at hbx
  have CI := CI0.out W5 _ ((hR4.rd).on hbx)
  have BX5 := Lib.hid (show Blk W5 W4.heap.size #[.slice a4 ns.length k4, .int .i64 next] 26 by rw [← hW5]; exact Blk.new _ _ _)
  have HB5 := Lib.hid (HB4.out.trans (hbx.mono HB4.out.size))
  have HN5 := Lib.hid (HN4.out.on hbx)
  have BL5 := Lib.hid (BL4.out.on hbx)
  have HX5 := Lib.hid (hR4.on hbx)
  have HS5 := Lib.hid (HS4.out.on hbx)
  have hs5 : W5.heap.size = W4.heap.size + 1 := by rw [← hW5]; simp
  have hb3s := HB3.out.size
  have x0 := BX5.out.cell 0
  have x1 := BX5.out.cell 1
  simp at x0 x1
  clear hb4 hR4 c0 c1 hbx
  go_wp2_with fail
  refine CI.mono ?_
  rintro e W6 ⟨v6, rfl, hS6, hb6⟩
  have CE := eqStringS_t W6 _ _ _ _ ls hS6 (HS5.out.on hb6)
  have HB6 := Lib.hid (HB5.out.trans (hb6.mono HB5.out.size))
  have HN6 := Lib.hid (HN5.out.on hb6)
  have BL6 := Lib.hid (BL5.out.on hb6)
  have BX6 := Lib.hid (BX5.out.on hb6)
  have HX6 := Lib.hid (HX5.out.on hb6)
  have HS6 := Lib.hid (HS5.out.on hb6)
  have HG6 := Lib.hid hS6
  have hs6 := hb6.size
  clear hb6 CI hS6 x0 x1
  go_wp2_with fail
  refine CE.mono ?_
  rintro e W7 ⟨rfl, n7, rfl⟩
  obtain ⟨W7, hW7⟩ : ∃ W7, W6.drewN n7 = W7 := ⟨_, rfl⟩
  rw [hW7]
  have hb7 : Below W6.heap.size W6 W7 := by rw [← hW7]; exact below_drewN (Below.refl _ _) n7
  have HB7 := Lib.hid (HB6.out.trans (hb7.mono HB6.out.size))
  have HN7 := Lib.hid (HN6.out.on hb7)
  have BL7 := Lib.hid (BL6.out.on hb7)
  have BX7 := Lib.hid (BX6.out.on hb7)
  have HX7 := Lib.hid (HX6.out.on hb7)
  have HS7 := Lib.hid (HS6.out.on hb7)
  have HG7 := Lib.hid (HG6.out.on hb7)
  have hs7 := hb7.size
  have c0 := BL7.out.cell 0
  have c1 := BL7.out.cell 1
  have x0 := BX7.out.cell 0
  have x1 := BX7.out.cell 1
  simp at c0 c1 x0 x1
  clear hb7 CE hW7
  go_upto_region 12 with fail
  go_cut [38] (fun t W => t = .bool false ∧ Below W7.heap.size W7 W)
  case first =>
    go_region_with (first
      | (go_at_call 37; refine (toTree _ a len cap ns next (HN7.out.on (Below.refl _ _).drew) hll).mono ?_; rintro e W8 ⟨v8, rfl, hR8, hb8⟩; (obtain ⟨a8, k8, rfl⟩ := hR8.shape); (have d2 := ((BX7.out.drew 1).on hb8).cell 0); (have d3 := ((BX7.out.drew 1).on hb8).cell 1); simp at d2 d3; (have CE := eqTree W8 _ _ next ns ((HX7.out.rd.on (Below.refl _ _).drew).on hb8) hR8.rd); (have HB8 := Lib.hid ((Below.refl W7.heap.size W7).drew.trans (hb8.mono (Nat.le_refl _)))); clear hb8 hR8)
      | (go_at_call 39; refine CE.mono ?_; rintro e W9 ⟨rfl, hb9⟩; (have HB9 := Lib.hid (HB8.out.trans (hb9.mono HB8.out.size))); clear hb9))
    all_goals
      go_wp2
      go_meet
      exact ⟨rfl, HB9.out⟩
  case rest =>
    obtain ⟨rfl, hb8⟩ := hcut
    have HB8 := Lib.hid (HB7.out.trans (hb8.mono HB7.out.size))
    have HN8 := Lib.hid (HN7.out.on hb8)
    have BL8 := Lib.hid (BL7.out.on hb8)
    have BX8 := Lib.hid (BX7.out.on hb8)
    have HX8 := Lib.hid (HX7.out.on hb8)
    have HS8 := Lib.hid (HS7.out.on hb8)
    have HG8 := Lib.hid (HG7.out.on hb8)
    have hs8 := hb8.size
    have y0 := BX8.out.cell 0
    have y1 := BX8.out.cell 1
    simp at y0 y1
    clear hb8 c0 c1 x0 x1
    go_wp2_with fail
    refine (markTree1 wc _ _ ns next (by omega) HX8.out).mono ?_
    rintro e W9 ⟨rfl, _, hg9⟩
    have HB9 := Lib.hid (HB8.out.grown hg9 HB8.out.size (fun k e => by have := (HGX.out k e).1; omega))
    have hs9 := hg9.size
    have HS9 := Lib.hid (strs_kept_up HS8.out hg9 HU3.out (fun k e => (HGX.out k e).1))
    have HG9 := Lib.hid (strs_kept HG8.out hg9 (fun k e => by have := (HGX.out k e).2; omega))
    have BL9 := Lib.hid (BL8.out.grown hg9 (fun e => by have := (HGX.out _ e.symm).1; have := BL3.out.lt; omega))
    have hk9 : ¬ 1 + 6 * (ns.length : Int) < 0 := by omega
    have CE := eqStringS_t W9 _ _ _ _ ls HG9.out HS9.out
    clear hg9 y0 y1
    go_wp2_with fail
    refine CE.mono ?_
    rintro e W10 ⟨rfl, n10, rfl⟩
    have hG10 := HG9.out.on (below_drewN (Below.refl _ _) n10)
    have HB10 := Lib.hid (below_drewN HB9.out n10)
    have HS10 := Lib.hid (HS9.out.on (below_drewN (Below.refl _ _) n10))
    have BL10 := Lib.hid (BL9.out.drew n10)
    have hs10 : (W9.drewN n10).heap.size = W9.heap.size := rfl
    clear CE
    generalize W9.drewN n10 = W10 at hG10 HB10 HS10 BL10 hs10 ⊢
    go_wp2_with fail
    refine (markStringS1 W10 _ _ ls (by omega) hG10).mono ?_
    rintro e W11 ⟨rfl, hM, hb11⟩
    have HB11 := Lib.hid (HB10.out.trans (hb11.mono (by have := HB5.out.size; omega)))
    have HM11 := Lib.hid hM
    have HS11 := Lib.hid (show Strs W11 W2.heap.size v3 ls from HS10.out.below hb11 (by
      cases hv : v3.ownBlock with
      | none => exact .inl rfl
      | some k => exact .inr ⟨k, rfl, by have := HU3.out k hv; omega⟩))
    have BL11 := Lib.hid (BL10.out.below hb11 (by have := BL3.out.lt; omega))
    have hs11 := hb11.size
    clear hG10 hM hb11
    go_wp2_with fail
    refine (heldStringS1 W11 _ _ ls.length (by omega) HM11.out).mono ?_
    rintro e W12 ⟨rfl, hb12⟩
    have HB12 := Lib.hid (HB11.out.trans (hb12.mono HB11.out.size))
    have HN12 := Lib.hid (H00.out.on HB12.out)
    have HM12 := Lib.hid (HM11.out.on hb12)
    have HS12 := Lib.hid (HS11.out.on hb12)
    have BL12 := Lib.hid (BL11.out.on hb12)
    have c0 := BL12.out.cell 0
    have c1 := BL12.out.cell 1
    simp at c0 c1
    clear hb12
    have hk12 : ¬ (ls.length : Int) + 1 < 0 := by omega
    go_wp2_with fail
    refine (toTree W12 a len cap ns next HN12.out hll).mono ?_
    rintro e W13 ⟨v13, rfl, hR13, hb13⟩
    obtain ⟨a13, k13, rfl⟩ := hR13.shape
    have CI := CI0.out W13 _ hR13.rd
    have HB13 := Lib.hid (HB12.out.trans (hb13.mono HB12.out.size))
    have HM13 := Lib.hid (HM12.out.on hb13)
    have HS13 := Lib.hid (HS12.out.on hb13)
    clear hb13 hR13 c0 c1
    go_wp2_with fail
    refine CI.mono ?_
    rintro e W14 ⟨v14, rfl, hS14, hb14⟩
    have HB14 := Lib.hid (HB13.out.trans (hb14.mono HB13.out.size))
    have HM14 := Lib.hid (HM13.out.on hb14)
    have CE := eqStringS_t W14 _ _ _ _ ls hS14 (HS13.out.on hb14)
    clear hb14 CI hS14
    go_wp2_with fail
    refine CE.mono ?_
    rintro e W15 ⟨rfl, n15, rfl⟩
    have hM15 := HM14.out.on (below_drewN (Below.refl _ _) n15)
    have HB15 := Lib.hid (below_drewN HB14.out n15)
    clear CE
    generalize W14.drewN n15 = W15 at hM15 HB15 ⊢
    go_wp2_with fail
    refine (heldStringS1 W15 _ _ ls.length (by omega) hM15).mono ?_
    rintro e W16 ⟨rfl, hb16⟩
    have HB16 := Lib.hid (HB15.out.trans (hb16.mono HB15.out.size))
    clear hb16
    go_wp2
    go_ret
    exact ⟨rfl, HB16.out⟩
end Go.Proofs.YtipepbnmllbonaaGreatDoor
