/- Proved: laws.FnExactTreeOk answers true at every tree: impl.TreeOk answers as spec.TreeOk does, and the argument reads as before. The listed tables of the standard library are tied to the program's text, and are not read; the card speaks of the pruned copy of the project that the seat holds. -/
import Derived.Test.YtipepbnmllbonaaDoorTreeOkS2
import Derived.Test.YtipepbnmllbonaaDoorTreeOkI
import Derived.Test.YtipepbnmllbonaaDoorLaid4
import Derived.Test.YtipepbnmllbonaaDoorTreeArg
namespace Go.Proofs.YtipepbnmllbonaaDoor
open Go.RowKit
set_option maxRecDepth 100000 in
set_option maxHeartbeats 4000000 in
theorem walkExactTreeOk (a : Option Addr) (len cap : Nat) (ns : List Nd) (next : Int) (w : World) (h : NIn w a len cap ns) :
    Calls Tryd.prog 3 #[.agg #[.slice a len cap, .int .i64 next]] w fun e w' => e = .returned (.bool true) ∧ Below w.heap.size w w' := by
  have hb0 := (Below.refl w.heap.size w).alloc (Nat.le_refl _) (.cells #[.slice a len cap, .int .i64 next] 24)
  have B0 := Lib.hid (Blk.new w #[.slice a len cap, .int .i64 next] 24)
  have HN := Lib.hid (h.on hb0)
  have HB0 := Lib.hid hb0
  have hlen := h.len
  clear h hb0
  have CZ := szTree _ a len cap ns next 1048576 (by omega) (by omega) HN.out
  by_cases hz : (bulkN ns : Int) ≤ 1048576
  rotate_left
  · rw [leftV_out hz] at CZ
    go_enter Tryd.func3, Tryd.ntmps3
    go_wp2_with fail
    refine CZ.mono ?_
    rintro e W1 ⟨rfl, hb1⟩
    go_wp2
    go_ret
    exact ⟨rfl, HB0.out.trans (hb1.mono HB0.out.size)⟩
  rw [leftV_in hz] at CZ
  have hll : len ≤ 1048576 := by unfold bulkN at hz; omega
  have hz2 : ¬ (1048576 : Int) - bulkN ns < 0 := by omega
  have HSZ := Lib.hid (show ∀ n ∈ ns, n.path.length ≤ 2000000 ∧ n.data.length ≤ 2000000 from fun n hn => by have := szNs_mem hn; unfold bulkN at hz; unfold szN at this; omega)
  clear hlen
  go_enter Tryd.func3, Tryd.ntmps3
  go_wp2_with fail
  refine CZ.mono ?_
  rintro e W1 ⟨rfl, hb1⟩
  have HB1 := Lib.hid (HB0.out.trans (hb1.mono HB0.out.size))
  have HN1 := Lib.hid (HN.out.on hb1)
  have B1 := B0.out.on hb1
  have c0 := B1.cell 0
  have c1 := B1.cell 1
  simp at c0 c1
  have HB0L := Lib.hid (Blk.on B0.out hb1)
  clear hb1 B1 B0
  go_wp2_with fail
  refine (toTree W1 a len cap ns next HN1.out hll).mono ?_
  rintro e W2 ⟨v2, rfl, hR2, hb2⟩
  obtain ⟨a2, k2, rfl⟩ := hR2.shape
  have CS := specTreeOk W2 _ ns next hR2.rd HSZ.out
  have HB2 := Lib.hid (HB1.out.trans (hb2.mono HB1.out.size))
  have HN2 := Lib.hid (HN1.out.on hb2)
  have BL2 := Lib.hid (HB0L.out.on hb2)
  clear hb2 hR2 c0 c1
  go_wp2_with fail
  refine CS.mono ?_
  rintro e W3 ⟨rfl, hb3⟩
  have HB3 := Lib.hid (HB2.out.trans (hb3.mono HB2.out.size))
  have HN3 := Lib.hid (HN2.out.on hb3)
  have BL3 := Lib.hid (BL2.out.on hb3)
  have c0 := BL3.out.cell 0
  have c1 := BL3.out.cell 1
  simp at c0 c1
  clear hb3 CS
  go_wp2_with fail
  refine (toTree W3 a len cap ns next HN3.out hll).mono ?_
  rintro e W4 ⟨v4, rfl, hR4, hb4⟩
  obtain ⟨a4, k4, rfl⟩ := hR4.shape
  have HB4 := Lib.hid (HB3.out.trans (hb4.mono HB3.out.size))
  have HN4 := Lib.hid (HN3.out.on hb4)
  have BL4 := Lib.hid (BL3.out.on hb4)
  have HX4 := Lib.hid hR4
  have hbx := ((Below.refl W4.heap.size W4).alloc (Nat.le_refl _) (.cells #[.slice a4 ns.length k4, .int .i64 next] 29))
  have CI := implTreeOk _ _ ns next ((hR4.rd).on hbx) HSZ.out
  have BX4 := Lib.hid (Blk.new W4 #[.slice a4 ns.length k4, .int .i64 next] 29)
  have HB5 := Lib.hid (HB4.out.trans (hbx.mono HB4.out.size))
  have HN5 := Lib.hid (HN4.out.on hbx)
  have BL5 := Lib.hid (BL4.out.on hbx)
  have HR5 := Lib.hid ((hR4.rd).on hbx)
  clear hb4 hR4 c0 c1 hbx
  go_wp2_with fail
  refine CI.mono ?_
  rintro e W6 ⟨rfl, hb6⟩
  have HB6 := Lib.hid (HB5.out.trans (hb6.mono HB5.out.size))
  have HN6 := Lib.hid (HN5.out.on hb6)
  have BL6 := Lib.hid (BL5.out.on hb6)
  have BX6 := Lib.hid (BX4.out.on hb6)
  have HR6 := Lib.hid (HR5.out.on hb6)
  have c0 := BL6.out.cell 0
  have c1 := BL6.out.cell 1
  have d0 := BX6.out.cell 0
  have d1 := BX6.out.cell 1
  simp at c0 c1 d0 d1
  clear hb6 CI
  go_wp2
  go_region_with (first
    | (go_at_call 7; refine (toTree _ a len cap ns next (HN6.out.on (Below.refl _ _).drew) hll).mono ?_; rintro e W7 ⟨v7, rfl, hR7, hb7⟩; (obtain ⟨a7, k7, rfl⟩ := hR7.shape); (have d2 := ((BX6.out.drew 1).on hb7).cell 0); (have d3 := ((BX6.out.drew 1).on hb7).cell 1); simp at d2 d3; (have CE := eqTree W7 _ _ next ns ((HR6.out.on (Below.refl _ _).drew).on hb7) hR7.rd); (have HB7 := Lib.hid (HB6.out.drew.trans (hb7.mono HB6.out.drew.size))); clear hb7 hR7)
    | (go_at_call 9; refine CE.mono ?_; rintro e W8 ⟨rfl, hb8⟩; (have HB8 := Lib.hid (HB7.out.trans (hb8.mono HB7.out.size))); clear hb8))
  all_goals
    go_wp2
    go_ret
    exact ⟨rfl, HB8.out⟩
end Go.Proofs.YtipepbnmllbonaaDoor
