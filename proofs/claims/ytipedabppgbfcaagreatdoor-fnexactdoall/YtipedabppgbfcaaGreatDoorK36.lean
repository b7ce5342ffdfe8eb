/- The laws' helpers on disks: szDisk, toDisk, eqDisk, markDisk, heldDisk. The laws' marks on disks: markDisk, heldDisk. -/
import Derived.Test.YtipedabppgbfcaaGreatDoorK34
import Derived.Test.YtipedabppgbfcaaGreatDoorK35
set_option linter.all false
namespace Go.Proofs.YtipedabppgbfcaaGreatDoor
open Go.RowKit

set_option maxRecDepth 100000 in
set_option maxHeartbeats 2000000 in
theorem szDisk (w : World) (a : Option Addr) (len cap : Nat) (ns : List Nd) (next : Int) (ob : Option Addr) (ol oc : Nat) (os : List Ov) (h : NIn w a len cap ns) (ho : OpR.NIn w ob ol oc os) :
    Calls Tryz.prog 48 #[.agg #[.slice a len cap, .int .i64 next, .slice ob ol oc], .int .i64 1048576] w fun e w' => e = .returned (.int .i64 (leftV 1048576 (bulkN ns + OpR.bulkO os))) ∧ Below w.heap.size w w' := by
  obtain ⟨wa, hwa⟩ : ∃ W, w.alloc (.cells #[.slice a len cap, .int .i64 next, .slice ob ol oc] 71) = W := ⟨_, rfl⟩
  have hb : Below w.heap.size w wa := by rw [← hwa]; exact (Below.refl _ _).alloc (Nat.le_refl _) _
  have HX := Lib.hid (show Blk wa w.heap.size #[.slice a len cap, .int .i64 next, .slice ob ol oc] 71 by rw [← hwa]; exact Blk.new _ _ _)
  have CS := szTree wa a len cap ns next 1048576 (by omega) (by omega) (h.on hb)
  have HB := Lib.hid hb
  have HO := Lib.hid (ho.on hb)
  have t0 := HX.out.cell 0
  have t1 := HX.out.cell 1
  have t2 := HX.out.cell 2
  simp at t0 t1 t2
  clear h ho hb
  by_cases hl : (bulkN ns : Int) ≤ 1048576
  rotate_left
  · rw [leftV_out hl] at CS
    go_enter Tryz.func48, Tryz.ntmps48
    go_wp2_with (go_at_call 37; refine CS.mono ?_; rintro e W1 ⟨rfl, hb2⟩)
    go_ret
    exact ⟨ret_int (by rw [leftV_out (by omega)]), HB.out.trans (hb2.mono HB.out.size)⟩
  rw [leftV_in hl] at CS
  have d1 : ¬ (1048576 : Int) - (bulkN ns : Int) < 0 := by omega
  have CO := Lib.hid (fun W (hb : Below wa.heap.size wa W) => OpR.szOpS W ob ol oc os (1048576 - bulkN ns) (by omega) (by omega) (HO.out.on hb))
  by_cases hk : (OpR.bulkO os : Int) ≤ 1048576 - bulkN ns
  · have d2 : ¬ (1048576 : Int) - (bulkN ns : Int) - (OpR.bulkO os : Int) < 0 := by omega
    have HE := Lib.hid (leftV_in hk)
    go_enter Tryz.func48, Tryz.ntmps48
    go_wp2_with (first | (go_at_call 37; refine CS.mono ?_; rintro e W1 ⟨rfl, hb2⟩; (have HB2 := Lib.hid hb2); (have t2 := (HX.out.on hb2).cell 2); simp at t2; clear hb2) | (go_at_call 44; refine (CO.out _ HB2.out).mono ?_; rw [HE.out]; rintro e W3 ⟨rfl, hb3⟩))
    go_ret
    exact ⟨ret_int (by rw [leftV_in (by omega)]; omega), (HB.out.trans (HB2.out.mono HB.out.size)).trans (hb3.mono (by have := HB.out.size; have := HB2.out.size; omega))⟩
  · have HE := Lib.hid (leftV_out hk)
    go_enter Tryz.func48, Tryz.ntmps48
    go_wp2_with (first | (go_at_call 37; refine CS.mono ?_; rintro e W1 ⟨rfl, hb2⟩; (have HB2 := Lib.hid hb2); (have t2 := (HX.out.on hb2).cell 2); simp at t2; clear hb2) | (go_at_call 44; refine (CO.out _ HB2.out).mono ?_; rw [HE.out]; rintro e W3 ⟨rfl, hb3⟩))
    go_ret
    exact ⟨ret_int (by rw [leftV_out (by omega)]), (HB.out.trans (HB2.out.mono HB.out.size)).trans (hb3.mono (by have := HB.out.size; have := HB2.out.size; omega))⟩

set_option maxRecDepth 100000 in
set_option maxHeartbeats 4000000 in
theorem toDisk (w : World) (a : Option Addr) (len cap : Nat) (ns : List Nd) (next : Int) (ob : Option Addr) (ol oc : Nat) (os : List Ov) (h : NIn w a len cap ns) (ho : OpR.NIn w ob ol oc os) (hl : len ≤ 1048576) (hol : ol ≤ 1048576) :
    Calls Tryz.prog 49 #[.agg #[.slice a len cap, .int .i64 next, .slice ob ol oc]] w fun e w' => ∃ v v2, e = .returned (.agg #[v, .int .i64 next, v2]) ∧ NRow w' w.heap.size v ns ∧ OpR.NRow w' w.heap.size v2 os ∧ Below w.heap.size w w' := by
  obtain ⟨wa, hwa⟩ : ∃ W, w.alloc (.cells #[.slice a len cap, .int .i64 next, .slice ob ol oc] 71) = W := ⟨_, rfl⟩
  obtain ⟨wb, hwb⟩ : ∃ W, wa.alloc (.cells #[.slice none 0 0, .int .i64 0, .slice none 0 0] 44) = W := ⟨_, rfl⟩
  obtain ⟨wc, hwc⟩ : ∃ W, wb.alloc (.cells #[.slice none 0 0, .int .i64 0, .slice none 0 0] 44) = W := ⟨_, rfl⟩
  have hsa : wa.heap.size = w.heap.size + 1 := by rw [← hwa]; simp
  have hsb : wb.heap.size = w.heap.size + 2 := by rw [← hwb]; simp [hsa]
  have hsc : wc.heap.size = w.heap.size + 3 := by rw [← hwc]; simp [hsb]
  have ba : Below w.heap.size w wa := by rw [← hwa]; exact (Below.refl _ _).alloc (Nat.le_refl _) _
  have bb : Below wa.heap.size wa wb := by rw [← hwb]; exact (Below.refl _ _).alloc (Nat.le_refl _) _
  have bc : Below wb.heap.size wb wc := by rw [← hwc]; exact (Below.refl _ _).alloc (Nat.le_refl _) _
  have HX := Lib.hid (((show Blk wa w.heap.size #[.slice a len cap, .int .i64 next, .slice ob ol oc] 71 by rw [← hwa]; exact Blk.new _ _ _).on bb).on bc)
  have HY := Lib.hid ((show Blk wb (w.heap.size + 1) #[.slice none 0 0, .int .i64 0, .slice none 0 0] 44 by rw [← hwb, ← hsa]; exact Blk.new _ _ _).on bc)
  have HZ := Lib.hid (show Blk wc (w.heap.size + 2) #[.slice none 0 0, .int .i64 0, .slice none 0 0] 44 by rw [← hwc, ← hsb]; exact Blk.new _ _ _)
  have HB := Lib.hid ((ba.trans (bb.mono (by omega))).trans (bc.mono (by omega)))
  have CS := toTree wc a len cap ns next (h.on HB.out) hl
  have HO := Lib.hid (fun W (hb : Below w.heap.size w W) => OpR.toOpS W ob ol oc os (ho.on hb) hol)
  have t0 := HX.out.cell 0
  have t1 := HX.out.cell 1
  simp at t0 t1
  clear h ho ba bb bc
  go_enter Tryz.func49, Tryz.ntmps49
  go_wp2_with (go_at_call 39; refine CS.mono ?_; rintro e W1 ⟨v1, rfl, hR1, hb1⟩; (obtain ⟨a1, k1, rfl⟩ := hR1.shape); (have HB1 := Lib.hid (HB.out.trans (hb1.mono HB.out.size))); (have HR1 := Lib.hid (hR1.base (B' := w.heap.size + 3) (by omega))); (have HX1 := Lib.hid (HX.out.on hb1)); (have HY1 := Lib.hid (HY.out.on hb1)); (have HZ1 := Lib.hid (HZ.out.on hb1)); (have z0 := (HZ.out.on hb1).cell 0); (have z1 := (HZ.out.on hb1).cell 1); (have fz := fun j => (HZ.out.on hb1).frozen j); (have x2 := (HX.out.on hb1).cell 2); simp at z0 z1 x2; clear hb1 hR1 t0 t1)
  have hs1 := HB1.out.size
  have hx1 := HZ1.out.lt
  have HW2 := Lib.hid (show Below w.heap.size w ((W1.setCell ⟨w.heap.size + 2, 0, none⟩ (.slice a1 ns.length k1)).setCell ⟨w.heap.size + 2, 1, none⟩ (.int .i64 next)) from (HB1.out.setCell (p := ⟨w.heap.size + 2, 0, none⟩) (by show w.heap.size ≤ w.heap.size + 2; omega) _).setCell (p := ⟨w.heap.size + 2, 1, none⟩) (by show w.heap.size ≤ w.heap.size + 2; omega) _)
  have HZ2 := Lib.hid ((HZ1.out.set 0 (.slice a1 ns.length k1)).set 1 (.int .i64 next))
  have HY2 := Lib.hid ((HY1.out.other ⟨w.heap.size + 2, 0, none⟩ (.slice a1 ns.length k1) (by show w.heap.size + 1 ≠ w.heap.size + 2; omega)).other ⟨w.heap.size + 2, 1, none⟩ (.int .i64 next) (by show w.heap.size + 1 ≠ w.heap.size + 2; omega))
  have HR2 := Lib.hid ((HR1.out.other ⟨w.heap.size + 2, 0, none⟩ (.slice a1 ns.length k1) (by show w.heap.size + 2 < w.heap.size + 3; omega)).other ⟨w.heap.size + 2, 1, none⟩ (.int .i64 next) (by show w.heap.size + 2 < w.heap.size + 3; omega))
  refine (HO.out _ HW2.out).mono ?_
  rintro e W3 ⟨v3, rfl, hR3, hb3⟩
  obtain ⟨a3, k3, rfl⟩ := hR3.shape
  have HB3 := Lib.hid (HW2.out.trans (hb3.mono HW2.out.size))
  have HZ3 := Lib.hid (HZ2.out.on hb3)
  have HY3 := Lib.hid (HY2.out.on hb3)
  have HR3 := Lib.hid (HR2.out.on hb3)
  have HO3 := Lib.hid (hR3.base (B' := w.heap.size + 3) (by simp; omega))
  have y0 := HY3.out.cell 0
  have y1 := HY3.out.cell 1
  have y2 := HY3.out.cell 2
  have fy := fun j => HY3.out.frozen j
  have z0 := HZ3.out.cell 0
  have z1 := HZ3.out.cell 1
  have z2 := HZ3.out.cell 2
  have fz := fun j => HZ3.out.frozen j
  simp at y0 y1 y2 z0 z1 z2
  clear hb3 hR3
  go_wp2
  refine bodyPost_ret (v := .agg #[.slice a1 ns.length k1, .int .i64 next, .slice a3 os.length k3]) ?_ rfl ⟨_, _, rfl, ?_, ?_, ?_⟩
  · simp [results, Tryz.results49, go_sem, y0, y1, y2, z0, z1, z2]
  · refine NRow.base (B := w.heap.size + 3) ?_ (by omega)
    iterate 4 (refine NRow.other ?_ _ _ (by simp))
    exact HR3.out
  · refine OpR.NRow.base (B := w.heap.size + 3) ?_ (by omega)
    iterate 4 (refine OpR.NRow.other ?_ _ _ (by simp))
    exact HO3.out
  · iterate 4 (refine Below.setCell ?_ (by simp <;> omega) _)
    exact HB3.out

set_option maxRecDepth 100000 in
set_option maxHeartbeats 2000000 in
theorem eqDisk (w : World) (v1 v2 u1 u2 : Value) (next : Int) (ns : List Nd) (os : List Ov) (h1 : NRd w v1 ns) (h2 : NRd w v2 ns) (o1 : OpR.NRd w u1 os) (o2 : OpR.NRd w u2 os) :
    Calls Tryz.prog 50 #[.agg #[v1, .int .i64 next, u1], .agg #[v2, .int .i64 next, u2]] w fun e w' => e = .returned (.bool true) ∧ Below w.heap.size w w' := by
  obtain ⟨a1, k1, e1⟩ : ∃ a c, v1 = .slice a ns.length c := by obtain ⟨a, c, h, _⟩ := h1; exact ⟨a, c, h⟩
  obtain ⟨a2, k2, e2⟩ : ∃ a c, v2 = .slice a ns.length c := by obtain ⟨a, c, h, _⟩ := h2; exact ⟨a, c, h⟩
  obtain ⟨a3, k3, e3⟩ : ∃ a c, u1 = .slice a os.length c := by obtain ⟨a, c, h, _⟩ := o1; exact ⟨a, c, h⟩
  obtain ⟨a4, k4, e4⟩ : ∃ a c, u2 = .slice a os.length c := by obtain ⟨a, c, h, _⟩ := o2; exact ⟨a, c, h⟩
  subst e1 e2 e3 e4
  obtain ⟨wa, hwa⟩ : ∃ W, w.alloc (.cells #[.slice a1 ns.length k1, .int .i64 next, .slice a3 os.length k3] 44) = W := ⟨_, rfl⟩
  obtain ⟨wb, hwb⟩ : ∃ W, wa.alloc (.cells #[.slice a2 ns.length k2, .int .i64 next, .slice a4 os.length k4] 44) = W := ⟨_, rfl⟩
  have hsa : wa.heap.size = w.heap.size + 1 := by rw [← hwa]; simp
  have hsb : wb.heap.size = w.heap.size + 2 := by rw [← hwb]; simp [hsa]
  have ba : Below w.heap.size w wa := by rw [← hwa]; exact (Below.refl _ _).alloc (Nat.le_refl _) _
  have bb : Below wa.heap.size wa wb := by rw [← hwb]; exact (Below.refl _ _).alloc (Nat.le_refl _) _
  have HX := Lib.hid ((show Blk wa w.heap.size #[.slice a1 ns.length k1, .int .i64 next, .slice a3 os.length k3] 44 by rw [← hwa]; exact Blk.new _ _ _).on bb)
  have HY := Lib.hid (show Blk wb (w.heap.size + 1) #[.slice a2 ns.length k2, .int .i64 next, .slice a4 os.length k4] 44 by rw [← hwb, ← hsa]; exact Blk.new _ _ _)
  have HB := Lib.hid (ba.trans (bb.mono (by omega)))
  have K := Lib.hid (show ∀ V, Below wb.heap.size wb V → V.cell? ⟨w.heap.size, 0, none⟩ = some (.slice a1 ns.length k1) ∧ V.cell? ⟨w.heap.size, 1, none⟩ = some (.int .i64 next) ∧ V.cell? ⟨w.heap.size, 2, none⟩ = some (.slice a3 os.length k3) ∧ V.cell? ⟨w.heap.size + 1, 0, none⟩ = some (.slice a2 ns.length k2) ∧ V.cell? ⟨w.heap.size + 1, 1, none⟩ = some (.int .i64 next) ∧ V.cell? ⟨w.heap.size + 1, 2, none⟩ = some (.slice a4 os.length k4) from fun V hb => by
    have hx := HX.out.on hb
    have hy := HY.out.on hb
    exact ⟨hx.cell 0, hx.cell 1, hx.cell 2, hy.cell 0, hy.cell 1, hy.cell 2⟩)
  have CE := Lib.hid (fun W (hb : Below wb.heap.size wb W) => eqTree W _ _ next ns ((h1.on HB.out).on hb) ((h2.on HB.out).on hb))
  have CO := Lib.hid (fun W (hb : Below wb.heap.size wb W) => OpR.eqOpS W _ _ os ((o1.on HB.out).on hb) ((o2.on HB.out).on hb))
  obtain ⟨t0, t1, t2, t3, t4, t5⟩ := K.out _ (Below.refl _ _)
  clear h1 h2 o1 o2 ba bb
  go_enter Tryz.func50, Tryz.ntmps50
  go_wp2_with (first
    | (go_at_call 41; refine (CE.out _ (by first | exact Below.refl _ _ | exact (Below.refl _ _).drew)).mono ?_; rintro e W1 ⟨rfl, hb1⟩; (have HB1 := Lib.hid (show Below wb.heap.size wb W1 by first | exact hb1 | exact ((Below.refl _ _).drew).trans hb1)); clear hb1 t0 t1 t2 t3 t4 t5; (obtain ⟨t0, t1, t2, t3, t4, t5⟩ := K.out _ HB1.out))
    | (go_at_call 46; refine (CO.out _ (by first | exact HB1.out | exact HB1.out.drew)).mono ?_; rintro e W2 ⟨rfl, hb2⟩; (have HB2 := Lib.hid (show Below wb.heap.size wb W2 by first | exact HB1.out.trans (hb2.mono HB1.out.size) | exact HB1.out.drew.trans (hb2.mono HB1.out.size))); clear hb2))
  go_ret
  exact ⟨rfl, HB.out.trans (HB2.out.mono HB.out.size)⟩
end Go.Proofs.YtipedabppgbfcaaGreatDoor
namespace Go.Proofs.YtipedabppgbfcaaGreatDoor
open Go.RowKit

/-- Both rows of a disk, marked. -/
structure DRow (W : World) (B : Nat) (v u : Value) (ns : List Nd) (os : List Ov) : Prop where
  ns : NRow W B v ns
  os : OpR.NRow W B u os
theorem DRow.on {W W' : World} {B : Nat} {v u : Value} {ns : List Nd} {os : List Ov} (h : DRow W B v u ns os) (hb : Below W.heap.size W W') : DRow W' B v u ns os := ⟨h.ns.on hb, h.os.on hb⟩
/-- The two rows are two blocks. -/
theorem DRow.apart {W : World} {B : Nat} {v u : Value} {ns : List Nd} {os : List Ov} (h : DRow W B v u ns os) : ∀ k, v.ownBlock = some k → u.ownBlock ≠ some k := fun k hv hu => by
  rcases h.ns.2 with ⟨e, _⟩ | ⟨g, cap, cur, e, _, hg, _⟩
  · rw [e] at hv; cases hv
  rcases h.os.2 with ⟨e2, _⟩ | ⟨g2, cap2, cur2, e2, _, hg2, _⟩
  · rw [e2] at hu; cases hu
  rw [e] at hv
  rw [e2] at hu
  have e3 : g = k := by simpa [Value.ownBlock] using hv
  have e4 : g2 = k := by simpa [Value.ownBlock] using hu
  subst e3 e4
  rw [hg] at hg2
  simp at hg2
theorem own_lt {W : World} {B size n : Nat} {e : TypeId} {v : Value} {xs : List Value} (h : W.ownsRow B e size v n xs) : ∀ k, v.ownBlock = some k → B ≤ k ∧ k < W.heap.size := World.ownsRow.lt h
theorem DRow.lt {W : World} {B : Nat} {v u : Value} {ns : List Nd} {os : List Ov} (h : DRow W B v u ns os) : ∀ k, v.ownBlock = some k ∨ u.ownBlock = some k → B ≤ k ∧ k < W.heap.size := fun k hk => by
  rcases hk with hk | hk
  · exact own_lt h.ns.own k hk
  · exact own_lt h.os.own k hk
theorem own_apart {w w' : World} {B : Nat} {e : TypeId} {size : Nat} {v : Value} {n : Nat} {xs : List Value} {row : Option Nat} (h : w.ownsRow B e size v n xs) (hg : w.grownBy w' row) (hne : ∀ k, v.ownBlock = some k → row ≠ some k) : w'.ownsRow B e size v n xs := by
  refine h.kept hg ?_
  rcases h.2 with ⟨rfl, _⟩ | ⟨g, cap, cur, rfl, hb, _⟩
  · exact .inl rfl
  · exact .inr fun e => hne g rfl (by first | exact e.symm | exact e)
/-- Two blocks are written, and nothing else. -/
structure Two (W W' : World) (x y : Option Nat) : Prop where
  os : W'.os = W.os
  tape : W'.tape = W.tape
  output : W'.output = W.output
  size : W.heap.size ≤ W'.heap.size
  block : ∀ k, k < W.heap.size → some k ≠ x → some k ≠ y → W'.heap[k]? = W.heap[k]?
theorem Two.of {A B C : World} {x y : Option Nat} (h : A.grownBy B x) (k : B.grownBy C y) : Two A C x y :=
  ⟨k.os.trans h.os, k.tape.trans h.tape, k.output.trans h.output, Nat.le_trans h.size k.size, fun i hi h1 h2 => (k.block i (Nat.lt_of_lt_of_le hi h.size) h2).trans (h.block i hi h1)⟩
theorem Two.below {W W' : World} {x y : Option Nat} {B : Nat} (h : Two W W' x y) (hB : B ≤ W.heap.size) (hx : ∀ k, x = some k → B ≤ k) (hy : ∀ k, y = some k → B ≤ k) : Below B W W' :=
  ⟨h.os, h.tape, h.output, h.size, fun k hk => h.block k (by omega) (fun e => by have := hx k e.symm; omega) (fun e => by have := hy k e.symm; omega)⟩
theorem Two.blk {W W' : World} {x y : Option Nat} {b : Nat} {cs : Array Value} {t : TypeId} (h : Two W W' x y) (hb : Blk W b cs t) (hx : some b ≠ x) (hy : some b ≠ y) : Blk W' b cs t := ⟨(h.block b hb.lt hx hy).trans hb.blk⟩
theorem Two.own {w w' : World} {x y : Option Nat} {B : Nat} {e : TypeId} {size : Nat} {v : Value} {n : Nat} {xs : List Value} (h : Two w w' x y) (ho : w.ownsRow B e size v n xs) (hx : ∀ k, v.ownBlock = some k → x ≠ some k) (hy : ∀ k, v.ownBlock = some k → y ≠ some k) : w'.ownsRow B e size v n xs := by
  refine ⟨ho.1, ?_⟩
  rcases ho.2 with h0 | ⟨g, cap, cur, hv, hb, hg, rest⟩
  · exact .inl h0
  · refine .inr ⟨g, cap, cur, hv, hb, ?_, rest⟩
    have hg1 : v.ownBlock = some g := by rw [hv]; rfl
    exact (h.block g (Array.getElem?_eq_some_iff.1 hg).1 (fun e => hx g hg1 e.symm) (fun e => hy g hg1 e.symm)).trans hg

set_option maxRecDepth 100000 in
set_option maxHeartbeats 2000000 in
theorem markDisk (w : World) (B : Nat) (v u : Value) (ns : List Nd) (next : Int) (os : List Ov) (hm : ns.length ≤ 2000000) (ho : os.length ≤ 2000000) (h : DRow w B v u ns os) :
    Calls Tryz.prog 53 #[.agg #[v, .int .i64 next, u], .int .i64 1] w fun e w' => e = .returned (.int .i64 (1 + 6 * (ns.length : Int) + 6 * (os.length : Int))) ∧ DRow w' B v u (marksN 1 ns.length) (OpR.marksO (1 + 6 * ns.length) os.length) ∧ Two w w' v.ownBlock u.ownBlock := by
  obtain ⟨a1, k1, rfl⟩ := h.ns.shape
  obtain ⟨a2, k2, rfl⟩ := h.os.shape
  obtain ⟨wa, hwa⟩ : ∃ W, w.alloc (.cells #[.slice a1 ns.length k1, .int .i64 next, .slice a2 os.length k2] 44) = W := ⟨_, rfl⟩
  have hb : Below w.heap.size w wa := by rw [← hwa]; exact (Below.refl _ _).alloc (Nat.le_refl _) _
  have HX := Lib.hid (show Blk wa w.heap.size #[.slice a1 ns.length k1, .int .i64 next, .slice a2 os.length k2] 44 by rw [← hwa]; exact Blk.new _ _ _)
  have HA := Lib.hid (h.on hb)
  have CM := markTree1 wa B _ ns next hm HA.out.ns
  have HG := Lib.hid (show w.grownBy wa (Value.ownBlock (.slice a1 ns.length k1)) by rw [← hwa]; exact World.grownBy_alloc w _ _)
  have HAP := Lib.hid h.apart
  have hlt := fun k (e : Value.ownBlock (.slice a1 ns.length k1) = some k) => (own_lt h.ns.own k e).2
  have HLT := Lib.hid hlt
  have t0 := HX.out.cell 0
  have t1 := HX.out.cell 1
  simp at t0 t1
  clear h hb hlt
  have hmi : (ns.length : Int) ≤ 2000000 := by omega
  have hoi : (os.length : Int) ≤ 2000000 := by omega
  go_enter Tryz.func53, Tryz.ntmps53
  go_wp2_with (go_at_call 42; refine CM.mono ?_; rintro e W1 ⟨rfl, hR1, hg1⟩; (have HR1 := Lib.hid hR1); (have HX1 := Lib.hid (HX.out.grown hg1 (fun e => by have := HLT.out _ e.symm; omega))); (have HO1 := Lib.hid (own_apart HA.out.os.own hg1 (fun k hu hv => HAP.out k hv hu))); (have HG1 := Lib.hid (HG.out.trans hg1)); (have t2 := HX1.out.cell 2); simp at t2; clear hR1 hg1 t0 t1)
  have HK := Lib.hid (show (1 : Int) + 6 * (ns.length : Int) = ((1 + 6 * ns.length : Nat) : Int) by omega)
  have CO := OpR.markOpS W1 B _ os (1 + 6 * ns.length) (by omega) (by omega) ho HO1.out
  rw [← HK.out] at CO
  refine CO.mono ?_
  rintro e W2 ⟨rfl, hR2, hg2⟩
  have HR2 := Lib.hid hR2
  have HN2 := Lib.hid (own_apart HR1.out.own hg2 (fun k hv hu => HAP.out k hv hu))
  have HT := Lib.hid (Two.of HG1.out hg2)
  clear hR2 hg2
  go_wp2
  go_ret
  exact ⟨rfl, ⟨HN2.out, HR2.out⟩, HT.out⟩
set_option maxRecDepth 100000 in
set_option maxHeartbeats 2000000 in
theorem heldDisk (w : World) (v u : Value) (n m : Nat) (next : Int) (hm : n ≤ 2000000) (ho : m ≤ 2000000) (h : NRd w v (marksN 1 n)) (h2 : OpR.NRd w u (OpR.marksO (1 + 6 * n) m)) :
    Calls Tryz.prog 54 #[.agg #[v, .int .i64 next, u], .int .i64 1] w fun e w' => e = .returned (.int .i64 (1 + 6 * (n : Int) + 6 * (m : Int))) ∧ Below w.heap.size w w' := by
  obtain ⟨a1, k1, rfl⟩ : ∃ a c, v = .slice a (marksN 1 n).length c := by obtain ⟨a, c, h, _⟩ := h; exact ⟨a, c, h⟩
  obtain ⟨a2, k2, rfl⟩ : ∃ a c, u = .slice a (OpR.marksO (1 + 6 * n) m).length c := by obtain ⟨a, c, h, _⟩ := h2; exact ⟨a, c, h⟩
  obtain ⟨wa, hwa⟩ : ∃ wa, w.alloc (.cells #[.slice a1 (marksN 1 n).length k1, .int .i64 next, .slice a2 (OpR.marksO (1 + 6 * n) m).length k2] 44) = wa := ⟨_, rfl⟩
  have hb : Below w.heap.size w wa := by rw [← hwa]; exact (Below.refl _ _).alloc (Nat.le_refl _) _
  have HX := Lib.hid (show Blk wa w.heap.size #[.slice a1 (marksN 1 n).length k1, .int .i64 next, .slice a2 (OpR.marksO (1 + 6 * n) m).length k2] 44 by rw [← hwa]; exact Blk.new _ _ _)
  have t0 := HX.out.cell 0
  have t1 := HX.out.cell 1
  simp at t0 t1
  have CM := heldTree1 wa _ n next hm (h.on hb)
  have HB := Lib.hid hb
  have HK := Lib.hid (show (1 : Int) + 6 * (n : Int) = ((1 + 6 * n : Nat) : Int) by omega)
  have CO := Lib.hid (fun W (hb2 : Below wa.heap.size wa W) => by
    have := OpR.heldOpS W _ (1 + 6 * n) m (by omega) (by omega) ho ((h2.on hb).on hb2)
    rw [← HK.out] at this
    exact this)
  have hl : (n : Int) ≤ 2000000 := by omega
  have hl2 : (m : Int) ≤ 2000000 := by omega
  clear h h2 hb
  go_enter Tryz.func54, Tryz.ntmps54
  go_wp2_with (first | (go_at_call 43; refine CM.mono ?_; rintro e W1 ⟨rfl, hb1⟩; (have HB1 := Lib.hid hb1); (have t2 := (HX.out.on hb1).cell 2); simp at t2; clear hb1 t0 t1) | (go_at_call 90; refine (CO.out _ HB1.out).mono ?_; rintro e W2 ⟨rfl, hb2⟩))
  go_ret
  exact ⟨rfl, (HB.out.trans (HB1.out.mono HB.out.size)).trans (hb2.mono (by have := HB.out.size; have := HB1.out.size; omega))⟩
end Go.Proofs.YtipedabppgbfcaaGreatDoor
