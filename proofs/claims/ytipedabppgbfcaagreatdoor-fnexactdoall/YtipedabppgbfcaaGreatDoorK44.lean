/- spec.DiskOk, Live, NewDisk, l08Copy, Put, Cut. A list of ops that comes in by value. -/
import Derived.Test.YtipedabppgbfcaaGreatDoorK43
import Derived.Test.YtipedabppgbfcaaGreatDoorK33
import Derived.Test.YtipedabppgbfcaaGreatDoorK36
import Derived.Test.YtipedabppgbfcaaGreatDoorK37
import Derived.Deep.DeepCutAuto
import Derived.Deep.RegionHeld
set_option linter.all false
namespace Go.Proofs.YtipedabppgbfcaaGreatDoor
open Go.RowKit

theorem row_nocap {w : World} {B : Nat} {v : Value} {ns : List Nd} (h : NRow w B v ns) : ∀ n c, v = .slice none n c → c = 0 := fun n c e => by
  rcases h.form with ⟨h1, _⟩ | ⟨g, cap, h1, _⟩
  · rw [h1] at e; simp at e; omega
  · rw [h1] at e; simp at e

set_option maxRecDepth 100000 in
set_option maxHeartbeats 4000000 in
theorem specDiskOk (w : World) (B : Nat) (v v2 : Value) (ns : List Nd) (next : Int) (os : List Ov) (h : DRow w B v v2 ns os) (hl : ns.length ≤ 1048576) (hol : os.length ≤ 2000000) (hz : ∀ n ∈ ns, n.path.length ≤ 2000000 ∧ n.data.length ≤ 2000000) (hoz : ∀ o ∈ os, o.path.length ≤ 2000000 ∧ o.dest.length ≤ 2000000 ∧ o.data.length ≤ 2000000) :
    Calls Tryz.prog 30 #[.agg #[v, .int .i64 next, v2]] w fun e w' => e = .returned (.bool (diskB ⟨⟨ns, next⟩, os⟩)) ∧ Below w.heap.size w w' := by
  have hk0 := row_nocap h.ns
  have H := Lib.hid h
  obtain ⟨a1, k1, rfl⟩ := h.ns.shape
  obtain ⟨a2, k2, rfl⟩ := h.os.shape
  obtain ⟨wa, hwa⟩ : ∃ W, w.alloc (.cells #[.slice a1 ns.length k1, .int .i64 next, .slice a2 os.length k2] 44) = W := ⟨_, rfl⟩
  have hsa : wa.heap.size = w.heap.size + 1 := by rw [← hwa]; simp
  have ba : Below w.heap.size w wa := by rw [← hwa]; exact (Below.refl _ _).alloc (Nat.le_refl _) _
  have HX := Lib.hid (show Blk wa w.heap.size #[.slice a1 ns.length k1, .int .i64 next, .slice a2 os.length k2] 44 by rw [← hwa]; exact Blk.new _ _ _)
  have HB := Lib.hid ba
  have CT := specTreeOk wa _ ns next (h.ns.on ba).rd hz
  have K := Lib.hid (show ∀ V, Below wa.heap.size wa V → V.cell? ⟨w.heap.size, 0, none⟩ = some (.slice a1 ns.length k1) ∧ V.cell? ⟨w.heap.size, 1, none⟩ = some (.int .i64 next) ∧ V.cell? ⟨w.heap.size, 2, none⟩ = some (.slice a2 os.length k2) from fun V hb => by
    have hx := HX.out.on hb
    exact ⟨hx.cell 0, hx.cell 1, hx.cell 2⟩)
  have CD := Lib.hid (fun W (hb : Below wa.heap.size wa W) => specDoAll W _ _ ns next os ((H.out.ns.on HB.out).on hb).rd hk0 hl ((H.out.os.on HB.out).on hb).rd hol hz hoz)
  obtain ⟨t0, t1, t2⟩ := K.out _ (Below.refl _ _)
  clear h ba
  have hoi : (os.length : Int) ≤ 2000000 := by omega
  by_cases hlo : 300 < os.length
  · have hli : (300 : Int) < (os.length : Int) := by omega
    have HE := Lib.hid (show diskB ⟨⟨ns, next⟩, os⟩ = false by unfold diskB; simp; omega)
    clear CT CD
    go_enter Tryz.func30, Tryz.ntmps30
    go_wp2_with fail
    go_ret
    exact ⟨by rw [HE.out]; rfl, HB.out⟩
  have hli : ¬ (300 : Int) < (os.length : Int) := by omega
  cases ht : treeB ns next with
  | false =>
    rw [ht] at CT
    have HE := Lib.hid (show diskB ⟨⟨ns, next⟩, os⟩ = false by unfold diskB; simp [ht])
    clear CD ht
    go_enter Tryz.func30, Tryz.ntmps30
    go_wp2_with (go_at_call 19; refine CT.mono ?_; rintro e W1 ⟨rfl, hb1⟩)
    go_ret
    exact ⟨by rw [HE.out]; rfl, HB.out.trans (hb1.mono HB.out.size)⟩
  | true =>
    rw [ht] at CT
    have HE := Lib.hid (show diskB ⟨⟨ns, next⟩, os⟩ = ((doAllV ⟨ns, next⟩ os).2.2 == 0) by unfold diskB; rw [ht, show decide (os.length ≤ 300) = true by simp; omega]; simp only [Bool.true_and]; rfl)
    generalize doAllV ⟨ns, next⟩ os = r at CD HE
    obtain ⟨⟨rns, rnx⟩, rk, code⟩ := r
    simp only at CD HE
    clear ht
    go_enter Tryz.func30, Tryz.ntmps30
    go_wp2_with (go_at_call 19; refine CT.mono ?_; rintro e W1 ⟨rfl, hb1⟩; (have HB1 := Lib.hid hb1); clear hb1 CT t0 t1 t2; (obtain ⟨t0, t1, t2⟩ := K.out _ HB1.out))
    refine (CD.out _ HB1.out).mono ?_
    rintro e W2 ⟨v5, rfl, _, hR5, hb2⟩
    obtain ⟨a5, k5, rfl⟩ : ∃ a c, v5 = .slice a rns.length c := by obtain ⟨a, c, h, _⟩ := hR5; exact ⟨a, c, h⟩
    have HB2 := Lib.hid ((HB.out.trans (HB1.out.mono HB.out.size)).trans (hb2.mono (by have := HB1.out.size; omega)))
    clear hb2
    go_wp2
    go_ret
    exact ⟨by rw [HE.out]; rfl, HB2.out.alloc HB2.out.size _⟩

set_option maxRecDepth 100000 in
set_option maxHeartbeats 4000000 in
theorem specLive (w : World) (B : Nat) (v v2 : Value) (ns : List Nd) (next : Int) (os : List Ov) (h : DRow w B v v2 ns os) (hl : ns.length ≤ 1048576) (hol : os.length ≤ 2000000) (hz : ∀ n ∈ ns, n.path.length ≤ 2000000 ∧ n.data.length ≤ 2000000) (hoz : ∀ o ∈ os, o.path.length ≤ 2000000 ∧ o.dest.length ≤ 2000000 ∧ o.data.length ≤ 2000000) :
    Calls Tryz.prog 55 #[.agg #[v, .int .i64 next, v2]] w fun e w' => ∃ v', e = .returned (.agg #[v', .int .i64 (liveV ⟨⟨ns, next⟩, os⟩).next]) ∧ (∀ n c, v' = .slice none n c → c = 0) ∧ NRd w' v' (liveV ⟨⟨ns, next⟩, os⟩).ns ∧ Below w.heap.size w w' := by
  have hk0 := row_nocap h.ns
  have H := Lib.hid h
  obtain ⟨a1, k1, rfl⟩ := h.ns.shape
  obtain ⟨a2, k2, rfl⟩ := h.os.shape
  obtain ⟨wa, hwa⟩ : ∃ W, w.alloc (.cells #[.slice a1 ns.length k1, .int .i64 next, .slice a2 os.length k2] 44) = W := ⟨_, rfl⟩
  have hsa : wa.heap.size = w.heap.size + 1 := by rw [← hwa]; simp
  have ba : Below w.heap.size w wa := by rw [← hwa]; exact (Below.refl _ _).alloc (Nat.le_refl _) _
  have HX := Lib.hid (show Blk wa w.heap.size #[.slice a1 ns.length k1, .int .i64 next, .slice a2 os.length k2] 44 by rw [← hwa]; exact Blk.new _ _ _)
  obtain ⟨wb, hwb⟩ : ∃ W, wa.alloc (.cells #[.slice none 0 0, .int .i64 0] 26) = W := ⟨_, rfl⟩
  have hsb : wb.heap.size = w.heap.size + 2 := by rw [← hwb]; simp [hsa]
  have bb : Below wa.heap.size wa wb := by rw [← hwb]; exact (Below.refl _ _).alloc (Nat.le_refl _) _
  have HRB := Lib.hid (show Blk wb (w.heap.size + 1) #[.slice none 0 0, .int .i64 0] 26 by rw [← hwb, ← hsa]; exact Blk.new _ _ _)
  have HB := Lib.hid (ba.trans (bb.mono ba.size))
  have K := Lib.hid (show ∀ V, Below wb.heap.size wb V → V.cell? ⟨w.heap.size, 0, none⟩ = some (.slice a1 ns.length k1) ∧ V.cell? ⟨w.heap.size, 1, none⟩ = some (.int .i64 next) ∧ V.cell? ⟨w.heap.size, 2, none⟩ = some (.slice a2 os.length k2) from fun V hb => by
    have hx := (HX.out.on bb).on hb
    exact ⟨hx.cell 0, hx.cell 1, hx.cell 2⟩)
  have CO := specDiskOk wb B _ _ ns next os (H.out.on HB.out) hl hol hz hoz
  have CD := Lib.hid (fun W (hb : Below wb.heap.size wb W) => specDoAll W _ _ ns next os ((H.out.ns.on HB.out).on hb).rd hk0 hl ((H.out.os.on HB.out).on hb).rd hol hz hoz)
  obtain ⟨t0, t1, t2⟩ := K.out _ (Below.refl _ _)
  clear h ba bb
  cases hd : diskB ⟨⟨ns, next⟩, os⟩ with
  | false =>
    rw [hd] at CO
    have HE := Lib.hid (show liveV ⟨⟨ns, next⟩, os⟩ = ⟨[], 0⟩ by unfold liveV; rw [hd]; rfl)
    clear hd CD
    go_enter Tryz.func55, Tryz.ntmps55
    go_wp2_with (go_at_call 30; refine CO.mono ?_; rintro e W1 ⟨rfl, hb1⟩; (have HB1 := Lib.hid (HB.out.trans (hb1.mono HB.out.size))); (have r0 := (HRB.out.on hb1).cell 0); (have r1 := (HRB.out.on hb1).cell 1); (have f0 := (HRB.out.on hb1).frozen 0); (have f1 := (HRB.out.on hb1).frozen 1); simp at r0 r1; clear hb1)
    refine bodyPost_ret (v := .agg #[.slice none 0 0, .int .i64 0]) ?_ rfl ⟨_, by rw [HE.out], fun _ _ e => by cases e; rfl, by rw [HE.out]; exact (NRow.nil w 0).rd |> fun _ => ⟨none, 0, rfl, Nat.le_refl _, Nat.zero_le _, .inl rfl⟩, ?_⟩
    · simp [results, Tryz.results55, go_sem, r0, r1]
    · iterate 2 (refine Below.setCell ?_ (by simp) _)
      exact HB1.out
  | true =>
    rw [hd] at CO
    have HE := Lib.hid (show liveV ⟨⟨ns, next⟩, os⟩ = (doAllV ⟨ns, next⟩ os).1 by unfold liveV; rw [if_pos hd, (Disk.of hd).allV])
    generalize doAllV ⟨ns, next⟩ os = r at CD HE
    obtain ⟨⟨rns, rnx⟩, rk, code⟩ := r
    simp only at CD HE
    clear hd
    go_enter Tryz.func55, Tryz.ntmps55
    go_wp2_with (go_at_call 30; refine CO.mono ?_; rintro e W1 ⟨rfl, hb1⟩; (have HB1 := Lib.hid hb1); clear hb1 CO t0 t1 t2; (obtain ⟨t0, t1, t2⟩ := K.out _ HB1.out))
    refine (CD.out _ HB1.out).mono ?_
    rintro e W2 ⟨v5, rfl, hc5, hR5, hb2⟩
    obtain ⟨a5, k5, rfl⟩ : ∃ a c, v5 = .slice a rns.length c := by obtain ⟨a, c, h, _⟩ := hR5; exact ⟨a, c, h⟩
    have HR5 := Lib.hid (And.intro hc5 hR5)
    have HB2 := Lib.hid ((HB.out.trans (HB1.out.mono HB.out.size)).trans (hb2.mono (by have := HB1.out.size; omega)))
    have HRB2 := Lib.hid ((HRB.out.on HB1.out).on hb2)
    have r0 := fun ob => (HRB2.out.alloc ob).cell 0
    have r1 := fun ob => (HRB2.out.alloc ob).cell 1
    have f0 := fun ob => (HRB2.out.alloc ob).frozen 0
    have f1 := fun ob => (HRB2.out.alloc ob).frozen 1
    have g1 := fun x ob => ((HRB2.out.set 0 x).alloc ob).cell 1
    have h1 := fun x ob => ((HRB2.out.set 0 x).alloc ob).frozen 1
    simp at r0 r1 g1
    have hs2 := HRB2.out.lt
    clear hb2 hc5 hR5 CD
    have z0 := fun x y ob => (((HRB2.out.set 0 x).set 1 y).alloc ob).cell 0
    have z1 := fun x y ob => (((HRB2.out.set 0 x).set 1 y).alloc ob).cell 1
    simp at z0 z1
    have HZ := Lib.hid (And.intro z0 z1)
    clear z0 z1
    go_wp2
    refine bodyPost_ret (v := .agg #[.slice a5 rns.length k5, .int .i64 rnx]) ?_ rfl ⟨.slice a5 rns.length k5, by rw [HE.out], HR5.out.1, ?_, ?_⟩
    · obtain ⟨z0, z1⟩ := HZ.out
      simp [results, Tryz.results55, go_sem, z0, z1]
    · rw [HE.out]
      exact (HR5.out.2.past HRB2.out _ _).on ((Below.refl _ _).alloc (Nat.le_refl _) _)
    · refine Below.alloc ?_ (by simp; omega) _
      iterate 2 (refine Below.setCell ?_ (by simp) _)
      exact HB2.out
end Go.Proofs.YtipedabppgbfcaaGreatDoor
namespace Go.Proofs.YtipedabppgbfcaaGreatDoor
open Go.RowKit Go.ChangeShapes Go.WideShapes Go.Deep

/-- An op out of six cells. -/
theorem ov_of {H : Type} {enc : TypeId × Value → H} {w : World} {base : Nat} {spare : Nat → Bool} {held : Bool} {a : Addr}
    (h : ∀ (j : Nat) (t : TypeId), ([3, 9, 9, 9, 3, 3] : List TypeId)[j]? = some t → ∃ (v : Value) (y : DataW H × List MemPlace) (n : Nat), w.cell? (a.add j) = some v ∧ DataW.trod enc Tryz.prog w base spare held n t [v] = some y) :
    ∃ o : Ov, OpR.NdIn w a o ∧ o.Wf := by
  obtain ⟨v0, y0, n0, c0, t0⟩ := h 0 _ rfl
  obtain ⟨v1, y1, n1, c1, t1⟩ := h 1 _ rfl
  obtain ⟨v2, y2, n2, c2, t2⟩ := h 2 _ rfl
  obtain ⟨v3, y3, n3, c3, t3⟩ := h 3 _ rfl
  obtain ⟨v4, y4, n4, c4, t4⟩ := h 4 _ rfl
  obtain ⟨v5, y5, n5, c5, t5⟩ := h 5 _ rfl
  obtain ⟨i0, e0, _⟩ := DataW.trod_int Tryz.underlying3 t0
  obtain ⟨s1, e1, _, z1⟩ := DataW.trod_string Tryz.underlying9 t1
  obtain ⟨s2, e2, _, z2⟩ := DataW.trod_string Tryz.underlying9 t2
  obtain ⟨s3, e3, _, z3⟩ := DataW.trod_string Tryz.underlying9 t3
  obtain ⟨i4, e4, _⟩ := DataW.trod_int Tryz.underlying3 t4
  obtain ⟨i5, e5, _⟩ := DataW.trod_int Tryz.underlying3 t5
  simp only [List.cons.injEq, and_true] at e0 e1 e2 e3 e4 e5
  subst e0 e1 e2 e3 e4 e5
  refine ⟨⟨i0, s1.data.toList, s2.data.toList, s3.data.toList, i4, i5⟩, fun j v hj => ?_, ⟨by simpa using z1, by simpa using z2, by simpa using z3⟩⟩
  match j, hj with
  | 0, hj => cases hj; exact c0
  | 1, hj => cases hj; rw [c1]; cases s1; simp [strOf]
  | 2, hj => cases hj; rw [c2]; cases s2; simp [strOf]
  | 3, hj => cases hj; rw [c3]; cases s3; simp [strOf]
  | 4, hj => cases hj; exact c4
  | 5, hj => cases hj; exact c5
  | j + 6, hj => simp [OpR.nodeVals] at hj

set_option maxRecDepth 100000 in
theorem ops_cells {H : Type} {enc : TypeId × Value → H} {w : World} {base : Nat} {spare : Nat → Bool} {held : Bool} {fuel : Nat} {c : Value} {y : DataW H × List MemPlace}
    (h : DataW.trod enc Tryz.prog w base spare held fuel 64 [c] = some y) :
    ∃ (a : Option Addr) (len cap : Nat) (os : List Ov), c = .slice a len cap ∧ OpR.NIn w a len cap os := by
  rcases open_rows Tryz.underlying64 Tryz.underlying57 (by kernel_rfl) (by kernel_rfl) h with e0 | ⟨x, len, cap, e0, hlc, hcm, hi⟩
  · simp only [List.cons.injEq, and_true] at e0
    exact ⟨none, 0, 0, [], e0, .inl ⟨rfl, rfl, rfl, rfl⟩⟩
  · simp only [List.cons.injEq, and_true] at e0
    obtain ⟨ns, hl, hr⟩ := list_of (R := fun i o => OpR.NdIn w (x.add (i * 6)) o ∧ o.Wf) (n := len) fun i hil => ov_of (enc := enc) (base := base) (spare := spare) (held := held) fun j t ht => by
      match j, ht with
      | 0, ht => cases ht; obtain ⟨v, y, n, hc, h⟩ := hi i hil 0 _ rfl; exact ⟨v, y, n, by rw [Go.Deep.add_add]; exact hc, h⟩
      | 1, ht => cases ht; obtain ⟨v, y, n, hc, h⟩ := hi i hil 1 _ rfl; exact ⟨v, y, n, by rw [Go.Deep.add_add]; exact hc, h⟩
      | 2, ht => cases ht; obtain ⟨v, y, n, hc, h⟩ := hi i hil 2 _ rfl; exact ⟨v, y, n, by rw [Go.Deep.add_add]; exact hc, h⟩
      | 3, ht => cases ht; obtain ⟨v, y, n, hc, h⟩ := hi i hil 3 _ rfl; exact ⟨v, y, n, by rw [Go.Deep.add_add]; exact hc, h⟩
      | 4, ht => cases ht; obtain ⟨v, y, n, hc, h⟩ := hi i hil 4 _ rfl; exact ⟨v, y, n, by rw [Go.Deep.add_add]; exact hc, h⟩
      | 5, ht => cases ht; obtain ⟨v, y, n, hc, h⟩ := hi i hil 5 _ rfl; exact ⟨v, y, n, by rw [Go.Deep.add_add]; exact hc, h⟩
      | j + 6, ht => simp at ht
    refine ⟨some x, len, cap, ns, e0, .inr ⟨x, rfl, hlc, hcm, hl, fun hn => ?_, fun n hn => ?_, fun i hi => (hr i hi).1⟩⟩
    · cases ns with
      | nil => exact absurd rfl hn
      | cons nd r =>
        have hc := ((hr 0 (by simp)).1).cells.1
        have := cell_lt hc
        rwa [add_block] at this
    · obtain ⟨i, hi, rfl⟩ := List.getElem_of_mem hn
      exact (hr i hi).2
set_option maxRecDepth 100000 in
theorem open_ops {H : Type} {enc : TypeId × Value → H} {w : World} {base : Nat} {spare : Nat → Bool} {held : Bool} {r : Reach} {b0 : Nat} {v : Value} {dt : DataW H} {p : List MemPlace}
    (hv : Value.okWide Tryz.prog w r b0 64 v) (hr : DataW.Trod enc Tryz.prog w base spare held 64 v dt p) :
    ∃ (a : Option Addr) (len cap : Nat) (os : List Ov), v = .slice a len cap ∧ OpR.NIn w a len cap os := by
  obtain ⟨a, len, cap, rfl⟩ := okWide_slice Tryz.underlying64 hv
  obtain ⟨fuel, hf⟩ := hr
  obtain ⟨a', len', cap', os, e, h⟩ := ops_cells (c := .slice a len cap) hf
  exact ⟨a', len', cap', os, e, h⟩

set_option maxRecDepth 100000 in
theorem tree_cells {H : Type} {enc : TypeId × Value → H} {w : World} {base : Nat} {spare : Nat → Bool} {held : Bool} {fuel : Nat} {c0 c1 : Value} {y : DataW H × List MemPlace}
    (hf : DataW.trod enc Tryz.prog w base spare held fuel 56 [c0, c1] = some y) :
    ∃ (a : Option Addr) (len cap : Nat) (ns : List Nd) (next : Int), c0 = .slice a len cap ∧ c1 = .int .i64 next ∧ NIn w a len cap ns := by
  obtain ⟨xs, n, _, hx, _, hlen, hg⟩ := DataW.trod_struct Tryz.underlying56 hf
  have one1 : Tryz.prog.cellsOf 3 = 1 := by kernel_rfl
  have one0 : Tryz.prog.cellsOf 54 = 1 := by kernel_rfl
  have xl : xs.length = 2 := hlen
  obtain ⟨y0, y1, rfl⟩ : ∃ y0 y1, xs = [y0, y1] := by
    match xs, xl with
    | [a, b], _ => exact ⟨a, b, rfl⟩
  have h0 : DataW.trod enc Tryz.prog w base spare held n 54 [c0] = some y0 := by simpa [one0] using hg 0 _ rfl
  have h1 : DataW.trod enc Tryz.prog w base spare held n 3 [c1] = some y1 := by simpa [one0, one1] using hg 1 _ rfl
  obtain ⟨z1, e1, _, w1⟩ := DataW.trod_int Tryz.underlying3 h1
  simp only [List.cons.injEq, and_true] at e1
  rcases open_rows Tryz.underlying54 Tryz.underlying155 (by kernel_rfl) (by kernel_rfl) h0 with e0 | ⟨x, len, cap, e0, hlc, hcm, hi⟩
  · simp only [List.cons.injEq, and_true] at e0
    exact ⟨none, 0, 0, [], z1, e0, e1, .inl ⟨rfl, rfl, rfl, rfl⟩⟩
  · simp only [List.cons.injEq, and_true] at e0
    obtain ⟨ns, hl, hr⟩ := list_of (R := fun i nd => NdIn w (x.add (i * 6)) nd ∧ nd.path.length ≤ maxLen ∧ nd.data.length ≤ maxLen) (n := len) fun i hil => nd_of (enc := enc) (base := base) (spare := spare) (held := held) fun j t ht => by
      match j, ht with
      | 0, ht => cases ht; obtain ⟨v, y, n, hc, h⟩ := hi i hil 0 _ rfl; exact ⟨v, y, n, by rw [Go.Deep.add_add]; exact hc, h⟩
      | 1, ht => cases ht; obtain ⟨v, y, n, hc, h⟩ := hi i hil 1 _ rfl; exact ⟨v, y, n, by rw [Go.Deep.add_add]; exact hc, h⟩
      | 2, ht => cases ht; obtain ⟨v, y, n, hc, h⟩ := hi i hil 2 _ rfl; exact ⟨v, y, n, by rw [Go.Deep.add_add]; exact hc, h⟩
      | 3, ht => cases ht; obtain ⟨v, y, n, hc, h⟩ := hi i hil 3 _ rfl; exact ⟨v, y, n, by rw [Go.Deep.add_add]; exact hc, h⟩
      | 4, ht => cases ht; obtain ⟨v, y, n, hc, h⟩ := hi i hil 4 _ rfl; exact ⟨v, y, n, by rw [Go.Deep.add_add]; exact hc, h⟩
      | 5, ht => cases ht; obtain ⟨v, y, n, hc, h⟩ := hi i hil 5 _ rfl; exact ⟨v, y, n, by rw [Go.Deep.add_add]; exact hc, h⟩
      | j + 6, ht => simp at ht
    refine ⟨some x, len, cap, ns, z1, e0, e1, .inr ⟨x, rfl, hlc, hcm, hl, fun hn => ?_, fun n hn => ?_, fun i hi => (hr i hi).1⟩⟩
    · cases ns with
      | nil => exact absurd rfl hn
      | cons nd r =>
        have hc := ((hr 0 (by simp)).1).cells.1
        have := cell_lt hc
        rwa [add_block] at this
    · obtain ⟨i, hi, rfl⟩ := List.getElem_of_mem hn
      exact (hr i hi).2
set_option maxRecDepth 100000 in
theorem open_disk {H : Type} {enc : TypeId × Value → H} {w : World} {base : Nat} {spare : Nat → Bool} {held : Bool} {r : Reach} {b0 : Nat} {v : Value} {dt : DataW H} {p : List MemPlace}
    (hv : Value.okWide Tryz.prog w r b0 71 v) (hr : DataW.Trod enc Tryz.prog w base spare held 71 v dt p) :
    ∃ (a : Option Addr) (len cap : Nat) (ns : List Nd) (next : Int) (c : Option Addr) (m k : Nat) (os : List Ov), v = .agg #[.slice a len cap, .int .i64 next, .slice c m k] ∧ NIn w a len cap ns ∧ OpR.NIn w c m k os := by
  obtain ⟨⟨l⟩, rfl, hsz⟩ := okWide_struct Tryz.underlying71 hv
  have hl3 : l.length = 3 := hsz.trans (by kernel_rfl)
  obtain ⟨c0, c1, c2, rfl⟩ : ∃ c0 c1 c2, l = [c0, c1, c2] := by
    match l, hl3 with
    | [a, b, c], _ => exact ⟨a, b, c, rfl⟩
  obtain ⟨fuel, hf⟩ := hr
  obtain ⟨xs, n, _, hx, _, hlen, hg⟩ := DataW.trod_struct Tryz.underlying71 hf
  have two0 : Tryz.prog.cellsOf 56 = 2 := by kernel_rfl
  have one0 : Tryz.prog.cellsOf 64 = 1 := by kernel_rfl
  have xl : xs.length = 2 := hlen
  obtain ⟨y0, y1, rfl⟩ : ∃ y0 y1, xs = [y0, y1] := by
    match xs, xl with
    | [a, b], _ => exact ⟨a, b, rfl⟩
  have h0 : DataW.trod enc Tryz.prog w base spare held n 56 [c0, c1] = some y0 := by simpa [Value.cells, two0] using hg 0 _ rfl
  have h1 : DataW.trod enc Tryz.prog w base spare held n 64 [c2] = some y1 := by simpa [Value.cells, one0, two0] using hg 1 _ rfl
  obtain ⟨a, len, cap, ns, next, rfl, rfl, hN⟩ := tree_cells h0
  obtain ⟨c, m, k, os, rfl, hO⟩ := ops_cells h1
  exact ⟨a, len, cap, ns, next, c, m, k, os, rfl, hN, hO⟩
end Go.Proofs.YtipedabppgbfcaaGreatDoor
