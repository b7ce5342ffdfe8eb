/- The draw of a date: six ints, whatever they are. -/
import Derived.Test.YthcofpkppienaaaDoorDrawDays
namespace Go.Proofs.YthcofpkppienaaaDoor
open Go.RowKit

theorem Cur.on {w0 W W' : World} {p : Nat} {a : Option Addr} {len cap i : Nat} {h : Int} (hc : Cur w0 W p a len cap i h) (hb : Below W.heap.size W W') : Cur w0 W' p a len cap i h :=
  ⟨(hb.block p hc.lt).trans hc.blk, hc.hi, hc.below.trans (hb.mono hc.below.size), hc.hp⟩
/-- Six cells of a block of the call's own. -/
structure Six (W : World) (b : Nat) (v0 v1 v2 v3 v4 v5 : Int) : Prop where
  blk : W.heap[b]? = some (.cells #[.int .i64 v0, .int .i64 v1, .int .i64 v2, .int .i64 v3, .int .i64 v4, .int .i64 v5] 26 (0, 0))
theorem Six.cell {W : World} {b : Nat} {v0 v1 v2 v3 v4 v5 : Int} (h : Six W b v0 v1 v2 v3 v4 v5) (j : Nat) : W.cell? ⟨b, j, none⟩ = (#[.int .i64 v0, .int .i64 v1, .int .i64 v2, .int .i64 v3, .int .i64 v4, .int .i64 v5] : Array Value)[j]? ∧ W.frozen? ⟨b, j, none⟩ = false := cell_of_blk h.blk j
theorem Six.new (W : World) (v0 v1 v2 v3 v4 v5 : Int) : Six (W.alloc (.cells #[.int .i64 v0, .int .i64 v1, .int .i64 v2, .int .i64 v3, .int .i64 v4, .int .i64 v5] 26)) W.heap.size v0 v1 v2 v3 v4 v5 := ⟨heap_alloc_new W _⟩
theorem Six.alloc {W : World} {b : Nat} {v0 v1 v2 v3 v4 v5 : Int} (h : Six W b v0 v1 v2 v3 v4 v5) (o : Obj) : Six (W.alloc o) b v0 v1 v2 v3 v4 v5 := ⟨(Below.heap_alloc W o b (Array.getElem?_eq_some_iff.1 h.blk).1).trans h.blk⟩
theorem Six.on {W W' : World} {b : Nat} {v0 v1 v2 v3 v4 v5 : Int} (h : Six W b v0 v1 v2 v3 v4 v5) (hb : Below W.heap.size W W') : Six W' b v0 v1 v2 v3 v4 v5 := ⟨(hb.block b (Array.getElem?_eq_some_iff.1 h.blk).1).trans h.blk⟩
theorem Six.grown {W W' : World} {b p : Nat} {v0 v1 v2 v3 v4 v5 : Int} (h : Six W b v0 v1 v2 v3 v4 v5) (hg : W.grownBy W' (some p)) (hne : b ≠ p) : Six W' b v0 v1 v2 v3 v4 v5 := ⟨(hg.block b (Array.getElem?_eq_some_iff.1 h.blk).1 (fun e => hne (Option.some.inj e))).trans h.blk⟩
theorem Six.lt {W : World} {b : Nat} {v0 v1 v2 v3 v4 v5 : Int} (h : Six W b v0 v1 v2 v3 v4 v5) : b < W.heap.size := (Array.getElem?_eq_some_iff.1 h.blk).1
theorem grownBy_below {A B : World} (h : Below A.heap.size A B) (row : Option Nat) : A.grownBy B row := ⟨h.os, h.tape, h.output, h.size, fun k hk _ => h.block k hk⟩
theorem grownBy_new_set {A B : World} {row : Option Nat} (h : A.grownBy B row) (q j : Nat) (v : Value) (hq : A.heap.size ≤ q) : A.grownBy (B.setCell ⟨q, j, none⟩ v) row :=
  ⟨h.os, h.tape, h.output, Nat.le_trans h.size (by simp [World.setCell]), fun k hk hr => (Below.heap_setCell B ⟨q, j, none⟩ v k (fun e => by have : k = q := e; omega)).trans (h.block k hk hr)⟩
/-- The six stores into the result's block. -/
theorem grownBy_six {A B : World} {row : Option Nat} (h : A.grownBy B row) (q : Nat) (v0 v1 v2 v3 v4 v5 : Value) (hq : A.heap.size ≤ q) :
    A.grownBy ((((((B.setCell ⟨q, 0, none⟩ v0).setCell ⟨q, 1, none⟩ v1).setCell ⟨q, 2, none⟩ v2).setCell ⟨q, 3, none⟩ v3).setCell ⟨q, 4, none⟩ v4).setCell ⟨q, 5, none⟩ v5) row :=
  grownBy_new_set (grownBy_new_set (grownBy_new_set (grownBy_new_set (grownBy_new_set (grownBy_new_set h q 0 v0 hq) q 1 v1 hq) q 2 v2 hq) q 3 v3 hq) q 4 v4 hq) q 5 v5 hq
theorem date_of (n : Int) : ∃ y mo d hh mi s : Int, ∀ w, Calls Tryd.prog 29 #[.int .i64 n] w fun e w' => e = .returned (.agg #[.int .i64 y, .int .i64 mo, .int .i64 d, .int .i64 hh, .int .i64 mi, .int .i64 s]) ∧ Below w.heap.size w w' := by
  cases ht : timeB n
  · exact ⟨0, 0, 0, 0, 0, 0, fun w => specDateOf_out n w ht⟩
  · have hb := inB_iff.1 ht
    obtain ⟨x, hx, rfl⟩ := dt_some n hb.1 hb.2
    exact ⟨x.y, x.mo, x.d, x.h, x.mi, x.s, fun w => specDateOfX x hx w⟩

set_option maxRecDepth 100000 in
set_option maxHeartbeats 2000000 in
theorem specDate (w0 W : World) (p : Nat) (a : Option Addr) (len cap i : Nat) (h : Int) (zs : List Int) (hr : IsRow .u8 w0 a len cap zs) (hc : Cur w0 W p a len cap i h) (hlen : len ≤ 1048576) :
    Calls Tryd.prog 36 #[.pointer (some ⟨p, 0, none⟩)] W fun e W' => (∃ y mo d hh mi s : Int, e = .returned (.agg #[.int .i64 y, .int .i64 mo, .int .i64 d, .int .i64 hh, .int .i64 mi, .int .i64 s])) ∧ W.grownBy W' (some p) := by
  have hpW := hc.lt
  go_enter Tryd.func36, Tryd.ntmps36
  go_wp2_with fail
  refine (specAt w0 _ p a len cap _ _ zs hr (hc.alloc _) hlen).mono ?_
  rintro e W1 ⟨⟨n, hn, rfl⟩, ⟨i1, h1, hc1⟩, hg1⟩
  have hres1 : Six W1 W.heap.size 0 0 0 0 0 0 := (Six.new W 0 0 0 0 0 0).grown hg1 (by omega)
  have hG1 : W.grownBy W1 (some p) := grownBy_then (grownBy_new _ _ _) hg1
  obtain ⟨y, mo, d, hh, mi, s, hD⟩ := date_of n
  have HD := Lib.hid hD
  have HG1 := Lib.hid hG1
  clear hg1 hn hD hG1
  go_wp2_with fail
  refine (HD.out _).mono ?_
  rintro e W2 ⟨rfl, hb2⟩
  have hc2 := hc1.on hb2
  have hres2 := (hres1.on hb2).alloc (.cells #[.int .i64 y, .int .i64 mo, .int .i64 d, .int .i64 hh, .int .i64 mi, .int .i64 s] 26)
  have hdd := Six.new W2 y mo d hh mi s
  have HG2 := Lib.hid (grownBy_then HG1.out (grownBy_then (grownBy_below hb2 (some p)) (grownBy_new W2 (.cells #[.int .i64 y, .int .i64 mo, .int .i64 d, .int .i64 hh, .int .i64 mi, .int .i64 s] 26) (some p))))
  obtain ⟨g, hg⟩ : ∃ g, W2.heap.size = g := ⟨_, rfl⟩
  have hgW : W.heap.size < g := by have := (hres1.on hb2).lt; omega
  have HGE := Lib.hid hg
  have HC3 := Lib.hid (hc2.alloc (.cells #[.int .i64 y, .int .i64 mo, .int .i64 d, .int .i64 hh, .int .i64 mi, .int .i64 s] 26))
  have HRES := Lib.hid hres2
  rw [hg] at hdd
  have HDD := Lib.hid hdd
  clear hb2 hc2 hc1 hres1 hres2 hdd HG1 HD hg
  go_wp2_with fail
  refine (specBelow w0 _ p a len cap _ _ 6 zs hr HC3.out hlen).mono ?_
  rintro e W4 ⟨rfl, hc4, hg4⟩
  rw [HGE.out]
  have hb6 := belowX_bd zs len i1 h1 6 (by omega)
  generalize belowX zs len i1 h1 6 = z at hb6 ⊢
  obtain ⟨hz0, hz1⟩ := hb6
  have HC4 := Lib.hid hc4
  have HRES4 := Lib.hid (HRES.out.grown hg4 (by omega))
  have HDD4 := Lib.hid (HDD.out.grown hg4 (by have := hc.lt; omega))
  have HG4 := Lib.hid (grownBy_then HG2.out hg4)
  obtain ⟨b, hb⟩ : ∃ b, W.heap.size = b := ⟨_, rfl⟩
  rw [hb] at HRES4 hgW ⊢
  have hpb : p < b := by omega
  have HBE := Lib.hid hb
  have hgb : ¬ g = b := by omega
  have hbg : ¬ b = g := by omega
  clear hc4 hg4 HRES HDD HG2 HC3 hc hpW hb
  rcases (by omega : z = 0 ∨ z = 1 ∨ z = 2 ∨ z = 3 ∨ (z = 4 ∨ z = 5)) with rfl | rfl | rfl | rfl | hz45
  · have HCE := Lib.hid (cells_litI W4 #[.int .i64 0, .int .i64 28, .int .i64 29, .int .i64 30, .int .i64 31, .int .i64 32] 3 [0, 28, 29, 30, 31, 32] rfl)
    go_wp2_with fail
    refine (specPickInt w0 _ p a len cap _ _ zs hr (HC4.out.alloc _) hlen W4.heap.size 6 [0, 28, 29, 30, 31, 32] rfl (by omega) (by omega) HCE.out (by have := HC4.out.lt; omega)).mono ?_
    rintro e W5 ⟨⟨n1, hn1, rfl⟩, _, hg5⟩
    have hd5 := (HDD4.out.alloc (.cells #[.int .i64 0, .int .i64 28, .int .i64 29, .int .i64 30, .int .i64 31, .int .i64 32] 3)).grown hg5 (by omega)
    have hr5 := (HRES4.out.alloc (.cells #[.int .i64 0, .int .i64 28, .int .i64 29, .int .i64 30, .int .i64 31, .int .i64 32] 3)).grown hg5 (by omega)
    have HG5 := Lib.hid (grownBy_then HG4.out (grownBy_then (grownBy_new W4 (.cells #[.int .i64 0, .int .i64 28, .int .i64 29, .int .i64 30, .int .i64 31, .int .i64 32] 3) (some p)) hg5))
    obtain ⟨c0, f0⟩ := hd5.cell 0
    obtain ⟨c1, f1⟩ := hd5.cell 1
    obtain ⟨c2, f2⟩ := hd5.cell 2
    obtain ⟨c3, f3⟩ := hd5.cell 3
    obtain ⟨c4, f4⟩ := hd5.cell 4
    obtain ⟨c5, f5⟩ := hd5.cell 5
    simp at c0 c1 c2 c3 c4 c5
    obtain ⟨r0, k0⟩ := hr5.cell 0
    obtain ⟨r1, k1⟩ := hr5.cell 1
    obtain ⟨r2, k2⟩ := hr5.cell 2
    obtain ⟨r3, k3⟩ := hr5.cell 3
    obtain ⟨r4, k4⟩ := hr5.cell 4
    obtain ⟨r5, k5⟩ := hr5.cell 5
    simp at r0 r1 r2 r3 r4 r5
    clear hd5 hr5 hg5 hn1 HCE
    go_wp2
    refine bodyPost_ret (v := .agg #[.int .i64 y, .int .i64 mo, .int .i64 n1, .int .i64 hh, .int .i64 mi, .int .i64 s]) ?_ rfl ⟨⟨_, _, _, _, _, _, rfl⟩, ?_⟩
    · simp [results, Tryd.results36, go_sem, hgb, hbg, c0, c1, c2, c3, c4, c5, r0, r1, r2, r3, r4, r5]
    · have hWb := HBE.out
      exact grownBy_six (grownBy_new_set HG5.out g 2 _ (by omega)) b _ _ _ _ _ _ (by omega)
  · go_wp2_with fail
    refine (specBelow w0 _ p a len cap _ _ 14 zs hr HC4.out hlen).mono ?_
    rintro e W5 ⟨rfl, _, hg5⟩
    generalize belowX zs len _ _ 14 = n1
    have hd5 := HDD4.out.grown hg5 (by omega)
    have hr5 := HRES4.out.grown hg5 (by omega)
    have HG5 := Lib.hid (grownBy_then HG4.out hg5)
    obtain ⟨c0, f0⟩ := hd5.cell 0
    obtain ⟨c1, f1⟩ := hd5.cell 1
    obtain ⟨c2, f2⟩ := hd5.cell 2
    obtain ⟨c3, f3⟩ := hd5.cell 3
    obtain ⟨c4, f4⟩ := hd5.cell 4
    obtain ⟨c5, f5⟩ := hd5.cell 5
    simp at c0 c1 c2 c3 c4 c5
    obtain ⟨r0, k0⟩ := hr5.cell 0
    obtain ⟨r1, k1⟩ := hr5.cell 1
    obtain ⟨r2, k2⟩ := hr5.cell 2
    obtain ⟨r3, k3⟩ := hr5.cell 3
    obtain ⟨r4, k4⟩ := hr5.cell 4
    obtain ⟨r5, k5⟩ := hr5.cell 5
    simp at r0 r1 r2 r3 r4 r5
    clear hd5 hr5 hg5
    go_wp2
    refine bodyPost_ret (v := .agg #[.int .i64 y, .int .i64 n1, .int .i64 d, .int .i64 hh, .int .i64 mi, .int .i64 s]) ?_ rfl ⟨⟨_, _, _, _, _, _, rfl⟩, ?_⟩
    · simp [results, Tryd.results36, go_sem, hgb, hbg, c0, c1, c2, c3, c4, c5, r0, r1, r2, r3, r4, r5]
    · have hWb := HBE.out
      exact grownBy_six (grownBy_new_set HG5.out g 1 _ (by omega)) b _ _ _ _ _ _ (by omega)
  · have HCE := Lib.hid (cells_litI W4 #[.int .i64 1969, .int .i64 1970, .int .i64 2000, .int .i64 2100, .int .i64 9999, .int .i64 10000] 3 [1969, 1970, 2000, 2100, 9999, 10000] rfl)
    go_wp2_with fail
    refine (specPickInt w0 _ p a len cap _ _ zs hr (HC4.out.alloc _) hlen W4.heap.size 6 [1969, 1970, 2000, 2100, 9999, 10000] rfl (by omega) (by omega) HCE.out (by have := HC4.out.lt; omega)).mono ?_
    rintro e W5 ⟨⟨n1, hn1, rfl⟩, _, hg5⟩
    have hd5 := (HDD4.out.alloc (.cells #[.int .i64 1969, .int .i64 1970, .int .i64 2000, .int .i64 2100, .int .i64 9999, .int .i64 10000] 3)).grown hg5 (by omega)
    have hr5 := (HRES4.out.alloc (.cells #[.int .i64 1969, .int .i64 1970, .int .i64 2000, .int .i64 2100, .int .i64 9999, .int .i64 10000] 3)).grown hg5 (by omega)
    have HG5 := Lib.hid (grownBy_then HG4.out (grownBy_then (grownBy_new W4 (.cells #[.int .i64 1969, .int .i64 1970, .int .i64 2000, .int .i64 2100, .int .i64 9999, .int .i64 10000] 3) (some p)) hg5))
    obtain ⟨c0, f0⟩ := hd5.cell 0
    obtain ⟨c1, f1⟩ := hd5.cell 1
    obtain ⟨c2, f2⟩ := hd5.cell 2
    obtain ⟨c3, f3⟩ := hd5.cell 3
    obtain ⟨c4, f4⟩ := hd5.cell 4
    obtain ⟨c5, f5⟩ := hd5.cell 5
    simp at c0 c1 c2 c3 c4 c5
    obtain ⟨r0, k0⟩ := hr5.cell 0
    obtain ⟨r1, k1⟩ := hr5.cell 1
    obtain ⟨r2, k2⟩ := hr5.cell 2
    obtain ⟨r3, k3⟩ := hr5.cell 3
    obtain ⟨r4, k4⟩ := hr5.cell 4
    obtain ⟨r5, k5⟩ := hr5.cell 5
    simp at r0 r1 r2 r3 r4 r5
    clear hd5 hr5 hg5 hn1 HCE
    go_wp2
    refine bodyPost_ret (v := .agg #[.int .i64 n1, .int .i64 mo, .int .i64 d, .int .i64 hh, .int .i64 mi, .int .i64 s]) ?_ rfl ⟨⟨_, _, _, _, _, _, rfl⟩, ?_⟩
    · simp [results, Tryd.results36, go_sem, hgb, hbg, c0, c1, c2, c3, c4, c5, r0, r1, r2, r3, r4, r5]
    · have hWb := HBE.out
      exact grownBy_six (grownBy_new_set HG5.out g 0 _ (by omega)) b _ _ _ _ _ _ (by omega)
  · go_wp2_with fail
    refine (specBelow w0 _ p a len cap _ _ 26 zs hr HC4.out hlen).mono ?_
    rintro e W5 ⟨rfl, _, hg5⟩
    generalize belowX zs len _ _ 26 = n1
    have hd5 := HDD4.out.grown hg5 (by omega)
    have hr5 := HRES4.out.grown hg5 (by omega)
    have HG5 := Lib.hid (grownBy_then HG4.out hg5)
    obtain ⟨c0, f0⟩ := hd5.cell 0
    obtain ⟨c1, f1⟩ := hd5.cell 1
    obtain ⟨c2, f2⟩ := hd5.cell 2
    obtain ⟨c3, f3⟩ := hd5.cell 3
    obtain ⟨c4, f4⟩ := hd5.cell 4
    obtain ⟨c5, f5⟩ := hd5.cell 5
    simp at c0 c1 c2 c3 c4 c5
    obtain ⟨r0, k0⟩ := hr5.cell 0
    obtain ⟨r1, k1⟩ := hr5.cell 1
    obtain ⟨r2, k2⟩ := hr5.cell 2
    obtain ⟨r3, k3⟩ := hr5.cell 3
    obtain ⟨r4, k4⟩ := hr5.cell 4
    obtain ⟨r5, k5⟩ := hr5.cell 5
    simp at r0 r1 r2 r3 r4 r5
    clear hd5 hr5 hg5
    go_wp2
    refine bodyPost_ret (v := .agg #[.int .i64 y, .int .i64 mo, .int .i64 d, .int .i64 n1, .int .i64 mi, .int .i64 s]) ?_ rfl ⟨⟨_, _, _, _, _, _, rfl⟩, ?_⟩
    · simp [results, Tryd.results36, go_sem, hgb, hbg, c0, c1, c2, c3, c4, c5, r0, r1, r2, r3, r4, r5]
    · have hWb := HBE.out
      exact grownBy_six (grownBy_new_set HG5.out g 3 _ (by omega)) b _ _ _ _ _ _ (by omega)
  · have z0 : (z == 0) = false := by simp; omega
    have z1 : (z == 1) = false := by simp; omega
    have z2 : (z == 2) = false := by simp; omega
    have z3 : (z == 3) = false := by simp; omega
    have hd5 := HDD4.out
    have hr5 := HRES4.out
    obtain ⟨c0, f0⟩ := hd5.cell 0
    obtain ⟨c1, f1⟩ := hd5.cell 1
    obtain ⟨c2, f2⟩ := hd5.cell 2
    obtain ⟨c3, f3⟩ := hd5.cell 3
    obtain ⟨c4, f4⟩ := hd5.cell 4
    obtain ⟨c5, f5⟩ := hd5.cell 5
    simp at c0 c1 c2 c3 c4 c5
    obtain ⟨r0, k0⟩ := hr5.cell 0
    obtain ⟨r1, k1⟩ := hr5.cell 1
    obtain ⟨r2, k2⟩ := hr5.cell 2
    obtain ⟨r3, k3⟩ := hr5.cell 3
    obtain ⟨r4, k4⟩ := hr5.cell 4
    obtain ⟨r5, k5⟩ := hr5.cell 5
    simp at r0 r1 r2 r3 r4 r5
    clear hd5 hr5 hz45
    go_wp2
    refine bodyPost_ret (v := .agg #[.int .i64 y, .int .i64 mo, .int .i64 d, .int .i64 hh, .int .i64 mi, .int .i64 s]) ?_ rfl ⟨⟨_, _, _, _, _, _, rfl⟩, ?_⟩
    · simp [results, Tryd.results36, go_sem, hgb, hbg, c0, c1, c2, c3, c4, c5, r0, r1, r2, r3, r4, r5]
    · have hWb := HBE.out
      exact grownBy_six (HG4.out) b _ _ _ _ _ _ (by omega)

theorem specDrawTimeOf (w0 W : World) (a : Option Addr) (len cap : Nat) (zs : List Int) (hr : IsRow .u8 w0 a len cap zs) (hb : Below w0.heap.size w0 W) (hlen : len ≤ 1048576) :
    Calls Tryd.prog 15 #[.slice a len cap] W fun e W' => (∃ y mo d hh mi s : Int, e = .returned (.agg #[.int .i64 y, .int .i64 mo, .int .i64 d, .int .i64 hh, .int .i64 mi, .int .i64 s])) ∧ Below W.heap.size W W' := by
  obtain ⟨p, hp⟩ : ∃ p, p = W.heap.size + 1 := ⟨_, rfl⟩
  have HP := Lib.hid hp
  have hpW : W.heap.size < p := by omega
  have HB := Lib.hid (hb.alloc hb.size (.cells #[.int .i64 0, .int .i64 0, .int .i64 0, .int .i64 0, .int .i64 0, .int .i64 0] 26))
  clear hp hb
  go_enter Tryd.func15, Tryd.ntmps15
  go_wp2_with fail
  refine (specNew w0 _ a len cap zs hr HB.out hlen).mono ?_
  rintro e W1 ⟨rfl, hc1, hb1⟩
  have hpe : (W.alloc (.cells #[.int .i64 0, .int .i64 0, .int .i64 0, .int .i64 0, .int .i64 0, .int .i64 0] 26)).heap.size = p := by rw [HP.out]; simp
  rw [hpe] at hc1 hb1 ⊢
  have hres1 := (Six.new W 0 0 0 0 0 0).on (hpe ▸ hb1)
  have HB1 := Lib.hid (show Below W.heap.size W W1 from ((Below.refl _ _).alloc (Nat.le_refl _) _).trans (hb1.mono (by omega)))
  clear hb1 hpe
  go_wp2_with fail
  refine (specDate w0 _ p a len cap _ _ zs hr hc1 hlen).mono ?_
  rintro e W2 ⟨⟨y, mo, d, hh, mi, s, rfl⟩, hg2⟩
  have hr5 := hres1.grown hg2 (by omega)
  have HB2 := Lib.hid (HB1.out.grown hg2 HB1.out.size (fun k e => by cases e; omega))
  clear hg2 hres1 hc1
  obtain ⟨r0, k0⟩ := hr5.cell 0
  obtain ⟨r1, k1⟩ := hr5.cell 1
  obtain ⟨r2, k2⟩ := hr5.cell 2
  obtain ⟨r3, k3⟩ := hr5.cell 3
  obtain ⟨r4, k4⟩ := hr5.cell 4
  obtain ⟨r5, k5⟩ := hr5.cell 5
  simp at r0 r1 r2 r3 r4 r5
  clear hr5
  go_wp2
  refine bodyPost_ret (v := .agg #[.int .i64 y, .int .i64 mo, .int .i64 d, .int .i64 hh, .int .i64 mi, .int .i64 s]) ?_ rfl ⟨⟨_, _, _, _, _, _, rfl⟩, ?_⟩
  · simp [results, Tryd.results15, go_sem, r0, r1, r2, r3, r4, r5]
  · have k : W.heap.size ≤ W.heap.size := Nat.le_refl _
    exact (((((HB2.out.setCell (p := ⟨W.heap.size, 0, none⟩) k _).setCell (p := ⟨W.heap.size, 1, none⟩) k _).setCell (p := ⟨W.heap.size, 2, none⟩) k _).setCell (p := ⟨W.heap.size, 3, none⟩) k _).setCell (p := ⟨W.heap.size, 4, none⟩) k _).setCell (p := ⟨W.heap.size, 5, none⟩) k _
end Go.Proofs.YthcofpkppienaaaDoor
