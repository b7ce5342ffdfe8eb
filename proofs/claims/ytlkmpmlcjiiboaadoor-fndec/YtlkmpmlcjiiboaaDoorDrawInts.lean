/- The draws of ints: whatever the code is, an int comes out. -/
import Derived.Test.YtlkmpmlcjiiboaaDoorCur
namespace Go.Proofs.YtlkmpmlcjiiboaaDoor
open Go.RowKit

theorem grownBy_new (W : World) (o : Obj) (row : Option Nat) : W.grownBy (W.alloc o) row :=
  World.grownBy_alloc W o row
theorem cells_litI (W : World) (cs : Array Value) (t : TypeId) (ls : List Int) (h : cs.toList = ls.map (Value.int .i64)) (j : Nat) (hj : j < ls.length) :
    (W.alloc (.cells cs t)).cell? ⟨W.heap.size, j, none⟩ = some (.int .i64 ls[j]) := by
  have e : (W.alloc (.cells cs t)).cell? ⟨W.heap.size, j, none⟩ = cs[j]? := World.cell?_alloc_at cs t _ j rfl
  rw [e, ← Array.getElem?_toList, h, List.getElem?_map, List.getElem?_eq_getElem hj]; rfl

theorem specPickInt (w0 W : World) (p : Nat) (a : Option Addr) (len cap i : Nat) (h : Int) (zs : List Int) (hr : IsRow .u8 w0 a len cap zs) (hc : Cur w0 W p a len cap i h) (hlen : len ≤ 1048576)
    (g L : Nat) (ls : List Int) (hL : ls.length = L) (hl : 1 ≤ L) (hl2 : L ≤ 256) (hcells : ∀ j (hj : j < ls.length), W.cell? ⟨g, j, none⟩ = some (.int .i64 ls[j])) (hne : g ≠ p) :
    Calls Tryd.prog 28 #[.pointer (some ⟨p, 0, none⟩), .slice (some ⟨g, 0, none⟩) L L] W fun e W' =>
      (∃ n, n ∈ ls ∧ e = .returned (.int .i64 n)) ∧ Cur w0 W' p a len cap (belowI len i L) (belowH h L) ∧ W.grownBy W' (some p) := by
  have hbd := belowX_bd zs len i h L (by omega)
  obtain ⟨x, hx⟩ : ∃ x : Nat, belowX zs len i h L = x := ⟨(belowX zs len i h L).toNat, by omega⟩
  rw [hx] at hbd
  have hxl : x < ls.length := by omega
  have HX := Lib.hid hx
  have HC := Lib.hid hcells
  obtain ⟨v, hv⟩ : ∃ v, ls[x] = v := ⟨_, rfl⟩
  have HM := Lib.hid (show v ∈ ls by rw [← hv]; exact List.getElem_mem _)
  have HV := Lib.hid hv
  have hxi : (x : Int) < (L : Int) := by omega
  clear hx hcells hv hbd hL
  go_enter Tryd.func28, Tryd.ntmps28
  go_wp2_with (go_at_call 22; refine (specBelow w0 _ p a len cap i h L zs hr hc hlen).mono ?_; rintro e W' ⟨rfl, hc', hg⟩; rw [HX.out]; have hcx := (cell_grown hg (HC.out x hxl) hne).trans (by rw [HV.out]))
  go_ret
  exact ⟨⟨v, HM.out, rfl⟩, hc', hg⟩

def intL (x : Int) : List Int := [0, 1, -1, 7, 511, 512, 999999999999, 1000000000000, 9223372036854775807, -9223372036854775808, x]
theorem intL_bd (x : Int) (h : 0 ≤ x ∧ x < 100000) (n : Int) (hn : n ∈ intL x) : -9223372036854775808 ≤ n ∧ n ≤ 9223372036854775807 := by
  simp [intL] at hn; omega

set_option maxRecDepth 100000 in
set_option maxHeartbeats 1000000 in
theorem specInt (w0 W : World) (p : Nat) (a : Option Addr) (len cap i : Nat) (h : Int) (zs : List Int) (hr : IsRow .u8 w0 a len cap zs) (hc : Cur w0 W p a len cap i h) (hlen : len ≤ 1048576) :
    Calls Tryd.prog 20 #[.pointer (some ⟨p, 0, none⟩)] W fun e W' =>
      (∃ n, (-9223372036854775808 ≤ n ∧ n ≤ 9223372036854775807) ∧ e = .returned (.int .i64 n)) ∧ (∃ i' h', Cur w0 W' p a len cap i' h') ∧ W.grownBy W' (some p) := by
  have hbd := belowX_bd zs len i h 100000 (by omega)
  obtain ⟨x, hx⟩ : ∃ x, belowX zs len i h 100000 = x := ⟨_, rfl⟩
  rw [hx] at hbd
  have HX := Lib.hid hx
  have HB := Lib.hid hbd
  clear hx hbd
  go_enter Tryd.func20, Tryd.ntmps20
  go_wp2_with fail
  refine (specBelow w0 _ p a len cap i h 100000 zs hr hc hlen).mono ?_
  rintro e W1 ⟨rfl, hc1, hg1⟩
  rw [HX.out]
  have HCE := Lib.hid (cells_litI W1 #[.int .i64 0, .int .i64 1, .int .i64 (-1), .int .i64 7, .int .i64 511, .int .i64 512, .int .i64 999999999999, .int .i64 1000000000000, .int .i64 9223372036854775807, .int .i64 (-9223372036854775808), .int .i64 x] 3 (intL x) rfl)
  go_wp2_with fail
  refine (specPickInt w0 _ p a len cap _ _ zs hr (hc1.alloc _) hlen W1.heap.size 11 (intL x) rfl (by omega) (by omega) HCE.out (by have := hc1.lt; omega)).mono ?_
  rintro e W2 ⟨⟨n, hn, rfl⟩, hc2, hg2⟩
  go_wp2
  go_ret
  exact ⟨⟨n, intL_bd x HB.out n hn, rfl⟩, ⟨_, _, hc2⟩, grownBy_then hg1 (grownBy_then (grownBy_new _ _ _) hg2)⟩

theorem specDrawDecText (w0 W : World) (a : Option Addr) (len cap : Nat) (zs : List Int) (hr : IsRow .u8 w0 a len cap zs) (hb : Below w0.heap.size w0 W) (hlen : len ≤ 1048576) :
    Calls Tryd.prog 8 #[.slice a len cap] W fun e W' => (∃ n, (-9223372036854775808 ≤ n ∧ n ≤ 9223372036854775807) ∧ e = .returned (.int .i64 n)) ∧ Below W.heap.size W W' := by
  obtain ⟨p, hp⟩ : ∃ p, p = W.heap.size := ⟨_, rfl⟩
  have hpW : W.heap.size ≤ p := by omega
  have HP := Lib.hid hp
  clear hp
  go_enter Tryd.func8, Tryd.ntmps8
  go_wp2_with fail
  refine (specNew w0 _ a len cap zs hr hb hlen).mono ?_
  rintro e W1 ⟨rfl, hc1, hb1⟩
  rw [← HP.out] at hc1 ⊢
  go_wp2_with fail
  refine (specInt w0 _ p a len cap _ _ zs hr hc1 hlen).mono ?_
  rintro e W2 ⟨⟨n, hn, rfl⟩, _, hg2⟩
  go_wp2
  go_ret
  exact ⟨⟨n, hn, rfl⟩, hb1.grown hg2 hb1.size (fun k e => by cases e; exact hpW)⟩

theorem specDrawOctText (w0 W : World) (a : Option Addr) (len cap : Nat) (zs : List Int) (hr : IsRow .u8 w0 a len cap zs) (hb : Below w0.heap.size w0 W) (hlen : len ≤ 1048576) :
    Calls Tryd.prog 9 #[.slice a len cap] W fun e W' => (∃ n, (-9223372036854775808 ≤ n ∧ n ≤ 9223372036854775807) ∧ e = .returned (.int .i64 n)) ∧ Below W.heap.size W W' := by
  obtain ⟨p, hp⟩ : ∃ p, p = W.heap.size := ⟨_, rfl⟩
  have hpW : W.heap.size ≤ p := by omega
  have HP := Lib.hid hp
  clear hp
  go_enter Tryd.func9, Tryd.ntmps9
  go_wp2_with fail
  refine (specNew w0 _ a len cap zs hr hb hlen).mono ?_
  rintro e W1 ⟨rfl, hc1, hb1⟩
  rw [← HP.out] at hc1 ⊢
  go_wp2_with fail
  refine (specOnce w0 _ p a len cap _ _ 3 zs hr hc1 hlen).mono ?_
  rintro e W2 ⟨rfl, hc2, hg2⟩
  have hb2 : Below W.heap.size W W2 := hb1.grown hg2 hb1.size (fun k e => by cases e; exact hpW)
  obtain ⟨q, hq⟩ : ∃ q, (belowX zs len 0 (newH zs len) 3 == 0) = q := ⟨_, rfl⟩
  rw [hq]
  cases q with
  | true =>
    go_wp2_with fail
    refine (specInt w0 _ p a len cap _ _ zs hr hc2 hlen).mono ?_
    rintro e W3 ⟨⟨n, hn, rfl⟩, _, hg3⟩
    go_wp2
    go_ret
    exact ⟨⟨n, hn, rfl⟩, hb2.grown hg3 hb2.size (fun k e => by cases e; exact hpW)⟩
  | false =>
    go_wp2_with fail
    refine (specBelow w0 _ p a len cap _ _ 512 zs hr hc2 hlen).mono ?_
    rintro e W3 ⟨rfl, _, hg3⟩
    have hbd := belowX_bd zs len (belowI len 0 3) (belowH (newH zs len) 3) 512 (by omega)
    obtain ⟨x, hx⟩ : ∃ x, belowX zs len (belowI len 0 3) (belowH (newH zs len) 3) 512 = x := ⟨_, rfl⟩
    rw [hx] at hbd ⊢
    clear hx
    go_wp2
    go_ret
    exact ⟨⟨x, by omega, rfl⟩, hb2.grown hg3 hb2.size (fun k e => by cases e; exact hpW)⟩

theorem specDrawPadText (w0 W : World) (a : Option Addr) (len cap : Nat) (zs : List Int) (hr : IsRow .u8 w0 a len cap zs) (hb : Below w0.heap.size w0 W) (hlen : len ≤ 1048576) :
    Calls Tryd.prog 12 #[.slice a len cap] W fun e W' => (∃ n d, (-9223372036854775808 ≤ n ∧ n ≤ 9223372036854775807) ∧ (-1 ≤ d ∧ d ≤ 13) ∧ e = .returned (.tuple #[.int .i64 n, .int .i64 d])) ∧ Below W.heap.size W W' := by
  obtain ⟨p, hp⟩ : ∃ p, p = W.heap.size := ⟨_, rfl⟩
  have hpW : W.heap.size ≤ p := by omega
  have HP := Lib.hid hp
  clear hp
  go_enter Tryd.func12, Tryd.ntmps12
  go_wp2_with fail
  refine (specNew w0 _ a len cap zs hr hb hlen).mono ?_
  rintro e W1 ⟨rfl, hc1, hb1⟩
  rw [← HP.out] at hc1 ⊢
  go_wp2_with fail
  refine (specInt w0 _ p a len cap _ _ zs hr hc1 hlen).mono ?_
  rintro e W2 ⟨⟨n, hn, rfl⟩, ⟨i2, h2, hc2⟩, hg2⟩
  have hb2 : Below W.heap.size W W2 := hb1.grown hg2 hb1.size (fun k e => by cases e; exact hpW)
  go_wp2_with fail
  refine (specBelow w0 _ p a len cap _ _ 15 zs hr hc2 hlen).mono ?_
  rintro e W3 ⟨rfl, _, hg3⟩
  have hbd := belowX_bd zs len i2 h2 15 (by omega)
  obtain ⟨x, hx⟩ : ∃ x, belowX zs len i2 h2 15 = x := ⟨_, rfl⟩
  rw [hx] at hbd ⊢
  clear hx
  obtain ⟨hx0, hx1⟩ := hbd
  go_wp2
  go_ret2
  exact ⟨⟨n, x - 1, hn, by omega, rfl⟩, hb2.grown hg3 hb2.size (fun k e => by cases e; exact hpW)⟩
end Go.Proofs.YtlkmpmlcjiiboaaDoor
