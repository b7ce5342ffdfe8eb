/- The draws of times, kinds and dates: whatever the code is, ints of these bounds come out. -/
import Derived.Test.YtbikcldkaogfmaaDoorDrawInts
import Derived.Test.YtbikcldkaogfmaaDoorDays4
namespace Go.Proofs.YtbikcldkaogfmaaDoor
open Go.RowKit


def atL (x : Int) : List Int := [0, 86399, 86400, 68256000, 951782400, 951868800, 1763280000, 253402300799, 4107542400, x]
theorem atL_bd (x : Int) (h : 0 ≤ x ∧ x ≤ 2000000000) (n : Int) (hn : n ∈ atL x) : 0 ≤ n ∧ n ≤ 253402300799 := by
  simp [atL] at hn; omega

set_option maxRecDepth 100000 in
set_option maxHeartbeats 1000000 in
theorem specAt (w0 W : World) (p : Nat) (a : Option Addr) (len cap i : Nat) (h : Int) (zs : List Int) (hr : IsRow .u8 w0 a len cap zs) (hc : Cur w0 W p a len cap i h) (hlen : len ≤ 1048576) :
    Calls Tryd.prog 26 #[.pointer (some ⟨p, 0, none⟩)] W fun e W' =>
      (∃ n, (-1 ≤ n ∧ n ≤ 253402300800) ∧ e = .returned (.int .i64 n)) ∧ (∃ i' h', Cur w0 W' p a len cap i' h') ∧ W.grownBy W' (some p) := by
  have hbd := belowX_bd zs len i h 65536 (by omega)
  obtain ⟨x, hx⟩ : ∃ x, belowX zs len i h 65536 = x := ⟨_, rfl⟩
  rw [hx] at hbd
  have HX := Lib.hid hx
  obtain ⟨hx0, hx1⟩ := hbd
  clear hx
  go_enter Tryd.func26, Tryd.ntmps26
  go_wp2_with fail
  refine (specBelow w0 _ p a len cap i h 65536 zs hr hc hlen).mono ?_
  rintro e W1 ⟨rfl, hc1, hg1⟩
  rw [HX.out]
  have HCE := Lib.hid (cells_litI W1 #[.int .i64 0, .int .i64 86399, .int .i64 86400, .int .i64 68256000, .int .i64 951782400, .int .i64 951868800, .int .i64 1763280000, .int .i64 253402300799, .int .i64 4107542400, .int .i64 (x * 30000)] 3 (atL (x * 30000)) rfl)
  go_wp2_with fail
  refine (specPickInt w0 _ p a len cap _ _ zs hr (hc1.alloc _) hlen W1.heap.size 10 (atL (x * 30000)) rfl (by omega) (by omega) HCE.out (by have := hc1.lt; omega)).mono ?_
  rintro e W2 ⟨⟨n, hn, rfl⟩, hc2, hg2⟩
  obtain ⟨hn0, hn1⟩ := atL_bd (x * 30000) (by omega) n hn
  have G2 := Lib.hid (grownBy_then hg1 (grownBy_then (grownBy_new _ _ _) hg2))
  clear hn hg2 hg1
  go_wp2_with fail
  refine (specOnce w0 _ p a len cap _ _ 3 zs hr hc2 hlen).mono ?_
  rintro e W3 ⟨rfl, hc3, hg3⟩
  generalize (belowX zs len _ _ 3 == 0) = q
  cases q with
  | true =>
    go_wp2_with fail
    refine (specBelow w0 _ p a len cap _ _ 3 zs hr hc3 hlen).mono ?_
    rintro e W4 ⟨rfl, hc4, hg4⟩
    have hb3 : ∀ i h, 0 ≤ belowX zs len i h 3 ∧ belowX zs len i h 3 < 3 := fun i h => belowX_bd zs len i h 3 (by omega)
    generalize hz : belowX zs len _ _ 3 = z
    have hz3 : 0 ≤ z ∧ z < 3 := by rw [← hz]; exact hb3 _ _
    obtain ⟨hz0, hz1⟩ := hz3
    clear hz hb3
    go_wp2
    go_ret
    exact ⟨⟨n + z - 1, by omega, rfl⟩, ⟨_, _, hc4⟩, grownBy_then G2.out (grownBy_then hg3 hg4)⟩
  | false =>
    go_wp2
    go_ret
    exact ⟨⟨n, by omega, rfl⟩, ⟨_, _, hc3⟩, grownBy_then G2.out hg3⟩

theorem specDrawDateOf (w0 W : World) (a : Option Addr) (len cap : Nat) (zs : List Int) (hr : IsRow .u8 w0 a len cap zs) (hb : Below w0.heap.size w0 W) (hlen : len ≤ 1048576) :
    Calls Tryd.prog 13 #[.slice a len cap] W fun e W' => (∃ n, (-1 ≤ n ∧ n ≤ 253402300800) ∧ e = .returned (.int .i64 n)) ∧ Below W.heap.size W W' := by
  obtain ⟨p, hp⟩ : ∃ p, p = W.heap.size := ⟨_, rfl⟩
  have hpW : W.heap.size ≤ p := by omega
  have HP := Lib.hid hp
  clear hp
  go_enter Tryd.func13, Tryd.ntmps13
  go_wp2_with fail
  refine (specNew w0 _ a len cap zs hr hb hlen).mono ?_
  rintro e W1 ⟨rfl, hc1, hb1⟩
  rw [← HP.out] at hc1 ⊢
  go_wp2_with fail
  refine (specAt w0 _ p a len cap _ _ zs hr hc1 hlen).mono ?_
  rintro e W2 ⟨⟨n, hn, rfl⟩, _, hg2⟩
  go_wp2
  go_ret
  exact ⟨⟨n, hn, rfl⟩, hb1.grown hg2 hb1.size (fun k e => by cases e; exact hpW)⟩



end Go.Proofs.YtbikcldkaogfmaaDoor
