/- The draw of an age; laws.at. -/
import Derived.Test.YtbikcldkaogfmaaDoorDrawInts
namespace Go.Proofs.YtbikcldkaogfmaaDoor
open Go.RowKit

def ageIntL (x : Int) : List Int := [0, 1, 59, 60, 604800, 90061, -1, 253402300799, 253402300800, x]
set_option maxRecDepth 100000 in
set_option maxHeartbeats 1000000 in
theorem specDrawAgeText (w0 W : World) (a : Option Addr) (len cap : Nat) (zs : List Int) (hr : IsRow .u8 w0 a len cap zs) (hb : Below w0.heap.size w0 W) (hlen : len ≤ 1048576) :
    Calls Tryd.prog 15 #[.slice a len cap] W fun e W' => (∃ n, e = .returned (.int .i64 n)) ∧ Below W.heap.size W W' := by
  obtain ⟨p, hp⟩ : ∃ p, p = W.heap.size := ⟨_, rfl⟩
  have hpW : W.heap.size ≤ p := by omega
  have HP := Lib.hid hp
  clear hp
  go_enter Tryd.func15, Tryd.ntmps15
  go_wp2_with fail
  refine (specNew w0 _ a len cap zs hr hb hlen).mono ?_
  rintro e W1 ⟨rfl, hc1, hb1⟩
  rw [← HP.out] at hc1 ⊢
  generalize newH zs len = h at hc1
  have hbd := belowX_bd zs len 0 h 65536 (by omega)
  obtain ⟨x, hx⟩ : ∃ x, belowX zs len 0 h 65536 = x := ⟨_, rfl⟩
  rw [hx] at hbd
  have HX := Lib.hid hx
  clear hx
  go_wp2_with fail
  refine (specBelow w0 _ p a len cap 0 h 65536 zs hr hc1 hlen).mono ?_
  rintro e W2 ⟨rfl, hc2, hg2⟩
  rw [HX.out]
  have HCE := Lib.hid (cells_litI W2 #[.int .i64 0, .int .i64 1, .int .i64 59, .int .i64 60, .int .i64 604800, .int .i64 90061, .int .i64 (-1), .int .i64 253402300799, .int .i64 253402300800, .int .i64 (x * 997)] 3 (ageIntL (x * 997)) rfl)
  go_wp2_with fail
  refine (specPickInt w0 _ p a len cap _ _ zs hr (hc2.alloc _) hlen W2.heap.size 10 (ageIntL (x * 997)) rfl (by omega) (by omega) HCE.out (by have := hc2.lt; omega)).mono ?_
  rintro e W3 ⟨⟨n, hn, rfl⟩, _, hg3⟩
  go_wp2
  go_ret
  exact ⟨⟨n, rfl⟩, hb1.grown (grownBy_then hg2 (grownBy_then (grownBy_new _ _ _) hg3)) hb1.size (fun k e => by cases e; exact hpW)⟩

theorem lawsAt (w0 W : World) (a : Option Addr) (len cap i : Nat) (zs : List Int) (hr : IsRow .u8 w0 a len cap zs) (hb : Below w0.heap.size w0 W) (hlen : len ≤ 1048576) (hi : i ≤ 1000) :
    Calls Tryd.prog 19 #[.slice a len cap, .int .i64 i] W fun e W' => (∃ x, e = .returned (.int .i64 x) ∧ 0 ≤ x ∧ x ≤ 255) ∧ W = W' := by
  by_cases h : i < len
  · obtain ⟨b, off, rfl, hlt, hcell, h0, h1⟩ := row_at hr hb i h
    generalize zs.getD i 0 = x at hcell h0 h1
    have hli : (i : Int) < (len : Int) := by omega
    clear hr
    go_enter Tryd.func19, Tryd.ntmps19
    go_wp2
    go_ret
    exact ⟨⟨x, rfl, h0, h1⟩, rfl⟩
  · have hli : ¬ (i : Int) < (len : Int) := by omega
    clear hr
    go_enter Tryd.func19, Tryd.ntmps19
    go_wp2
    go_ret
    exact ⟨⟨_, rfl, by omega, by omega⟩, rfl⟩
end Go.Proofs.YtbikcldkaogfmaaDoor
