/- The draw that bends a text: spec.l01Bent. -/
import Derived.Test.YthlmkeibaaobeaaDoorCur
import Derived.Test.YthlmkeibaaobeaaDoorDecText
import Derived.Deep.RegionWith
namespace Go.Proofs.YthlmkeibaaobeaaDoor
open Go.RowKit

theorem strOf_back (s : ByteArray) : s = strOf s.data.toList := by
  cases s; simp [strOf]
theorem run_addB (a b : ByteArray) (h : a.size + b.size ≤ 9223372036854775807) (w : World) : (Op.stringOp .add a b).run Tryd.prog w = .ok (.string (a ++ b)) w := by
  have := run_add a.data.toList b.data.toList (by simpa using h) w
  rw [← strOf_append, ← strOf_back, ← strOf_back] at this
  exact this
def bentA : Array Value := #[.string ⟨#[48]⟩, .string ⟨#[32]⟩, .string ⟨#[255]⟩, .string ⟨#[47]⟩, .string ⟨#[10]⟩, .string ⟨#[97]⟩, .string ⟨#[42]⟩, .string ⟨#[34]⟩, .string ⟨#[123]⟩, .string ⟨#[37]⟩]
def bentL : List ByteArray := [⟨#[48]⟩, ⟨#[32]⟩, ⟨#[255]⟩, ⟨#[47]⟩, ⟨#[10]⟩, ⟨#[97]⟩, ⟨#[42]⟩, ⟨#[34]⟩, ⟨#[123]⟩, ⟨#[37]⟩]
def bentA2 : Array Value := #[.string ⟨#[48]⟩, .string ⟨#[65]⟩, .string ⟨#[0]⟩, .string ⟨#[57]⟩, .string ⟨#[125]⟩, .string ⟨#[46]⟩]
def bentL2 : List ByteArray := [⟨#[48]⟩, ⟨#[65]⟩, ⟨#[0]⟩, ⟨#[57]⟩, ⟨#[125]⟩, ⟨#[46]⟩]
theorem cut_to (s : ByteArray) (k : Nat) (h : k ≤ s.size) (W : World) : (Instr.slice 9 (.string s) none (some (.int .i64 (k : Int))) none).run Tryd.prog W = .ok (.string (s.extract 0 k)) W := by
  rw [run_slice_string_h (w := W) (t := 9) (s := s) (kh := .i64) (h := k) (ht := Tryd.underlying9) (h0 := by omega) (h2 := by omega)]
  rfl
theorem cut_from (s : ByteArray) (k : Nat) (h : k ≤ s.size) (x : Int) (hx : x = k) (W : World) : (Instr.slice 9 (.string s) (some (.int .i64 x)) none none).run Tryd.prog W = .ok (.string (s.extract k s.size)) W := by
  subst hx
  rw [run_slice_string_l (w := W) (t := 9) (s := s) (kl := .i64) (l := k) (ht := Tryd.underlying9) (h0 := by omega) (h1 := by omega)]
  rfl
set_option maxRecDepth 100000 in
set_option maxHeartbeats 4000000 in
theorem specBent (w0 W : World) (p : Nat) (a : Option Addr) (len cap i : Nat) (h : Int) (zs : List Int) (hr : IsRow .u8 w0 a len cap zs) (hc : Cur w0 W p a len cap i h) (hlen : len ≤ 1048576) (s : ByteArray) (hs : s.size ≤ 1000000000) :
    Calls Tryd.prog 27 #[.pointer (some ⟨p, 0, none⟩), .string s] W fun e W' =>
      (∃ q : ByteArray, q.size ≤ s.size + 1 ∧ e = .returned (.string q)) ∧ (∃ i' h', Cur w0 W' p a len cap i' h') ∧ W.grownBy W' (some p) := by
  have hbd := belowX_bd zs len i h ((s.size : Int) + 1) (by omega)
  obtain ⟨k, hk⟩ : ∃ k : Nat, belowX zs len i h ((s.size : Int) + 1) = k := ⟨(belowX zs len i h ((s.size : Int) + 1)).toNat, by omega⟩
  rw [hk] at hbd
  have hks : k ≤ s.size := by omega
  have HK := Lib.hid hk
  have hsi : (s.size : Int) ≤ 1000000000 := by omega
  clear hk hbd
  go_enter Tryd.func27, Tryd.ntmps27
  go_wp2_with fail
  refine (specBelow w0 _ p a len cap i h ((s.size : Int) + 1) zs hr hc hlen).mono ?_
  rintro e W1 ⟨rfl, hc1, hg1⟩
  rw [HK.out]
  generalize belowI len i ((s.size : Int) + 1) = i1 at hc1
  generalize belowH h ((s.size : Int) + 1) = h1 at hc1
  have hbd := belowX_bd zs len i1 h1 10 (by omega)
  obtain ⟨y, hy⟩ : ∃ y, belowX zs len i1 h1 10 = y := ⟨_, rfl⟩
  rw [hy] at hbd
  have HY := Lib.hid hy
  obtain ⟨hy0, hy1⟩ := hbd
  clear hy hc HK
  go_wp2_with fail
  refine (specBelow w0 _ p a len cap i1 h1 10 zs hr hc1 hlen).mono ?_
  rintro e W2 ⟨rfl, hc2, hg2⟩
  rw [HY.out]
  generalize belowI len i1 10 = i2 at hc2
  generalize belowH h1 10 = h2 at hc2
  have HG2 := Lib.hid (grownBy_then hg1 hg2)
  have HC2 := Lib.hid hc2
  have hpW := hc2.lt
  clear hg1 hg2 hc1 HY hc2
  have hto := cut_to s k hks
  by_cases y0 : y = 0
  · subst y0
    go_wp2
    go_ret
    exact ⟨⟨_, by simp; omega, rfl⟩, ⟨_, _, HC2.out⟩, HG2.out⟩
  by_cases y1 : y = 1
  · subst y1
    have hfr := cut_from s k hks k rfl
    have HCE := Lib.hid (cells_lit W2.drew bentA 9 bentL rfl)
    have HCA := Lib.hid ((HC2.out.drewN 1).alloc (.cells bentA 9))
    have HQ := Lib.hid (fun j => pick_len bentL 1 (by decide) j)
    go_wp2_with fail
    go_region_with (go_at_call 17; refine (specPick w0 _ p a len cap _ _ zs hr HCA.out hlen W2.heap.size 10 bentL rfl (by omega) (by omega) HCE.out (by omega)).mono ?_; rintro e W3 ⟨rfl, hc3, hg3⟩; (generalize hq : bentL.getD _ ⟨#[]⟩ = q0); (have hqs : q0.size ≤ 1 := by rw [← hq]; exact HQ.out _); (have ha1 := run_addB (s.extract 0 k) q0 (by simp; omega)); (have ha2 := run_addB (s.extract 0 k ++ q0) (s.extract k s.size) (by simp; omega)); clear hq)
    all_goals
      go_wp2
      go_ret
      exact ⟨⟨_, by simp; omega, rfl⟩, ⟨_, _, hc3⟩, grownBy_then HG2.out (grownBy_then (grownBy_draws W2 1 (some p)) (grownBy_then (World.grownBy_alloc _ _ _) hg3))⟩
  by_cases y2 : y = 2
  · subst y2
    by_cases hk2 : k < s.size
    · have hk2i : (k : Int) < (s.size : Int) := by omega
      have hfr := cut_from s (k + 1) (by omega) ((k : Int) + 1) (by omega)
      have hwr : IntKind.i64.wrap ((k : Int) + 1) = (k : Int) + 1 := IntWalk.i64_in _ (by omega)
      have hfr2 := cut_from s (k + 1) (by omega) (IntKind.i64.wrap ((k : Int) + 1)) (by rw [hwr]; omega)
      have hk3 : (k : Int) + 1 ≤ (s.size : Int) := by omega
      have hk4 : 0 ≤ (k : Int) + 1 := by omega
      have HCE := Lib.hid (cells_lit W2.drew bentA2 9 bentL2 rfl)
      have HCA := Lib.hid ((HC2.out.drewN 1).alloc (.cells bentA2 9))
      have HQ := Lib.hid (fun j => pick_len bentL2 1 (by decide) j)
      go_wp2_with fail
      go_region_with (go_at_call 17; refine (specPick w0 _ p a len cap _ _ zs hr HCA.out hlen W2.heap.size 6 bentL2 rfl (by omega) (by omega) HCE.out (by omega)).mono ?_; rintro e W3 ⟨rfl, hc3, hg3⟩; (generalize hq : bentL2.getD _ ⟨#[]⟩ = q0); (have hqs : q0.size ≤ 1 := by rw [← hq]; exact HQ.out _); (have ha1 := run_addB (s.extract 0 k) q0 (by simp; omega)); (have ha2 := run_addB (s.extract 0 k ++ q0) (s.extract (k + 1) s.size) (by simp; omega)); clear hq)
      all_goals
        go_wp2
        go_ret
        exact ⟨⟨_, by simp; omega, rfl⟩, ⟨_, _, hc3⟩, grownBy_then HG2.out (grownBy_then (grownBy_draws W2 1 (some p)) (grownBy_then (World.grownBy_alloc _ _ _) hg3))⟩
    · have hk2i : ¬ (k : Int) < (s.size : Int) := by omega
      go_wp2
      go_ret
      exact ⟨⟨s, by omega, rfl⟩, ⟨_, _, HC2.out⟩, HG2.out⟩
  · have n0 : (y == 0) = false := by simpa using y0
    have n1 : (y == 1) = false := by simpa using y1
    have n2 : (y == 2) = false := by simpa using y2
    clear y0 y1 y2
    go_wp2
    go_ret
    exact ⟨⟨s, by omega, rfl⟩, ⟨_, _, HC2.out⟩, HG2.out⟩
end Go.Proofs.YthlmkeibaaobeaaDoor
