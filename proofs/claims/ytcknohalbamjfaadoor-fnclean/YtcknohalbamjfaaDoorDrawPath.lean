/- The draws of names and paths: whatever the code is, a short text comes out. -/
import Derived.Test.YtcknohalbamjfaaDoorCur
import Derived.Test.YtcknohalbamjfaaDoorBent
import Derived.Test.YtcknohalbamjfaaDoorDecText
namespace Go.Proofs.YtcknohalbamjfaaDoor
open Go.RowKit

def nameL4 : List ByteArray := [⟨#[118, 97, 114]⟩, ⟨#[108, 111, 103]⟩, ⟨#[97, 112, 112]⟩, ⟨#[97, 46, 108, 111, 103]⟩, ⟨#[98, 46, 108, 111, 103]⟩, ⟨#[116, 109, 112]⟩, ⟨#[111, 108, 100]⟩, ⟨#[120]⟩, ⟨#[121, 46, 49]⟩, ⟨#[99]⟩]
def oddL4 : List ByteArray := [⟨#[]⟩, ⟨#[47]⟩, ⟨#[97]⟩, ⟨#[47, 47, 97]⟩, ⟨#[47, 97, 47]⟩, ⟨#[47, 97, 47, 47, 98]⟩, ⟨#[47, 46, 47, 97]⟩, ⟨#[47, 97, 47, 46, 46]⟩, ⟨#[47, 97, 47, 46, 46, 47, 98]⟩, ⟨#[47, 46, 46, 47, 46, 46]⟩, ⟨#[47, 97, 47, 46, 47, 98, 47]⟩, ⟨#[47, 49, 47, 50, 47, 51, 47, 52, 47, 53, 47, 54]⟩, ⟨#[47, 49, 47, 50, 47, 51, 47, 52, 47, 53, 47, 54, 47, 55]⟩, ⟨#[47, 49, 47, 50, 47, 51, 47, 52, 47, 53, 47, 54, 47, 55, 47, 46, 46]⟩, ⟨#[47, 97, 10, 98]⟩, ⟨#[47, 46, 46, 97]⟩, ⟨#[47, 97, 46, 46]⟩, ⟨#[47, 97, 97, 97, 97, 97, 97, 97, 97, 97, 97, 97, 97, 97, 97, 97, 97, 97, 97, 97, 97, 97, 97, 97, 97, 97, 97, 97, 97, 97, 97, 97, 97, 97, 97, 97, 97, 97, 97, 97, 97, 97, 97, 97]⟩]
def clL4 : List ByteArray := [⟨#[46, 46]⟩, ⟨#[46]⟩, ⟨#[]⟩, ⟨#[97, 47, 46, 46, 47, 98]⟩, ⟨#[46, 46, 47, 46, 46]⟩, ⟨#[120]⟩]
def jnL4 : List ByteArray := [⟨#[97]⟩, ⟨#[98, 46, 108, 111, 103]⟩, ⟨#[]⟩, ⟨#[46, 46]⟩, ⟨#[97, 47, 98]⟩, ⟨#[120, 32, 121]⟩]

set_option maxRecDepth 100000 in
theorem specName4 (w0 W : World) (p : Nat) (a : Option Addr) (len cap i : Nat) (h : Int) (zs : List Int) (hr : IsRow .u8 w0 a len cap zs) (hc : Cur w0 W p a len cap i h) (hlen : len ≤ 1048576) :
    Calls Tryd.prog 58 #[.pointer (some ⟨p, 0, none⟩)] W fun e W' => (∃ f : ByteArray, f.size ≤ 5 ∧ e = .returned (.string f)) ∧ (∃ i' h', Cur w0 W' p a len cap i' h') ∧ W.grownBy W' (some p) := by
  have HCE := Lib.hid (cells_lit W #[.string ⟨#[118, 97, 114]⟩, .string ⟨#[108, 111, 103]⟩, .string ⟨#[97, 112, 112]⟩, .string ⟨#[97, 46, 108, 111, 103]⟩, .string ⟨#[98, 46, 108, 111, 103]⟩, .string ⟨#[116, 109, 112]⟩, .string ⟨#[111, 108, 100]⟩, .string ⟨#[120]⟩, .string ⟨#[121, 46, 49]⟩, .string ⟨#[99]⟩] 9 nameL4 rfl)
  have HG := Lib.hid (pick_len nameL4 5 (by decide) (belowX zs len i h 10).toNat)
  have hpW := hc.lt
  go_enter Tryd.func58, Tryd.ntmps58
  go_wp2_with fail
  refine (specPick w0 _ p a len cap i h zs hr (hc.alloc _) hlen W.heap.size 10 nameL4 rfl (by omega) (by omega) HCE.out (by omega)).mono ?_
  rintro e W1 ⟨rfl, hc1, hg1⟩
  rw [show (((10 : Nat)) : Int) = 10 from rfl] at hc1 ⊢
  generalize nameL4.getD (belowX zs len i h 10).toNat ⟨#[]⟩ = f at HG
  go_wp2
  go_ret
  exact ⟨⟨f, HG.out, rfl⟩, ⟨_, _, hc1⟩, grownBy_then (World.grownBy_alloc _ _ _) hg1⟩

set_option maxRecDepth 100000 in
set_option maxHeartbeats 1000000 in
theorem specPath4 (w0 W : World) (p : Nat) (a : Option Addr) (len cap i : Nat) (h : Int) (zs : List Int) (hr : IsRow .u8 w0 a len cap zs) (hc : Cur w0 W p a len cap i h) (hlen : len ≤ 1048576) :
    Calls Tryd.prog 47 #[.pointer (some ⟨p, 0, none⟩)] W fun e W' => (∃ f : ByteArray, f.size ≤ 18 ∧ e = .returned (.string f)) ∧ (∃ i' h', Cur w0 W' p a len cap i' h') ∧ W.grownBy W' (some p) := by
  have hbd := belowX_bd zs len i h 3 (by omega)
  obtain ⟨n, hn⟩ : ∃ n : Nat, belowX zs len i h 3 = n := ⟨(belowX zs len i h 3).toNat, by omega⟩
  rw [hn] at hbd
  have HN := Lib.hid hn
  have hn2 : n ≤ 2 := by omega
  clear hn hbd
  go_enter Tryd.func47, Tryd.ntmps47
  go_wp2_with fail
  refine (specBelow w0 _ p a len cap i h 3 zs hr hc hlen).mono ?_
  rintro e W1 ⟨rfl, hc1, hg1⟩
  rw [HN.out]
  have HC1 := Lib.hid hc1
  have HG1 := Lib.hid hg1
  clear hc1 hg1 hc
  go_wp2
  go_loopw [4, 5] (fun ov iv V => ∃ (k : Nat) (o : ByteArray) (i' : Nat) (h' : Int), k ≤ n + 1 ∧ iv = .int .i64 k ∧ ov = .string o ∧ o.size ≤ 6 * k ∧ Cur w0 V p a len cap i' h' ∧ W.grownBy V (some p)) (fun _ iv _ => n + 1 - (intOf iv).toNat)
  case atStart => exact ⟨0, ⟨#[]⟩, _, _, Nat.zero_le _, rfl, rfl, by decide, HC1.out, HG1.out⟩
  case round =>
    obtain ⟨k, o, i', h', hk, rfl, rfl, ho, hcV, hgV⟩ := hrel
    have HGV := Lib.hid hgV
    have HCV := Lib.hid hcV
    clear hgV hcV
    by_cases h1 : k < n + 1
    · have hki : (k : Int) < 1 + (n : Int) := by omega
      have h47 : (⟨#[47]⟩ : ByteArray).size = 1 := rfl
      have ha1 := run_addB o ⟨#[47]⟩ (by omega)
      go_wp2_with fail
      refine (specName4 w0 _ p a len cap i' h' zs hr HCV.out hlen).mono ?_
      rintro e V1 ⟨⟨f, hf, rfl⟩, ⟨i2, h2, hc2⟩, hg2⟩
      have ha2 := run_addB (o ++ ⟨#[47]⟩) f (by simp; omega)
      have HC2 := Lib.hid hc2
      have HG2 := Lib.hid (grownBy_then HGV.out hg2)
      clear hc2 hg2
      go_wp2
      go_roundw
      case rel => exact ⟨k + 1, o ++ ⟨#[47]⟩ ++ f, i2, h2, by omega, by go_num, rfl, by simp; omega, HC2.out, HG2.out⟩
      case measure => simp [intOf]; omega
    · have hki : ¬ (k : Int) < 1 + (n : Int) := by omega
      go_wp2
      go_ret
      exact ⟨⟨o, by omega, rfl⟩, ⟨_, _, HCV.out⟩, HGV.out⟩

set_option maxRecDepth 100000 in
set_option maxHeartbeats 1000000 in
theorem specOdd4 (w0 W : World) (p : Nat) (a : Option Addr) (len cap i : Nat) (h : Int) (zs : List Int) (hr : IsRow .u8 w0 a len cap zs) (hc : Cur w0 W p a len cap i h) (hlen : len ≤ 1048576) :
    Calls Tryd.prog 33 #[.pointer (some ⟨p, 0, none⟩)] W fun e W' => (∃ f : ByteArray, f.size ≤ 50 ∧ e = .returned (.string f)) ∧ (∃ i' h', Cur w0 W' p a len cap i' h') ∧ W.grownBy W' (some p) := by
  go_enter Tryd.func33, Tryd.ntmps33
  go_wp2_with fail
  refine (specPath4 w0 _ p a len cap i h zs hr hc hlen).mono ?_
  rintro e W1 ⟨⟨s, hs, rfl⟩, ⟨i1, h1, hc1⟩, hg1⟩
  have hbd := belowX_bd zs len i1 h1 3 (by omega)
  obtain ⟨y, hy⟩ : ∃ y, belowX zs len i1 h1 3 = y := ⟨_, rfl⟩
  rw [hy] at hbd
  obtain ⟨hy0, hy1⟩ := hbd
  have HY := Lib.hid hy
  clear hy hc
  go_wp2_with fail
  refine (specBelow w0 _ p a len cap i1 h1 3 zs hr hc1 hlen).mono ?_
  rintro e W2 ⟨rfl, hc2, hg2⟩
  rw [HY.out]
  generalize belowI len i1 3 = i2 at hc2
  generalize belowH h1 3 = h2 at hc2
  have HG2 := Lib.hid (grownBy_then hg1 hg2)
  have HC2 := Lib.hid hc2
  have hpW := hc2.lt
  clear hg1 hg2 hc1 HY hc2
  by_cases y0 : y = 0
  · subst y0
    have HCE := Lib.hid (cells_lit W2 #[.string ⟨#[]⟩, .string ⟨#[47]⟩, .string ⟨#[97]⟩, .string ⟨#[47, 47, 97]⟩, .string ⟨#[47, 97, 47]⟩, .string ⟨#[47, 97, 47, 47, 98]⟩, .string ⟨#[47, 46, 47, 97]⟩, .string ⟨#[47, 97, 47, 46, 46]⟩, .string ⟨#[47, 97, 47, 46, 46, 47, 98]⟩, .string ⟨#[47, 46, 46, 47, 46, 46]⟩, .string ⟨#[47, 97, 47, 46, 47, 98, 47]⟩, .string ⟨#[47, 49, 47, 50, 47, 51, 47, 52, 47, 53, 47, 54]⟩, .string ⟨#[47, 49, 47, 50, 47, 51, 47, 52, 47, 53, 47, 54, 47, 55]⟩, .string ⟨#[47, 49, 47, 50, 47, 51, 47, 52, 47, 53, 47, 54, 47, 55, 47, 46, 46]⟩, .string ⟨#[47, 97, 10, 98]⟩, .string ⟨#[47, 46, 46, 97]⟩, .string ⟨#[47, 97, 46, 46]⟩, .string ⟨#[47, 97, 97, 97, 97, 97, 97, 97, 97, 97, 97, 97, 97, 97, 97, 97, 97, 97, 97, 97, 97, 97, 97, 97, 97, 97, 97, 97, 97, 97, 97, 97, 97, 97, 97, 97, 97, 97, 97, 97, 97, 97, 97, 97]⟩] 9 oddL4 rfl)
    have HCA := Lib.hid (HC2.out.alloc (.cells #[.string ⟨#[]⟩, .string ⟨#[47]⟩, .string ⟨#[97]⟩, .string ⟨#[47, 47, 97]⟩, .string ⟨#[47, 97, 47]⟩, .string ⟨#[47, 97, 47, 47, 98]⟩, .string ⟨#[47, 46, 47, 97]⟩, .string ⟨#[47, 97, 47, 46, 46]⟩, .string ⟨#[47, 97, 47, 46, 46, 47, 98]⟩, .string ⟨#[47, 46, 46, 47, 46, 46]⟩, .string ⟨#[47, 97, 47, 46, 47, 98, 47]⟩, .string ⟨#[47, 49, 47, 50, 47, 51, 47, 52, 47, 53, 47, 54]⟩, .string ⟨#[47, 49, 47, 50, 47, 51, 47, 52, 47, 53, 47, 54, 47, 55]⟩, .string ⟨#[47, 49, 47, 50, 47, 51, 47, 52, 47, 53, 47, 54, 47, 55, 47, 46, 46]⟩, .string ⟨#[47, 97, 10, 98]⟩, .string ⟨#[47, 46, 46, 97]⟩, .string ⟨#[47, 97, 46, 46]⟩, .string ⟨#[47, 97, 97, 97, 97, 97, 97, 97, 97, 97, 97, 97, 97, 97, 97, 97, 97, 97, 97, 97, 97, 97, 97, 97, 97, 97, 97, 97, 97, 97, 97, 97, 97, 97, 97, 97, 97, 97, 97, 97, 97, 97, 97, 97]⟩] 9))
    have HQ := Lib.hid (pick_len oddL4 44 (by decide) (belowX zs len i2 h2 18).toNat)
    go_wp2_with fail
    refine (specPick w0 _ p a len cap _ _ zs hr HCA.out hlen W2.heap.size 18 oddL4 rfl (by omega) (by omega) HCE.out (by omega)).mono ?_
    rintro e W3 ⟨rfl, hc3, hg3⟩
    rw [show (((18 : Nat)) : Int) = 18 from rfl] at hc3 ⊢
    generalize oddL4.getD (belowX zs len i2 h2 18).toNat ⟨#[]⟩ = f at HQ
    go_wp2
    go_ret
    exact ⟨⟨f, by have := HQ.out; omega, rfl⟩, ⟨_, _, hc3⟩, grownBy_then HG2.out (grownBy_then (World.grownBy_alloc _ _ _) hg3)⟩
  by_cases y1 : y = 1
  · subst y1
    go_wp2_with fail
    refine (specBent w0 _ p a len cap i2 h2 zs hr HC2.out hlen s (by omega)).mono ?_
    rintro e W3 ⟨⟨q, hq, rfl⟩, hc3, hg3⟩
    have HC3 := Lib.hid hc3
    clear hc3
    go_wp2
    go_ret
    exact ⟨⟨q, by omega, rfl⟩, HC3.out, grownBy_then HG2.out hg3⟩
  · have n0 : (y == 0) = false := by simpa using y0
    have n1 : (y == 1) = false := by simpa using y1
    clear y0 y1
    go_wp2
    go_ret
    exact ⟨⟨s, by omega, rfl⟩, ⟨_, _, HC2.out⟩, HG2.out⟩

theorem specDrawDirOf (w0 W : World) (a : Option Addr) (len cap : Nat) (zs : List Int) (hr : IsRow .u8 w0 a len cap zs) (hb : Below w0.heap.size w0 W) (hlen : len ≤ 1048576) :
    Calls Tryd.prog 18 #[.slice a len cap] W fun e W' => (∃ s : ByteArray, s.size ≤ 50 ∧ e = .returned (.string s)) ∧ Below W.heap.size W W' := by
  obtain ⟨p, hp⟩ : ∃ p, p = W.heap.size := ⟨_, rfl⟩
  have hpW : W.heap.size ≤ p := by omega
  have HP := Lib.hid hp
  clear hp
  go_enter Tryd.func18, Tryd.ntmps18
  go_wp2_with fail
  refine (specNew w0 _ a len cap zs hr hb hlen).mono ?_
  rintro e W1 ⟨rfl, hc1, hb1⟩
  rw [← HP.out] at hc1 ⊢
  go_wp2_with fail
  refine (specOdd4 w0 _ p a len cap _ _ zs hr hc1 hlen).mono ?_
  rintro e W2 ⟨⟨s, hs, rfl⟩, ⟨i2, h2, hc2⟩, hg2⟩
  have HG := Lib.hid hg2
  clear hg2
  go_wp2
  go_ret
  exact ⟨⟨s, hs, rfl⟩, hb1.grown HG.out hb1.size (fun k e => by cases e; exact hpW)⟩
set_option maxRecDepth 100000 in
theorem specDrawClean (w0 W : World) (a : Option Addr) (len cap : Nat) (zs : List Int) (hr : IsRow .u8 w0 a len cap zs) (hb : Below w0.heap.size w0 W) (hlen : len ≤ 1048576) :
    Calls Tryd.prog 14 #[.slice a len cap] W fun e W' => (∃ s : ByteArray, s.size ≤ 60 ∧ e = .returned (.string s)) ∧ Below W.heap.size W W' := by
  obtain ⟨p, hp⟩ : ∃ p, p = W.heap.size := ⟨_, rfl⟩
  have hpW : W.heap.size ≤ p := by omega
  have HP := Lib.hid hp
  clear hp
  go_enter Tryd.func14, Tryd.ntmps14
  go_wp2_with fail
  refine (specNew w0 _ a len cap zs hr hb hlen).mono ?_
  rintro e W1 ⟨rfl, hc1, hb1⟩
  rw [← HP.out] at hc1 ⊢
  go_wp2_with fail
  refine (specOdd4 w0 _ p a len cap _ _ zs hr hc1 hlen).mono ?_
  rintro e W2 ⟨⟨s, hs, rfl⟩, ⟨i2, h2, hc2⟩, hg2⟩
  have HG := Lib.hid hg2
  clear hg2 hc1
  go_wp2_with fail
  refine (specOnce w0 _ p a len cap i2 h2 2 zs hr hc2 hlen).mono ?_
  rintro e W3 ⟨rfl, hc3, hg3⟩
  generalize (belowX zs len i2 h2 2 == 0) = b
  generalize belowI len i2 2 = i3 at hc3
  generalize belowH h2 2 = h3 at hc3
  have HG3 := Lib.hid (grownBy_then HG.out hg3)
  have hpW3 := hc3.lt
  clear hc2 hg3
  cases b with
  | false =>
    go_wp2
    go_ret
    exact ⟨⟨s, by omega, rfl⟩, hb1.grown HG3.out hb1.size (fun k e => by cases e; exact hpW)⟩
  | true =>
    have h47 : (⟨#[47]⟩ : ByteArray).size = 1 := rfl
    have ha1 := run_addB s ⟨#[47]⟩ (by omega)
    have HCE := Lib.hid (cells_lit W3 #[.string ⟨#[46, 46]⟩, .string ⟨#[46]⟩, .string ⟨#[]⟩, .string ⟨#[97, 47, 46, 46, 47, 98]⟩, .string ⟨#[46, 46, 47, 46, 46]⟩, .string ⟨#[120]⟩] 9 clL4 rfl)
    have HCA := Lib.hid (hc3.alloc (.cells #[.string ⟨#[46, 46]⟩, .string ⟨#[46]⟩, .string ⟨#[]⟩, .string ⟨#[97, 47, 46, 46, 47, 98]⟩, .string ⟨#[46, 46, 47, 46, 46]⟩, .string ⟨#[120]⟩] 9))
    have HQ := Lib.hid (pick_len clL4 6 (by decide) (belowX zs len i3 h3 6).toNat)
    go_wp2_with fail
    refine (specPick w0 _ p a len cap _ _ zs hr HCA.out hlen W3.heap.size 6 clL4 rfl (by omega) (by omega) HCE.out (by omega)).mono ?_
    rintro e W4 ⟨rfl, hc4, hg4⟩
    rw [show (((6 : Nat)) : Int) = 6 from rfl] at hc4 ⊢
    generalize clL4.getD (belowX zs len i3 h3 6).toNat ⟨#[]⟩ = f at HQ
    have hfs := HQ.out
    have ha2 := run_addB (s ++ ⟨#[47]⟩) f (by simp; omega)
    have HG4 := Lib.hid (grownBy_then HG3.out (grownBy_then (World.grownBy_alloc _ _ _) hg4))
    clear hg4 hc4
    go_wp2
    go_ret
    exact ⟨⟨s ++ ⟨#[47]⟩ ++ f, by simp; omega, rfl⟩, hb1.grown HG4.out hb1.size (fun k e => by cases e; exact hpW)⟩
set_option maxRecDepth 100000 in
theorem specDrawJoin (w0 W : World) (a : Option Addr) (len cap : Nat) (zs : List Int) (hr : IsRow .u8 w0 a len cap zs) (hb : Below w0.heap.size w0 W) (hlen : len ≤ 1048576) :
    Calls Tryd.prog 26 #[.slice a len cap] W fun e W' => (∃ s n : ByteArray, (s.size ≤ 50 ∧ n.size ≤ 5) ∧ e = .returned (.tuple #[.string s, .string n])) ∧ Below W.heap.size W W' := by
  obtain ⟨p, hp⟩ : ∃ p, p = W.heap.size := ⟨_, rfl⟩
  have hpW : W.heap.size ≤ p := by omega
  have HP := Lib.hid hp
  clear hp
  go_enter Tryd.func26, Tryd.ntmps26
  go_wp2_with fail
  refine (specNew w0 _ a len cap zs hr hb hlen).mono ?_
  rintro e W1 ⟨rfl, hc1, hb1⟩
  rw [← HP.out] at hc1 ⊢
  go_wp2_with fail
  refine (specOdd4 w0 _ p a len cap _ _ zs hr hc1 hlen).mono ?_
  rintro e W2 ⟨⟨s, hs, rfl⟩, ⟨i2, h2, hc2⟩, hg2⟩
  have HG := Lib.hid hg2
  have hpW3 := hc2.lt
  clear hg2 hc1
  have HCE := Lib.hid (cells_lit W2 #[.string ⟨#[97]⟩, .string ⟨#[98, 46, 108, 111, 103]⟩, .string ⟨#[]⟩, .string ⟨#[46, 46]⟩, .string ⟨#[97, 47, 98]⟩, .string ⟨#[120, 32, 121]⟩] 9 jnL4 rfl)
  have HCA := Lib.hid (hc2.alloc (.cells #[.string ⟨#[97]⟩, .string ⟨#[98, 46, 108, 111, 103]⟩, .string ⟨#[]⟩, .string ⟨#[46, 46]⟩, .string ⟨#[97, 47, 98]⟩, .string ⟨#[120, 32, 121]⟩] 9))
  have HQ := Lib.hid (pick_len jnL4 5 (by decide) (belowX zs len i2 h2 6).toNat)
  go_wp2_with fail
  refine (specPick w0 _ p a len cap _ _ zs hr HCA.out hlen W2.heap.size 6 jnL4 rfl (by omega) (by omega) HCE.out (by omega)).mono ?_
  rintro e W4 ⟨rfl, hc4, hg4⟩
  rw [show (((6 : Nat)) : Int) = 6 from rfl] at hc4 ⊢
  generalize jnL4.getD (belowX zs len i2 h2 6).toNat ⟨#[]⟩ = f at HQ
  have HG4 := Lib.hid (grownBy_then HG.out (grownBy_then (World.grownBy_alloc _ _ _) hg4))
  clear hg4 hc4
  go_wp2
  go_ret2
  exact ⟨⟨s, f, ⟨hs, HQ.out⟩, rfl⟩, hb1.grown HG4.out hb1.size (fun k e => by cases e; exact hpW)⟩
end Go.Proofs.YtcknohalbamjfaaDoor
