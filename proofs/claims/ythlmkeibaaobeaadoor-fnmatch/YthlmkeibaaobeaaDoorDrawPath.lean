/- The draws of names and paths: whatever the code is, a short text comes out. -/
import Derived.Test.YthlmkeibaaobeaaDoorCur
import Derived.Test.YthlmkeibaaobeaaDoorBent
import Derived.Test.YthlmkeibaaobeaaDoorDecText
namespace Go.Proofs.YthlmkeibaaobeaaDoor
open Go.RowKit

def nameL4 : List ByteArray := [⟨#[118, 97, 114]⟩, ⟨#[108, 111, 103]⟩, ⟨#[97, 112, 112]⟩, ⟨#[97, 46, 108, 111, 103]⟩, ⟨#[98, 46, 108, 111, 103]⟩, ⟨#[116, 109, 112]⟩, ⟨#[111, 108, 100]⟩, ⟨#[120]⟩, ⟨#[121, 46, 49]⟩, ⟨#[99]⟩]
def oddL4 : List ByteArray := [⟨#[]⟩, ⟨#[47]⟩, ⟨#[97]⟩, ⟨#[47, 47, 97]⟩, ⟨#[47, 97, 47]⟩, ⟨#[47, 97, 47, 47, 98]⟩, ⟨#[47, 46, 47, 97]⟩, ⟨#[47, 97, 47, 46, 46]⟩, ⟨#[47, 97, 47, 46, 46, 47, 98]⟩, ⟨#[47, 46, 46, 47, 46, 46]⟩, ⟨#[47, 97, 47, 46, 47, 98, 47]⟩, ⟨#[47, 49, 47, 50, 47, 51, 47, 52, 47, 53, 47, 54]⟩, ⟨#[47, 49, 47, 50, 47, 51, 47, 52, 47, 53, 47, 54, 47, 55]⟩, ⟨#[47, 49, 47, 50, 47, 51, 47, 52, 47, 53, 47, 54, 47, 55, 47, 46, 46]⟩, ⟨#[47, 97, 10, 98]⟩, ⟨#[47, 46, 46, 97]⟩, ⟨#[47, 97, 46, 46]⟩, ⟨#[47, 97, 97, 97, 97, 97, 97, 97, 97, 97, 97, 97, 97, 97, 97, 97, 97, 97, 97, 97, 97, 97, 97, 97, 97, 97, 97, 97, 97, 97, 97, 97, 97, 97, 97, 97, 97, 97, 97, 97, 97, 97, 97, 97]⟩]
def clL4 : List ByteArray := [⟨#[46, 46]⟩, ⟨#[46]⟩, ⟨#[]⟩, ⟨#[97, 47, 46, 46, 47, 98]⟩, ⟨#[46, 46, 47, 46, 46]⟩, ⟨#[120]⟩]
def jnL4 : List ByteArray := [⟨#[97]⟩, ⟨#[98, 46, 108, 111, 103]⟩, ⟨#[]⟩, ⟨#[46, 46]⟩, ⟨#[97, 47, 98]⟩, ⟨#[120, 32, 121]⟩]

/-- No stroke in it. -/
def noStroke (f : ByteArray) : Bool := f.data.toList.all fun c => !(c == 47)
theorem pick_has (ls : List ByteArray) (P : ByteArray → Bool) (h0 : P ⟨#[]⟩ = true) (h : ls.all P = true) (j : Nat) : P (ls.getD j ⟨#[]⟩) = true := by
  rw [List.getD_eq_getElem?_getD]
  cases hj : ls[j]? with
  | none => exact h0
  | some x => exact List.all_eq_true.1 h x (List.mem_of_getElem? hj)
set_option maxRecDepth 100000 in
theorem specName5 (w0 W : World) (p : Nat) (a : Option Addr) (len cap i : Nat) (h : Int) (zs : List Int) (hr : IsRow .u8 w0 a len cap zs) (hc : Cur w0 W p a len cap i h) (hlen : len ≤ 1048576) :
    Calls Tryd.prog 18 #[.pointer (some ⟨p, 0, none⟩)] W fun e W' => (∃ f : ByteArray, (f.size ≤ 5 ∧ noStroke f = true) ∧ e = .returned (.string f)) ∧ (∃ i' h', Cur w0 W' p a len cap i' h') ∧ W.grownBy W' (some p) := by
  have HCE := Lib.hid (cells_lit W #[.string ⟨#[118, 97, 114]⟩, .string ⟨#[108, 111, 103]⟩, .string ⟨#[97, 112, 112]⟩, .string ⟨#[97, 46, 108, 111, 103]⟩, .string ⟨#[98, 46, 108, 111, 103]⟩, .string ⟨#[116, 109, 112]⟩, .string ⟨#[111, 108, 100]⟩, .string ⟨#[120]⟩, .string ⟨#[121, 46, 49]⟩, .string ⟨#[99]⟩] 9 nameL4 rfl)
  have HG := Lib.hid (pick_len nameL4 5 (by decide) (belowX zs len i h 10).toNat)
  have HS := Lib.hid (pick_has nameL4 noStroke rfl (by decide) (belowX zs len i h 10).toNat)
  have hpW := hc.lt
  go_enter Tryd.func18, Tryd.ntmps18
  go_wp2_with fail
  refine (specPick w0 _ p a len cap i h zs hr (hc.alloc _) hlen W.heap.size 10 nameL4 rfl (by omega) (by omega) HCE.out (by omega)).mono ?_
  rintro e W1 ⟨rfl, hc1, hg1⟩
  rw [show (((10 : Nat)) : Int) = 10 from rfl] at hc1 ⊢
  generalize nameL4.getD (belowX zs len i h 10).toNat ⟨#[]⟩ = f at HG HS
  go_wp2
  go_ret
  exact ⟨⟨f, ⟨HG.out, HS.out⟩, rfl⟩, ⟨_, _, hc1⟩, grownBy_then (World.grownBy_alloc _ _ _) hg1⟩
theorem specName4 (w0 W : World) (p : Nat) (a : Option Addr) (len cap i : Nat) (h : Int) (zs : List Int) (hr : IsRow .u8 w0 a len cap zs) (hc : Cur w0 W p a len cap i h) (hlen : len ≤ 1048576) :
    Calls Tryd.prog 18 #[.pointer (some ⟨p, 0, none⟩)] W fun e W' => (∃ f : ByteArray, f.size ≤ 5 ∧ e = .returned (.string f)) ∧ (∃ i' h', Cur w0 W' p a len cap i' h') ∧ W.grownBy W' (some p) :=
  (specName5 w0 W p a len cap i h zs hr hc hlen).mono fun e W' ⟨⟨f, h1, h2⟩, h3⟩ => ⟨⟨f, h1.1, h2⟩, h3⟩

set_option maxRecDepth 100000 in
set_option maxHeartbeats 1000000 in
theorem specPath5 (w0 W : World) (p : Nat) (a : Option Addr) (len cap i : Nat) (h : Int) (zs : List Int) (hr : IsRow .u8 w0 a len cap zs) (hc : Cur w0 W p a len cap i h) (hlen : len ≤ 1048576) :
    Calls Tryd.prog 25 #[.pointer (some ⟨p, 0, none⟩)] W fun e W' => (∃ f : ByteArray, (f.size ≤ 18 ∧ 1 ≤ f.size) ∧ e = .returned (.string f)) ∧ (∃ i' h', Cur w0 W' p a len cap i' h') ∧ W.grownBy W' (some p) := by
  have hbd := belowX_bd zs len i h 3 (by omega)
  obtain ⟨n, hn⟩ : ∃ n : Nat, belowX zs len i h 3 = n := ⟨(belowX zs len i h 3).toNat, by omega⟩
  rw [hn] at hbd
  have HN := Lib.hid hn
  have hn2 : n ≤ 2 := by omega
  clear hn hbd
  go_enter Tryd.func25, Tryd.ntmps25
  go_wp2_with fail
  refine (specBelow w0 _ p a len cap i h 3 zs hr hc hlen).mono ?_
  rintro e W1 ⟨rfl, hc1, hg1⟩
  rw [HN.out]
  have HC1 := Lib.hid hc1
  have HG1 := Lib.hid hg1
  clear hc1 hg1 hc
  go_wp2
  go_loopw [4, 5] (fun ov iv V => ∃ (k : Nat) (o : ByteArray) (i' : Nat) (h' : Int), k ≤ n + 1 ∧ iv = .int .i64 k ∧ ov = .string o ∧ o.size ≤ 6 * k ∧ k ≤ o.size ∧ Cur w0 V p a len cap i' h' ∧ W.grownBy V (some p)) (fun _ iv _ => n + 1 - (intOf iv).toNat)
  case atStart => exact ⟨0, ⟨#[]⟩, _, _, Nat.zero_le _, rfl, rfl, by decide, Nat.zero_le _, HC1.out, HG1.out⟩
  case round =>
    obtain ⟨k, o, i', h', hk, rfl, rfl, ho, ho2, hcV, hgV⟩ := hrel
    have HGV := Lib.hid hgV
    have HCV := Lib.hid hcV
    clear hgV hcV
    by_cases h1 : k < n + 1
    · have hki : (k : Int) < 1 + (n : Int) := by omega
      have h47 : (⟨#[47]⟩ : ByteArray).size = 1 := rfl
      have ha1 := run_addB o ⟨#[47]⟩ (by omega)
      go_wp2_with fail
      refine (specName4 w0 _ p a len cap i' h' zs hr HCV.out hlen).mono ?_
      rintro e V1 ⟨⟨f, hf, rfl⟩, ⟨i2, h2, hc2⟩, hg2⟩
      have ha2 := run_addB (o ++ ⟨#[47]⟩) f (by simp; omega)
      have HC2 := Lib.hid hc2
      have HG2 := Lib.hid (grownBy_then HGV.out hg2)
      clear hc2 hg2
      go_wp2
      go_roundw
      case rel => exact ⟨k + 1, o ++ ⟨#[47]⟩ ++ f, i2, h2, by omega, by go_num, rfl, by simp; omega, by simp; omega, HC2.out, HG2.out⟩
      case measure => simp [intOf]; omega
    · have hki : ¬ (k : Int) < 1 + (n : Int) := by omega
      go_wp2
      go_ret
      exact ⟨⟨o, ⟨by omega, by omega⟩, rfl⟩, ⟨_, _, HCV.out⟩, HGV.out⟩
theorem specPath4 (w0 W : World) (p : Nat) (a : Option Addr) (len cap i : Nat) (h : Int) (zs : List Int) (hr : IsRow .u8 w0 a len cap zs) (hc : Cur w0 W p a len cap i h) (hlen : len ≤ 1048576) :
    Calls Tryd.prog 25 #[.pointer (some ⟨p, 0, none⟩)] W fun e W' => (∃ f : ByteArray, f.size ≤ 18 ∧ e = .returned (.string f)) ∧ (∃ i' h', Cur w0 W' p a len cap i' h') ∧ W.grownBy W' (some p) :=
  (specPath5 w0 W p a len cap i h zs hr hc hlen).mono fun e W' ⟨⟨f, h1, h2⟩, h3⟩ => ⟨⟨f, h1.1, h2⟩, h3⟩
end Go.Proofs.YthlmkeibaaobeaaDoor
