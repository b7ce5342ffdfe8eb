/- The draws of names and paths: whatever the code is, a short text comes out. -/
import Derived.Test.YthlmkeibaaobeaaCur
import Derived.Test.YthlmkeibaaobeaaBent
import Derived.Test.YthlmkeibaaobeaaDecText
namespace Go.Proofs.Ythlmkeibaaobeaa
open Go.RowKit

def nameL4 : List ByteArray := [⟨#[118, 97, 114]⟩, ⟨#[108, 111, 103]⟩, ⟨#[97, 112, 112]⟩, ⟨#[97, 46, 108, 111, 103]⟩, ⟨#[98, 46, 108, 111, 103]⟩, ⟨#[116, 109, 112]⟩, ⟨#[111, 108, 100]⟩, ⟨#[120]⟩, ⟨#[121, 46, 49]⟩, ⟨#[99]⟩]
def oddL4 : List ByteArray := [⟨#[]⟩, ⟨#[47]⟩, ⟨#[97]⟩, ⟨#[47, 47, 97]⟩, ⟨#[47, 97, 47]⟩, ⟨#[47, 97, 47, 47, 98]⟩, ⟨#[47, 46, 47, 97]⟩, ⟨#[47, 97, 47, 46, 46]⟩, ⟨#[47, 97, 47, 46, 46, 47, 98]⟩, ⟨#[47, 46, 46, 47, 46, 46]⟩, ⟨#[47, 97, 47, 46, 47, 98, 47]⟩, ⟨#[47, 49, 47, 50, 47, 51, 47, 52, 47, 53, 47, 54]⟩, ⟨#[47, 49, 47, 50, 47, 51, 47, 52, 47, 53, 47, 54, 47, 55]⟩, ⟨#[47, 49, 47, 50, 47, 51, 47, 52, 47, 53, 47, 54, 47, 55, 47, 46, 46]⟩, ⟨#[47, 97, 10, 98]⟩, ⟨#[47, 46, 46, 97]⟩, ⟨#[47, 97, 46, 46]⟩, ⟨#[47, 97, 97, 97, 97, 97, 97, 97, 97, 97, 97, 97, 97, 97, 97, 97, 97, 97, 97, 97, 97, 97, 97, 97, 97, 97, 97, 97, 97, 97, 97, 97, 97, 97, 97, 97, 97, 97, 97, 97, 97, 97, 97, 97]⟩]
def clL4 : List ByteArray := [⟨#[46, 46]⟩, ⟨#[46]⟩, ⟨#[]⟩, ⟨#[97, 47, 46, 46, 47, 98]⟩, ⟨#[46, 46, 47, 46, 46]⟩, ⟨#[120]⟩]
def jnL4 : List ByteArray := [⟨#[97]⟩, ⟨#[98, 46, 108, 111, 103]⟩, ⟨#[]⟩, ⟨#[46, 46]⟩, ⟨#[97, 47, 98]⟩, ⟨#[120, 32, 121]⟩]

set_option maxRecDepth 100000 in
theorem specName4 (w0 W : World) (p : Nat) (a : Option Addr) (len cap i : Nat) (h : Int) (zs : List Int) (hr : IsRow .u8 w0 a len cap zs) (hc : Cur w0 W p a len cap i h) (hlen : len ≤ 1048576) :
    Calls Try.prog 20 #[.pointer (some ⟨p, 0, none⟩)] W fun e W' => (∃ f : ByteArray, f.size ≤ 5 ∧ e = .returned (.string f)) ∧ (∃ i' h', Cur w0 W' p a len cap i' h') ∧ W.grownBy W' (some p) := by
  have HCE := Lib.hid (cells_lit W #[.string ⟨#[118, 97, 114]⟩, .string ⟨#[108, 111, 103]⟩, .string ⟨#[97, 112, 112]⟩, .string ⟨#[97, 46, 108, 111, 103]⟩, .string ⟨#[98, 46, 108, 111, 103]⟩, .string ⟨#[116, 109, 112]⟩, .string ⟨#[111, 108, 100]⟩, .string ⟨#[120]⟩, .string ⟨#[121, 46, 49]⟩, .string ⟨#[99]⟩] 9 nameL4 rfl)
  have HG := Lib.hid (pick_len nameL4 5 (by decide) (belowX zs len i h 10).toNat)
  have hpW := hc.lt
  go_enter Try.func20, Try.ntmps20
  go_wp2_with fail
  refine (specPick w0 _ p a len cap i h zs hr (hc.alloc _) hlen W.heap.size 10 nameL4 rfl (by omega) (by omega) HCE.out (by omega)).mono ?_
  rintro e W1 ⟨rfl, hc1, hg1⟩
  rw [show (((10 : Nat)) : Int) = 10 from rfl] at hc1 ⊢
  generalize nameL4.getD (belowX zs len i h 10).toNat ⟨#[]⟩ = f at HG
  go_wp2
  go_ret
  exact ⟨⟨f, HG.out, rfl⟩, ⟨_, _, hc1⟩, grownBy_then (World.grownBy_alloc _ _ _) hg1⟩

end Go.Proofs.Ythlmkeibaaobeaa
