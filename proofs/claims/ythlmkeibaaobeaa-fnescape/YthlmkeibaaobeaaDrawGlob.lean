/- The draws of patterns: whatever the code is, short texts come out. -/
import Derived.Test.YthlmkeibaaobeaaDrawPath
namespace Go.Proofs.Ythlmkeibaaobeaa
open Go.RowKit

def patL5 : List ByteArray := [⟨#[42]⟩, ⟨#[42, 46, 108, 111, 103]⟩, ⟨#[97, 42]⟩, ⟨#[63, 46, 108, 111, 103]⟩, ⟨#[91, 97, 45, 99, 93, 46, 108, 111, 103]⟩, ⟨#[91, 33, 97, 93, 46, 108, 111, 103]⟩, ⟨#[97, 92, 42, 98]⟩, ⟨#[42, 46, 42]⟩, ⟨#[91, 93, 120, 93, 42]⟩, ⟨#[91, 94, 97, 93]⟩, ⟨#[91, 122, 45, 97, 93]⟩, ⟨#[91, 97, 45, 93]⟩, ⟨#[91, 92, 93, 97, 93]⟩, ⟨#[]⟩, ⟨#[97, 46, 108, 111, 103]⟩, ⟨#[42, 97, 42, 98, 42]⟩, ⟨#[91]⟩, ⟨#[91, 97]⟩, ⟨#[97, 92]⟩, ⟨#[91, 33, 93]⟩, ⟨#[91, 33, 93, 93]⟩, ⟨#[91, 45, 97, 93]⟩, ⟨#[42, 42]⟩]
def bitL5 : List ByteArray := [⟨#[42]⟩, ⟨#[63]⟩, ⟨#[97]⟩, ⟨#[98]⟩, ⟨#[46]⟩, ⟨#[108, 111, 103]⟩, ⟨#[91, 97, 98, 93]⟩, ⟨#[91, 33, 46, 93]⟩, ⟨#[92, 97]⟩, ⟨#[91, 97, 45, 108, 93]⟩]
def namL5 : List ByteArray := [⟨#[97, 46, 108, 111, 103]⟩, ⟨#[98, 46, 108, 111, 103]⟩, ⟨#[97]⟩, ⟨#[97, 98]⟩, ⟨#[93, 120]⟩, ⟨#[97, 42, 98]⟩, ⟨#[45]⟩, ⟨#[97, 97, 98]⟩, ⟨#[33]⟩, ⟨#[108, 111, 103, 46, 97]⟩]
def escL5 : List ByteArray := [⟨#[]⟩, ⟨#[42]⟩, ⟨#[91, 97, 93]⟩, ⟨#[92]⟩, ⟨#[63]⟩, ⟨#[93]⟩]
set_option maxRecDepth 100000 in
set_option maxHeartbeats 1000000 in
theorem specDrawEscape (w0 W : World) (a : Option Addr) (len cap : Nat) (zs : List Int) (hr : IsRow .u8 w0 a len cap zs) (hb : Below w0.heap.size w0 W) (hlen : len ≤ 1048576) :
    Calls Try.prog 9 #[.slice a len cap] W fun e W' => (∃ s : ByteArray, s.size ≤ 8 ∧ e = .returned (.string s)) ∧ Below W.heap.size W W' := by
  obtain ⟨p, hp⟩ : ∃ p, p = W.heap.size := ⟨_, rfl⟩
  have hpW : W.heap.size ≤ p := by omega
  have HP := Lib.hid hp
  clear hp
  go_enter Try.func9, Try.ntmps9
  go_wp2_with fail
  refine (specNew w0 _ a len cap zs hr hb hlen).mono ?_
  rintro e W1 ⟨rfl, hc1, hb1⟩
  rw [← HP.out] at hc1 ⊢
  go_wp2_with fail
  refine (specName4 w0 _ p a len cap _ _ zs hr hc1 hlen).mono ?_
  rintro e W2 ⟨⟨s, hs, rfl⟩, ⟨i2, h2, hc2⟩, hg2⟩
  have HG := Lib.hid hg2
  have hpW3 := hc2.lt
  clear hg2 hc1
  have HCE3 := Lib.hid (cells_lit W2 #[.string ⟨#[]⟩, .string ⟨#[42]⟩, .string ⟨#[91, 97, 93]⟩, .string ⟨#[92]⟩, .string ⟨#[63]⟩, .string ⟨#[93]⟩] 9 escL5 rfl)
  have HCA3 := Lib.hid (hc2.alloc (.cells #[.string ⟨#[]⟩, .string ⟨#[42]⟩, .string ⟨#[91, 97, 93]⟩, .string ⟨#[92]⟩, .string ⟨#[63]⟩, .string ⟨#[93]⟩] 9))
  have HQ3 := Lib.hid (pick_len escL5 3 (by decide) (belowX zs len i2 h2 6).toNat)
  go_wp2_with fail
  refine (specPick w0 _ p a len cap _ _ zs hr HCA3.out hlen W2.heap.size 6 escL5 rfl (by omega) (by omega) HCE3.out (by omega)).mono ?_
  rintro e W3 ⟨rfl, hc3, hg3⟩
  rw [show (((6 : Nat)) : Int) = 6 from rfl] at hc3 ⊢
  generalize escL5.getD (belowX zs len i2 h2 6).toNat ⟨#[]⟩ = f at HQ3
  have hfs := HQ3.out
  have ha := run_addB s f (by omega)
  have HG4 := Lib.hid (grownBy_then HG.out (grownBy_then (World.grownBy_alloc _ _ _) hg3))
  clear hg3 hc3
  go_wp2
  go_ret
  exact ⟨⟨s ++ f, by simp; omega, rfl⟩, hb1.grown HG4.out hb1.size (fun k e => by cases e; exact hpW)⟩
end Go.Proofs.Ythlmkeibaaobeaa
