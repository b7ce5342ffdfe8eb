/- The draws of texts for words and lines, as plain functions of the code. -/
import Derived.Test.YtlkmpmlcjiiboaaCur
import Derived.Test.YtlkmpmlcjiiboaaDecText
namespace Go.Proofs.Ytlkmpmlcjiiboaa
open Go.RowKit

def dwList : List ByteArray := [⟨#[97]⟩, ⟨#[32]⟩, ⟨#[98, 99]⟩, ⟨#[9]⟩, ⟨#[34]⟩, ⟨#[34, 120, 32, 121, 34]⟩, ⟨#[34, 34]⟩, ⟨#[32]⟩]
def dwText (zs : List Int) (len : Nat) : List UInt8 := pickN dwList zs len (belowX zs len 0 (newH zs len) 8).toNat (belowI len 0 8) (belowH (newH zs len) 8) []
theorem dw_pick (zs : List Int) (len n i : Nat) (h : Int) (acc : List UInt8) : pickN dwList zs len (n + 1) i h acc = pickN dwList zs len n (belowI len i 8) (belowH h 8) (acc ++ (dwList.getD (belowX zs len i h 8).toNat ⟨#[]⟩).data.toList) := rfl
theorem dw_small : ∀ x ∈ dwList, x.size ≤ 5 := by decide

set_option maxRecDepth 100000 in
set_option maxHeartbeats 1000000 in
theorem specDrawWords (w0 W : World) (a : Option Addr) (len cap : Nat) (zs : List Int) (hr : IsRow .u8 w0 a len cap zs) (hb : Below w0.heap.size w0 W) (hlen : len ≤ 1048576) :
    Calls Try.prog 12 #[.slice a len cap] W fun e W' => e = .returned (.string (strOf (dwText zs len))) ∧ (dwText zs len).length ≤ 40 ∧ Below W.heap.size W W' := by
  obtain ⟨p, hp⟩ : ∃ p, p = W.heap.size := ⟨_, rfl⟩
  have hbd := belowX_bd zs len 0 (newH zs len) 8 (by omega)
  obtain ⟨n, hn⟩ : ∃ n : Nat, belowX zs len 0 (newH zs len) 8 = n := ⟨(belowX zs len 0 (newH zs len) 8).toNat, by omega⟩
  rw [hn] at hbd
  have hn8 : n < 8 := by omega
  have HN := Lib.hid hn
  have HP := Lib.hid hp
  have hpW : W.heap.size ≤ p := by omega
  have HT := Lib.hid (show dwText zs len = pickN dwList zs len n (belowI len 0 8) (belowH (newH zs len) 8) [] by unfold dwText; rw [hn]; rfl)
  clear hn hbd hp
  go_enter Try.func12, Try.ntmps12
  go_wp2_with fail
  refine (specNew w0 _ a len cap zs hr hb hlen).mono ?_
  rintro e W1 ⟨rfl, hc1, hb1⟩
  rw [← HP.out] at hc1 ⊢
  go_wp2_with fail
  refine (specBelow w0 _ p a len cap _ _ 8 zs hr hc1 hlen).mono ?_
  rintro e W2 ⟨rfl, hc2, hg2⟩
  rw [HN.out]
  have hb2 : Below W.heap.size W W2 := hb1.grown hg2 hb1.size (fun k e => by cases e; exact hpW)
  go_wp2
  go_loopw [4, 6] (fun sv i wr => ∃ (k ci : Nat) (ch : Int) (acc : List UInt8), k ≤ n ∧ i = .int .i64 k ∧ sv = .string (strOf acc) ∧ acc.length ≤ 5 * k ∧ Cur w0 wr p a len cap ci ch ∧ Below W.heap.size W wr ∧ dwText zs len = pickN dwList zs len (n - k) ci ch acc) (fun _ i _ => n - (intOf i).toNat)
  case atStart => exact ⟨0, _, _, [], Nat.zero_le _, rfl, rfl, by simp, hc2, hb2, HT.out⟩
  case round =>
    obtain ⟨k, ci, ch, acc, hk, rfl, rfl, hal, hc, hbw, htx⟩ := hrel
    have HX := Lib.hid htx
    have HC := Lib.hid hc
    have HB := Lib.hid hbw
    clear htx hc hbw
    by_cases h1 : k < n
    · obtain ⟨r, hr2⟩ : ∃ r, n - k = r + 1 := ⟨n - k - 1, by omega⟩
      have HR := Lib.hid hr2
      obtain ⟨x, hx⟩ : ∃ x, x = dwList.getD (belowX zs len ci ch 8).toNat ⟨#[]⟩ := ⟨_, rfl⟩
      have hxs : x.size ≤ 5 := by rw [hx]; exact pick_len _ _ dw_small _
      have hxe : x = strOf x.data.toList := by unfold strOf; simp
      have hadd := run_add acc x.data.toList (by simp; omega)
      rw [← hxe] at hadd
      have HXX := Lib.hid hx
      clear hr2 hx hxe
      have hcell := cells_lit wr #[.string ⟨#[97]⟩, .string ⟨#[32]⟩, .string ⟨#[98, 99]⟩, .string ⟨#[9]⟩, .string ⟨#[34]⟩, .string ⟨#[34, 120, 32, 121, 34]⟩, .string ⟨#[34, 34]⟩, .string ⟨#[32]⟩] 9 dwList rfl
      have HCE := Lib.hid hcell
      clear hcell
      go_wp2_with (go_at_call 32; refine (specPick w0 _ p a len cap ci ch zs hr (HC.out.alloc _) hlen wr.heap.size 8 dwList rfl (by omega) (by omega) HCE.out (by have := HC.out.lt; omega)).mono ?_; rintro e W3 ⟨rfl, hc3, hg3⟩; rw [show dwList.getD (belowX zs len ci ch ((8 : Nat) : Int)).toNat ⟨#[]⟩ = x from HXX.out.symm])
      go_roundw
      case rel =>
        refine ⟨k + 1, _, _, acc ++ x.data.toList, by omega, by go_num, rfl, by rw [List.length_append]; simp; omega, hc3, (HB.out.alloc HB.out.size _).grown hg3 (by have := HB.out.size; simp; omega) (fun k e => by cases e; exact hpW), ?_⟩
        rw [HX.out, show n - k = (n - (k + 1)) + 1 by omega, dw_pick, ← HXX.out]
        rfl
      case measure => simp [intOf]; omega
    · obtain rfl : k = n := by omega
      go_wp2
      go_ret
      have e : dwText zs len = acc := by rw [HX.out, Nat.sub_self]; rfl
      exact ⟨ret_str (by rw [e]), by rw [e]; omega, HB.out⟩

def dlList : List ByteArray := [⟨#[97]⟩, ⟨#[10]⟩, ⟨#[98, 99]⟩, ⟨#[10]⟩, ⟨#[]⟩]
def dlText (zs : List Int) (len : Nat) : List UInt8 := pickN dlList zs len (belowX zs len 0 (newH zs len) 6).toNat (belowI len 0 6) (belowH (newH zs len) 6) []
theorem dl_pick (zs : List Int) (len n i : Nat) (h : Int) (acc : List UInt8) : pickN dlList zs len (n + 1) i h acc = pickN dlList zs len n (belowI len i 5) (belowH h 5) (acc ++ (dlList.getD (belowX zs len i h 5).toNat ⟨#[]⟩).data.toList) := rfl
theorem dl_small : ∀ x ∈ dlList, x.size ≤ 2 := by decide

set_option maxRecDepth 100000 in
set_option maxHeartbeats 1000000 in
theorem specDrawLines (w0 W : World) (a : Option Addr) (len cap : Nat) (zs : List Int) (hr : IsRow .u8 w0 a len cap zs) (hb : Below w0.heap.size w0 W) (hlen : len ≤ 1048576) :
    Calls Try.prog 15 #[.slice a len cap] W fun e W' => e = .returned (.string (strOf (dlText zs len))) ∧ (dlText zs len).length ≤ 12 ∧ Below W.heap.size W W' := by
  obtain ⟨p, hp⟩ : ∃ p, p = W.heap.size := ⟨_, rfl⟩
  have hbd := belowX_bd zs len 0 (newH zs len) 6 (by omega)
  obtain ⟨n, hn⟩ : ∃ n : Nat, belowX zs len 0 (newH zs len) 6 = n := ⟨(belowX zs len 0 (newH zs len) 6).toNat, by omega⟩
  rw [hn] at hbd
  have hn8 : n < 6 := by omega
  have HN := Lib.hid hn
  have HP := Lib.hid hp
  have hpW : W.heap.size ≤ p := by omega
  have HT := Lib.hid (show dlText zs len = pickN dlList zs len n (belowI len 0 6) (belowH (newH zs len) 6) [] by unfold dlText; rw [hn]; rfl)
  clear hn hbd hp
  go_enter Try.func15, Try.ntmps15
  go_wp2_with fail
  refine (specNew w0 _ a len cap zs hr hb hlen).mono ?_
  rintro e W1 ⟨rfl, hc1, hb1⟩
  rw [← HP.out] at hc1 ⊢
  go_wp2_with fail
  refine (specBelow w0 _ p a len cap _ _ 6 zs hr hc1 hlen).mono ?_
  rintro e W2 ⟨rfl, hc2, hg2⟩
  rw [HN.out]
  have hb2 : Below W.heap.size W W2 := hb1.grown hg2 hb1.size (fun k e => by cases e; exact hpW)
  go_wp2
  go_loopw [4, 6] (fun sv i wr => ∃ (k ci : Nat) (ch : Int) (acc : List UInt8), k ≤ n ∧ i = .int .i64 k ∧ sv = .string (strOf acc) ∧ acc.length ≤ 2 * k ∧ Cur w0 wr p a len cap ci ch ∧ Below W.heap.size W wr ∧ dlText zs len = pickN dlList zs len (n - k) ci ch acc) (fun _ i _ => n - (intOf i).toNat)
  case atStart => exact ⟨0, _, _, [], Nat.zero_le _, rfl, rfl, by simp, hc2, hb2, HT.out⟩
  case round =>
    obtain ⟨k, ci, ch, acc, hk, rfl, rfl, hal, hc, hbw, htx⟩ := hrel
    have HX := Lib.hid htx
    have HC := Lib.hid hc
    have HB := Lib.hid hbw
    clear htx hc hbw
    by_cases h1 : k < n
    · obtain ⟨r, hr2⟩ : ∃ r, n - k = r + 1 := ⟨n - k - 1, by omega⟩
      have HR := Lib.hid hr2
      obtain ⟨x, hx⟩ : ∃ x, x = dlList.getD (belowX zs len ci ch 5).toNat ⟨#[]⟩ := ⟨_, rfl⟩
      have hxs : x.size ≤ 2 := by rw [hx]; exact pick_len _ _ dl_small _
      have hxe : x = strOf x.data.toList := by unfold strOf; simp
      have hadd := run_add acc x.data.toList (by simp; omega)
      rw [← hxe] at hadd
      have HXX := Lib.hid hx
      clear hr2 hx hxe
      have hcell := cells_lit wr #[.string ⟨#[97]⟩, .string ⟨#[10]⟩, .string ⟨#[98, 99]⟩, .string ⟨#[10]⟩, .string ⟨#[]⟩] 9 dlList rfl
      have HCE := Lib.hid hcell
      clear hcell
      go_wp2_with (go_at_call 32; refine (specPick w0 _ p a len cap ci ch zs hr (HC.out.alloc _) hlen wr.heap.size 5 dlList rfl (by omega) (by omega) HCE.out (by have := HC.out.lt; omega)).mono ?_; rintro e W3 ⟨rfl, hc3, hg3⟩; rw [show dlList.getD (belowX zs len ci ch ((5 : Nat) : Int)).toNat ⟨#[]⟩ = x from HXX.out.symm])
      go_roundw
      case rel =>
        refine ⟨k + 1, _, _, acc ++ x.data.toList, by omega, by go_num, rfl, by rw [List.length_append]; simp; omega, hc3, (HB.out.alloc HB.out.size _).grown hg3 (by have := HB.out.size; simp; omega) (fun k e => by cases e; exact hpW), ?_⟩
        rw [HX.out, show n - k = (n - (k + 1)) + 1 by omega, dl_pick, ← HXX.out]
        rfl
      case measure => simp [intOf]; omega
    · obtain rfl : k = n := by omega
      go_wp2
      go_ret
      have e : dlText zs len = acc := by rw [HX.out, Nat.sub_self]; rfl
      exact ⟨ret_str (by rw [e]), by rw [e]; omega, HB.out⟩
end Go.Proofs.Ytlkmpmlcjiiboaa
