/- Proved: laws.FnOrder answers true at every code: of two drawn texts just one of the three holds, and impl.Before tells what spec.Before tells; the argument reads as before. No condition. -/
import Derived.Test.YtlkmpmlcjiiboaaBig
import Derived.Test.YtlkmpmlcjiiboaaDrawText
import Derived.Test.YtlkmpmlcjiiboaaBefore
namespace Go.Proofs.Ytlkmpmlcjiiboaa
open Go.RowKit

theorem u8_tri (a b : UInt8) : (a < b ∧ ¬ b < a ∧ a ≠ b) ∨ (b < a ∧ ¬ a < b ∧ a ≠ b) ∨ a = b := by
  have e : a = b ↔ a.toNat = b.toNat := UInt8.toNat_inj.symm
  rw [UInt8.lt_iff_toNat_lt, UInt8.lt_iff_toNat_lt, ne_eq, e]
  omega
theorem less_tri : ∀ a b : List UInt8,
    (Op.bytesLess a b = true ∧ Op.bytesLess b a = false ∧ (a == b) = false) ∨ (Op.bytesLess a b = false ∧ Op.bytesLess b a = true ∧ (a == b) = false) ∨ (Op.bytesLess a b = false ∧ Op.bytesLess b a = false ∧ (a == b) = true)
  | [], [] => by right; right; exact ⟨rfl, rfl, rfl⟩
  | [], _ :: _ => by left; exact ⟨rfl, rfl, rfl⟩
  | _ :: _, [] => by right; left; exact ⟨rfl, rfl, rfl⟩
  | x :: a, y :: b => by
    have h := less_tri a b
    have e1 : Op.bytesLess (x :: a) (y :: b) = (decide (x < y) || (x == y && Op.bytesLess a b)) := rfl
    have e2 : Op.bytesLess (y :: b) (x :: a) = (decide (y < x) || (y == x && Op.bytesLess b a)) := rfl
    have e3 : ((x :: a) == (y :: b)) = (x == y && a == b) := rfl
    rw [e1, e2, e3]
    rcases u8_tri x y with ⟨h1, h2, h3⟩ | ⟨h1, h2, h3⟩ | rfl
    · left
      have h4 : (x == y) = false := by simpa using h3
      have h5 : (y == x) = false := by simpa using fun e => h3 e.symm
      simp [h1, h2, h4, h5]
    · right; left
      have h4 : (x == y) = false := by simpa using h3
      have h5 : (y == x) = false := by simpa using fun e => h3 e.symm
      simp [h1, h2, h4, h5]
    · have h1 : decide (x < x) = false := by simp
      simp only [h1, beq_self_eq_true, Bool.true_and, Bool.false_or]
      exact h

set_option maxRecDepth 100000 in
set_option maxHeartbeats 1000000 in
theorem specDrawBefore (w0 W : World) (a : Option Addr) (len cap : Nat) (zs : List Int) (hr : IsRow .u8 w0 a len cap zs) (hb : Below w0.heap.size w0 W) (hlen : len ≤ 1048576) :
    Calls Try.prog 17 #[.slice a len cap] W fun e W' => (∃ la lb : List UInt8, la.length ≤ 3 ∧ lb.length ≤ 4 ∧ e = .returned (.tuple #[.string (strOf la), .string (strOf lb)])) ∧ Below W.heap.size W W' := by
  obtain ⟨p, hp⟩ : ∃ p, p = W.heap.size := ⟨_, rfl⟩
  have hpW : W.heap.size ≤ p := by omega
  have HP := Lib.hid hp
  clear hp
  go_enter Try.func17, Try.ntmps17
  go_wp2_with fail
  refine (specNew w0 _ a len cap zs hr hb hlen).mono ?_
  rintro e W1 ⟨rfl, hc1, hb1⟩
  rw [← HP.out] at hc1 ⊢
  go_wp2_with fail
  refine (specBelow w0 _ p a len cap _ _ 4 zs hr hc1 hlen).mono ?_
  rintro e W2 ⟨rfl, hc2, hg2⟩
  have hbd := belowX_bd zs len 0 (newH zs len) 4 (by omega)
  obtain ⟨n, hn⟩ : ∃ n : Nat, belowX zs len 0 (newH zs len) 4 = n := ⟨(belowX zs len 0 (newH zs len) 4).toNat, by omega⟩
  rw [hn] at hbd ⊢
  clear hn
  have hb2 : Below W.heap.size W W2 := hb1.grown hg2 hb1.size (fun k e => by cases e; exact hpW)
  go_wp2_with fail
  refine (specText w0 _ p a len cap _ _ zs hr hc2 hlen n (by omega)).mono ?_
  rintro e W3 ⟨⟨la, hla, rfl⟩, ⟨i3, h3, hc3⟩, hg3⟩
  have hb3 : Below W.heap.size W W3 := hb2.grown hg3 hb2.size (fun k e => by cases e; exact hpW)
  go_wp2_with fail
  refine (specOnce w0 _ p a len cap _ _ 3 zs hr hc3 hlen).mono ?_
  rintro e W4 ⟨rfl, hc4, hg4⟩
  have hb4 : Below W.heap.size W W4 := hb3.grown hg4 hb3.size (fun k e => by cases e; exact hpW)
  obtain ⟨i4, hi4⟩ : ∃ x, belowI len i3 3 = x := ⟨_, rfl⟩
  obtain ⟨h4, hh4⟩ : ∃ x, belowH h3 3 = x := ⟨_, rfl⟩
  rw [hi4, hh4] at hc4
  obtain ⟨q, hq⟩ : ∃ q, (belowX zs len i3 h3 3 == 0) = q := ⟨_, rfl⟩
  rw [hq]
  clear hq hi4 hh4 hbd
  cases q with
  | true =>
    have HCE := Lib.hid (cells_lit W4 #[.string ⟨#[]⟩, .string ⟨#[97]⟩, .string ⟨#[46]⟩] 9 [⟨#[]⟩, ⟨#[97]⟩, ⟨#[46]⟩] rfl)
    go_wp2_with fail
    refine (specPick w0 _ p a len cap _ _ zs hr (hc4.alloc _) hlen W4.heap.size 3 [⟨#[]⟩, ⟨#[97]⟩, ⟨#[46]⟩] rfl (by omega) (by omega) HCE.out (by have := hc4.lt; omega)).mono ?_
    rintro e W5 ⟨rfl, hc5, hg5⟩
    have hb5 : Below W.heap.size W W5 := (hb4.alloc hb4.size _).grown hg5 (by have := hb4.size; simp; omega) (fun k e => by cases e; exact hpW)
    obtain ⟨x, hx⟩ : ∃ x : ByteArray, ([⟨#[]⟩, ⟨#[97]⟩, ⟨#[46]⟩] : List ByteArray).getD (belowX zs len i4 h4 ((3 : Nat) : Int)).toNat ⟨#[]⟩ = x := ⟨_, rfl⟩
    have hxs : x.size ≤ 1 := by rw [← hx]; exact pick_len _ 1 (by decide) _
    rw [hx]
    clear hx
    have hxe : x = strOf x.data.toList := by unfold strOf; simp
    have hadd := run_add la x.data.toList (by simp; omega)
    rw [← hxe] at hadd
    clear hxe
    go_wp2
    go_ret2
    exact ⟨⟨la, la ++ x.data.toList, hla, by rw [List.length_append]; simp; omega, rfl⟩, hb5⟩
  | false =>
    go_wp2_with fail
    refine (specBelow w0 _ p a len cap _ _ 4 zs hr hc4 hlen).mono ?_
    rintro e W5 ⟨rfl, hc5, hg5⟩
    have hbd := belowX_bd zs len i4 h4 4 (by omega)
    obtain ⟨m, hm⟩ : ∃ m : Nat, belowX zs len i4 h4 4 = m := ⟨(belowX zs len i4 h4 4).toNat, by omega⟩
    rw [hm] at hbd ⊢
    clear hm
    have hb5 : Below W.heap.size W W5 := hb4.grown hg5 hb4.size (fun k e => by cases e; exact hpW)
    go_wp2_with fail
    refine (specText w0 _ p a len cap _ _ zs hr hc5 hlen m (by omega)).mono ?_
    rintro e W6 ⟨⟨lb, hlb, rfl⟩, _, hg6⟩
    have hb6 : Below W.heap.size W W6 := hb5.grown hg6 hb5.size (fun k e => by cases e; exact hpW)
    go_wp2
    go_ret2
    exact ⟨⟨la, lb, hla, by omega, rfl⟩, hb6⟩

set_option maxRecDepth 100000 in
set_option maxHeartbeats 2000000 in
theorem walkFnOrder (a : Option Addr) (len cap : Nat) (zs : List Int) (w : World) (hr : IsRow .u8 w a len cap zs) :
    Calls Try.prog 4 #[.slice a len cap] w fun e w' => e = .returned (.bool true) ∧ Below w.heap.size w w' := by
  by_cases hlen : len ≤ 1048576
  · go_enter Try.func4, Try.ntmps4
    go_wp2_with fail
    refine (bigF _ _ _ _ hlen).mono ?_
    rintro e w' ⟨rfl, rfl⟩
    go_wp2_with fail
    refine (specDrawBefore w _ a len cap zs hr (Below.refl _ _) hlen).mono ?_
    rintro e W1 ⟨⟨la, lb, hla, hlb, rfl⟩, hb1⟩
    have ht := less_tri (strOf la).toList (strOf lb).toList
    have hsa : (strOf la).size ≤ maxLen := by rw [strOf_size]; unfold maxLen; omega
    have hsb : (strOf lb).size ≤ maxLen := by rw [strOf_size]; unfold maxLen; omega
    rcases ht with ⟨h1, h2, h3⟩ | ⟨h1, h2, h3⟩ | ⟨h1, h2, h3⟩
    all_goals
      go_wp2_with (first | (go_at_call 19; refine (specBefore _ _ _ hsa hsb).mono ?_; rintro e w' ⟨rfl, n, rfl⟩) | (go_at_call 18; refine (implBefore _ _ _).mono ?_; rintro e w' ⟨rfl, rfl⟩))
      go_ret
      exact ⟨rfl, by repeat (first | exact hb1 | apply below_drewN)⟩
  · go_enter Try.func4, Try.ntmps4
    go_wp2_with (go_at_call 10; refine (bigT _ _ _ _ hlen).mono ?_; rintro e w' ⟨rfl, rfl⟩)
    go_ret
    exact ⟨rfl, Below.refl _ _⟩
end Go.Proofs.Ytlkmpmlcjiiboaa
