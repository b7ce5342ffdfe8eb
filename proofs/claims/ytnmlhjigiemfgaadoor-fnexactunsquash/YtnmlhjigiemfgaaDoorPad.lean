/- Contracts of impl.padZeros and impl.PadText: a numeral with noughts ahead. -/
import Derived.Test.YtnmlhjigiemfgaaDoorImplDec
import Derived.Test.YtnmlhjigiemfgaaDoorPadV
namespace Go.Proofs.YtnmlhjigiemfgaaDoor
open Go.RowKit

theorem repeat_nought (c : Nat) : Lib.repeatL [48] c = List.replicate c 48 := by
  induction c with
  | zero => rfl
  | succ c ih => rw [List.replicate_succ, ← ih]; rfl

theorem repeatZ (x : Int) (c : Nat) (w : World) (hx : x = c) (hc : c ≤ 100) :
    Calls Tryd.prog 43 #[.string ⟨#[48]⟩, .int .i64 x] w fun e w' => e = .returned (.string (strOf (List.replicate c 48))) ∧ Below w.heap.size w w' := by
  subst hx
  refine (Tryd.strings_Repeat (⟨#[48]⟩ : ByteArray) c w (by omega) (by rw [show (⟨#[48]⟩ : ByteArray).size = 1 from rfl]; omega)).mono ?_
  rintro e w' ⟨rfl, hb⟩
  exact ⟨ret_str (by rw [← repeat_nought]; rfl), hb⟩

theorem implPadZeros (l : List UInt8) (d : Nat) (w : World) (hl : l.length ≤ 100) (hd : d ≤ 100) :
    Calls Tryd.prog 41 #[.string (strOf l), .int .i64 d] w fun e w' => e = .returned (.string (strOf (padL l d))) ∧ Below w.heap.size w w' := by
  have hsz : (strOf l).size = l.length := strOf_size l
  by_cases h : d ≤ l.length
  · rw [padL_long l d h]
    go_enter Tryd.func41, Tryd.ntmps41
    go_wp2
    go_ret
    exact ⟨rfl, Below.refl _ _⟩
  · have hadd := run_add (List.replicate (d - l.length) 48) l (by simp; omega)
    go_enter Tryd.func41, Tryd.ntmps41
    go_wp2_with (go_at_call 43; refine (repeatZ _ (d - l.length) _ (by omega) (by omega)).mono ?_; rintro e w' ⟨rfl, hb⟩)
    go_ret
    exact ⟨rfl, hb⟩

theorem implPadText (n d : Int) (w : World) (h1 : -9223372036854775808 ≤ n) (h2 : n ≤ 9223372036854775807) (hT : Tabs w) :
    Calls Tryd.prog 34 #[.int .i64 n, .int .i64 d] w fun e w' => e = .returned (.string (strOf (padV n d))) ∧ Below w.heap.size w w' := by
  by_cases hn : n < 0
  · rw [show padV n d = [] by unfold padV; rw [if_pos (Or.inl hn)]]
    go_enter Tryd.func34, Tryd.ntmps34
    go_wp2
    go_ret
    exact ⟨rfl, Below.refl _ _⟩
  · by_cases hd1 : d < 1
    · rw [show padV n d = [] by unfold padV; rw [if_pos (Or.inr (by omega))]]
      go_enter Tryd.func34, Tryd.ntmps34
      go_wp2
      go_ret
      exact ⟨rfl, Below.refl _ _⟩
    · by_cases hd2 : 12 < d
      · rw [show padV n d = [] by unfold padV; rw [if_pos (Or.inr (by omega))]]
        go_enter Tryd.func34, Tryd.ntmps34
        go_wp2
        go_ret
        exact ⟨rfl, Below.refl _ _⟩
      · obtain ⟨c, rfl⟩ : ∃ c : Nat, d = c := ⟨d.toNat, by omega⟩
        rw [show padV n c = padL (Lib.itoa n) c by unfold padV; rw [if_neg (by omega)]; rfl]
        have hlen := itoa_len n h1 h2
        go_enter Tryd.func34, Tryd.ntmps34
        go_wp2_with (first | (go_at_call 42; refine (implDecText _ _ h1 h2 hT).mono ?_; rintro e w1 ⟨rfl, hb⟩) | (go_at_call 41; refine (implPadZeros _ _ _ hlen (by omega)).mono ?_; rintro e w2 ⟨rfl, hb2⟩))
        go_ret
        exact ⟨rfl, hb.trans (hb2.mono hb.size)⟩

end Go.Proofs.YtnmlhjigiemfgaaDoor
