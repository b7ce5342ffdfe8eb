/- Contracts of spec.PadText, impl.padZeros and impl.PadText: a numeral with noughts ahead. -/
import Derived.Test.YtbikcldkaogfmaaDoorImplDec
import Derived.Test.YtbikcldkaogfmaaDoorShelf2
namespace Go.Proofs.YtbikcldkaogfmaaDoor
open Go.RowKit

/-- A text with noughts ahead till it has so many bytes. -/
def padL (l : List UInt8) (d : Nat) : List UInt8 := List.replicate (d - l.length) 48 ++ l
def padV (n d : Int) : List UInt8 := if n < 0 ∨ ¬ (1 ≤ d ∧ d ≤ 12) then [] else padL (Lib.itoa n) d.toNat

theorem padL_long (l : List UInt8) (d : Nat) (h : d ≤ l.length) : padL l d = l := by unfold padL; rw [show d - l.length = 0 by omega]; rfl
theorem padL_step (l : List UInt8) (d : Nat) (h : l.length < d) : padL (48 :: l) d = padL l d := by
  unfold padL
  rw [show d - l.length = (d - (48 :: l).length) + 1 by simp; omega, List.replicate_succ']
  simp
theorem repeat_nought (c : Nat) : Lib.repeatL [48] c = List.replicate c 48 := by
  induction c with
  | zero => rfl
  | succ c ih => rw [List.replicate_succ, ← ih]; rfl

theorem repeatZ (x : Int) (c : Nat) (w : World) (hx : x = c) (hc : c ≤ 100) :
    Calls Tryd.prog 79 #[.string ⟨#[48]⟩, .int .i64 x] w fun e w' => e = .returned (.string (strOf (List.replicate c 48))) ∧ Below w.heap.size w w' := by
  subst hx
  refine (Tryd.strings_Repeat (⟨#[48]⟩ : ByteArray) c w (by omega) (by rw [show (⟨#[48]⟩ : ByteArray).size = 1 from rfl]; omega)).mono ?_
  rintro e w' ⟨rfl, hb⟩
  exact ⟨ret_str (by rw [← repeat_nought]; rfl), hb⟩

theorem implPadZeros (l : List UInt8) (d : Nat) (w : World) (hl : l.length ≤ 100) (hd : d ≤ 100) :
    Calls Tryd.prog 72 #[.string (strOf l), .int .i64 d] w fun e w' => e = .returned (.string (strOf (padL l d))) ∧ Below w.heap.size w w' := by
  have hsz : (strOf l).size = l.length := strOf_size l
  by_cases h : d ≤ l.length
  · rw [padL_long l d h]
    go_enter Tryd.func72, Tryd.ntmps72
    go_wp2
    go_ret
    exact ⟨rfl, Below.refl _ _⟩
  · have hadd := run_add (List.replicate (d - l.length) 48) l (by simp; omega)
    go_enter Tryd.func72, Tryd.ntmps72
    go_wp2_with (go_at_call 79; refine (repeatZ _ (d - l.length) _ (by omega) (by omega)).mono ?_; rintro e w' ⟨rfl, hb⟩)
    go_ret
    exact ⟨rfl, hb⟩

theorem itoa_len (n : Int) (h1 : -9223372036854775808 ≤ n) (h2 : n ≤ 9223372036854775807) : (Lib.itoa n).length ≤ 100 :=
  Nat.le_trans (Lib.itoa_length_le n h1 h2) (by decide)

theorem implPadText (n d : Int) (w : World) (h1 : -9223372036854775808 ≤ n) (h2 : n ≤ 9223372036854775807) (hT : Tabs w) :
    Calls Tryd.prog 43 #[.int .i64 n, .int .i64 d] w fun e w' => e = .returned (.string (strOf (padV n d))) ∧ Below w.heap.size w w' := by
  by_cases hn : n < 0
  · rw [show padV n d = [] by unfold padV; rw [if_pos (Or.inl hn)]]
    go_enter Tryd.func43, Tryd.ntmps43
    go_wp2
    go_ret
    exact ⟨rfl, Below.refl _ _⟩
  · by_cases hd1 : d < 1
    · rw [show padV n d = [] by unfold padV; rw [if_pos (Or.inr (by omega))]]
      go_enter Tryd.func43, Tryd.ntmps43
      go_wp2
      go_ret
      exact ⟨rfl, Below.refl _ _⟩
    · by_cases hd2 : 12 < d
      · rw [show padV n d = [] by unfold padV; rw [if_pos (Or.inr (by omega))]]
        go_enter Tryd.func43, Tryd.ntmps43
        go_wp2
        go_ret
        exact ⟨rfl, Below.refl _ _⟩
      · obtain ⟨c, rfl⟩ : ∃ c : Nat, d = c := ⟨d.toNat, by omega⟩
        rw [show padV n c = padL (Lib.itoa n) c by unfold padV; rw [if_neg (by omega)]; rfl]
        have hlen := itoa_len n h1 h2
        go_enter Tryd.func43, Tryd.ntmps43
        go_wp2_with (first | (go_at_call 46; refine (implDecText _ _ h1 h2 hT).mono ?_; rintro e w1 ⟨rfl, hb⟩) | (go_at_call 72; refine (implPadZeros _ _ _ hlen (by omega)).mono ?_; rintro e w2 ⟨rfl, hb2⟩))
        go_ret
        exact ⟨rfl, hb.trans (hb2.mono hb.size)⟩

set_option maxHeartbeats 400000 in
theorem specPadText (n d : Int) (w : World) (h1 : -9223372036854775808 ≤ n) (h2 : n ≤ 9223372036854775807) :
    Calls Tryd.prog 62 #[.int .i64 n, .int .i64 d] w fun e w' => e = .returned (.string (strOf (padV n d))) ∧ w = w' := by
  by_cases hn : n < 0
  · rw [show padV n d = [] by unfold padV; rw [if_pos (Or.inl hn)]]
    go_enter Tryd.func62, Tryd.ntmps62
    go_wp2
    go_ret
    exact ⟨rfl, rfl⟩
  · by_cases hd : 1 ≤ d ∧ d ≤ 12
    · obtain ⟨c, rfl⟩ : ∃ c : Nat, d = c := ⟨d.toNat, by omega⟩
      rw [show padV n c = padL (Lib.itoa n) c by unfold padV; rw [if_neg (by omega)]; rfl]
      have hlen := itoa_len n h1 h2
      have hin : inB (c : Int) 1 12 = true := inB_t hd.1 hd.2
      go_enter Tryd.func62, Tryd.ntmps62
      go_wp2_with (first | (go_at_call 65; refine (specIn _ _ _ _).mono ?_; rintro e w' ⟨rfl, rfl⟩) | (go_at_call 20; refine (specDecText _ _ h1 h2).mono ?_; rintro e w' ⟨rfl, rfl⟩))
      go_loop [5] (fun out => ∃ l : List UInt8, l.length ≤ 100 ∧ out = .string (strOf l) ∧ padL l c = padL (Lib.itoa n) c) (fun out => c - (match out with | .string s => s.size | _ => 0))
      case atStart => exact ⟨_, hlen, rfl, rfl⟩
      case round =>
        obtain ⟨l, hl, rfl, hp⟩ := hrel
        have HP := Lib.hid hp
        clear hp
        have hsz : (strOf l).size = l.length := strOf_size l
        by_cases h : l.length < c
        · have hadd := run_add [48] l (by simp; omega)
          rw [show strOf [48] = (⟨#[48]⟩ : ByteArray) from rfl] at hadd
          go_wp2
          go_round
          case rel => exact ⟨48 :: l, by simp; omega, rfl, by rw [← HP.out, padL_step l c h]⟩
          case measure => simp [strOf_size]; omega
        · go_wp2
          go_ret
          exact ⟨ret_str (by rw [← HP.out, padL_long l c (by omega)]), rfl⟩
    · rw [show padV n d = [] by unfold padV; rw [if_pos (Or.inr hd)]]
      have hin : inB d 1 12 = false := inB_f hd
      clear hd
      go_enter Tryd.func62, Tryd.ntmps62
      go_wp2_with (first | (go_at_call 65; refine (specIn _ _ _ _).mono ?_; rintro e w' ⟨rfl, rfl⟩))
      go_ret
      exact ⟨rfl, rfl⟩
end Go.Proofs.YtbikcldkaogfmaaDoor
