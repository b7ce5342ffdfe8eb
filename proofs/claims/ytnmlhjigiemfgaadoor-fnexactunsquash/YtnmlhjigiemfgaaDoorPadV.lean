/- A numeral with noughts ahead; the contract of spec.PadText. -/
import Derived.Test.YtnmlhjigiemfgaaDoorDecText
import Derived.Lib.ItoaLen
namespace Go.Proofs.YtnmlhjigiemfgaaDoor
open Go.RowKit

/-- A text with noughts ahead till it has so many bytes. -/
def padL (l : List UInt8) (d : Nat) : List UInt8 := List.replicate (d - l.length) 48 ++ l
def padV (n d : Int) : List UInt8 := if n < 0 ∨ ¬ (1 ≤ d ∧ d ≤ 12) then [] else padL (Lib.itoa n) d.toNat

theorem padL_long (l : List UInt8) (d : Nat) (h : d ≤ l.length) : padL l d = l := by unfold padL; rw [show d - l.length = 0 by omega]; rfl
theorem padL_step (l : List UInt8) (d : Nat) (h : l.length < d) : padL (48 :: l) d = padL l d := by
  unfold padL
  rw [show d - l.length = (d - (48 :: l).length) + 1 by simp; omega, List.replicate_succ']
  simp
theorem itoa_len (n : Int) (h1 : -9223372036854775808 ≤ n) (h2 : n ≤ 9223372036854775807) : (Lib.itoa n).length ≤ 100 :=
  Nat.le_trans (Lib.itoa_length_le n h1 h2) (by decide)

set_option maxHeartbeats 400000 in
theorem specPadText (n d : Int) (w : World) (h1 : -9223372036854775808 ≤ n) (h2 : n ≤ 9223372036854775807) :
    Calls Tryd.prog 30 #[.int .i64 n, .int .i64 d] w fun e w' => e = .returned (.string (strOf (padV n d))) ∧ w = w' := by
  by_cases hn : n < 0
  · rw [show padV n d = [] by unfold padV; rw [if_pos (Or.inl hn)]]
    go_enter Tryd.func30, Tryd.ntmps30
    go_wp2
    go_ret
    exact ⟨rfl, rfl⟩
  · by_cases hd : 1 ≤ d ∧ d ≤ 12
    · obtain ⟨c, rfl⟩ : ∃ c : Nat, d = c := ⟨d.toNat, by omega⟩
      rw [show padV n c = padL (Lib.itoa n) c by unfold padV; rw [if_neg (by omega)]; rfl]
      have hlen := itoa_len n h1 h2
      have hin : inB (c : Int) 1 12 = true := inB_t hd.1 hd.2
      go_enter Tryd.func30, Tryd.ntmps30
      go_wp2_with (first | (go_at_call 39; refine (specIn _ _ _ _).mono ?_; rintro e w' ⟨rfl, rfl⟩) | (go_at_call 40; refine (specDecText _ _ h1 h2).mono ?_; rintro e w' ⟨rfl, rfl⟩))
      go_loop [5] (fun out => ∃ l : List UInt8, l.length ≤ 100 ∧ out = .string (strOf l) ∧ padL l c = padL (Lib.itoa n) c) (fun out => c - (match out with | .string s => s.size | _ => 0))
      case atStart => exact ⟨_, hlen, rfl, rfl⟩
      case round =>
        obtain ⟨l, hl, rfl, hp⟩ := hrel
        have HP := Lib.hid hp
        clear hp
        have hsz : (strOf l).size = l.length := strOf_size l
        by_cases h : l.length < c
        · have hadd := run_add [48] l (by simp; omega)
          rw [show strOf [48] = (⟨#[48]⟩ : ByteArray) from rfl] at hadd
          go_wp2
          go_round
          case rel => exact ⟨48 :: l, by simp; omega, rfl, by rw [← HP.out, padL_step l c h]⟩
          case measure => simp [strOf_size]; omega
        · go_wp2
          go_ret
          exact ⟨ret_str (by rw [← HP.out, padL_long l c (by omega)]), rfl⟩
    · rw [show padV n d = [] by unfold padV; rw [if_pos (Or.inr hd)]]
      have hin : inB d 1 12 = false := inB_f hd
      clear hd
      go_enter Tryd.func30, Tryd.ntmps30
      go_wp2_with (first | (go_at_call 39; refine (specIn _ _ _ _).mono ?_; rintro e w' ⟨rfl, rfl⟩))
      go_ret
      exact ⟨rfl, rfl⟩
end Go.Proofs.YtnmlhjigiemfgaaDoor
