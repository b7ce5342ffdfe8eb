/- The contract of spec.DecText: the decimal numeral of every int. -/
import Derived.Test.YtnmlhjigiemfgaaDoorText1
namespace Go.Proofs.YtnmlhjigiemfgaaDoor
open Go.RowKit

def strOf (l : List UInt8) : ByteArray := ⟨l.toArray⟩
theorem strOf_size (l : List UInt8) : (strOf l).size = l.length := by simp [strOf, ByteArray.size]
theorem strOf_data (l : List UInt8) : (strOf l).data.toList = l := by simp [strOf]

def digB (d : Nat) : UInt8 := UInt8.ofNat (48 + d)

/-- What the digits ahead of those that are told are. -/
def headDigits (u : Nat) : List UInt8 := if u = 0 then [] else Lib.decDigits u

theorem headDigits_step (u : Nat) (h : u ≠ 0) : headDigits u = headDigits (u / 10) ++ [digB (u % 10)] := by
  unfold headDigits digB
  rw [if_neg h]
  by_cases h10 : u < 10
  · rw [if_pos (by omega), Lib.decDigits, dif_pos h10, Nat.mod_eq_of_lt h10]; rfl
  · rw [if_neg (by omega), Lib.decDigits, dif_neg h10]

theorem strOf_append (a b : List UInt8) : strOf a ++ strOf b = strOf (a ++ b) := by
  apply ByteArray.ext
  simp [strOf]

theorem run_add (a b : List UInt8) (h : a.length + b.length ≤ 9223372036854775807) (w : World) :
    (Op.stringOp .add (strOf a) (strOf b)).run Tryd.prog w = .ok (.string (strOf (a ++ b))) w := by
  rw [run_string_add_sum w _ _ (by rw [strOf_size, strOf_size]; exact h), strOf_append]

def dtab : ByteArray := ⟨#[48, 49, 50, 51, 52, 53, 54, 55, 56, 57]⟩
theorem dtab_cut (d : Nat) (h : d < 10) : dtab.extract d (d + 1) = strOf [digB d] := by
  match d, h with
  | 0, _ => rfl
  | 1, _ => rfl
  | 2, _ => rfl
  | 3, _ => rfl
  | 4, _ => rfl
  | 5, _ => rfl
  | 6, _ => rfl
  | 7, _ => rfl
  | 8, _ => rfl
  | 9, _ => rfl

theorem run_dig (d : Nat) (h : d < 10) (x : Int) (hx : x = d) (w : World) :
    (Instr.slice 9 (.string ⟨#[48, 49, 50, 51, 52, 53, 54, 55, 56, 57]⟩) (some (.int .i64 x)) (some (.int .i64 (x + 1))) none).run Tryd.prog w = .ok (.string (strOf [digB d])) w := by
  subst hx
  rw [run_slice_string w 9 _ .i64 .i64 _ _ Tryd.underlying9 (by omega) (by omega) (by simp [ByteArray.size]; omega)]
  have e := dtab_cut d h
  unfold dtab at e
  rw [show (d : Int).toNat = d by omega, show ((d : Int) + 1).toNat = d + 1 by omega, e]

set_option maxHeartbeats 400000 in
theorem specDecText_pos (n : Nat) (w : World) (h0 : 1 ≤ n) (hn : n ≤ 9223372036854775807) :
    Calls Tryd.prog 40 #[.int .i64 n] w fun e w' => e = .returned (.string (strOf (Lib.decDigits n))) ∧ w = w' := by
  have hl : (Lib.decDigits n).length ≤ 20 := by rw [Lib.decDigits_length]; exact Lib.nDigits_le20 n (by omega)
  go_enter Tryd.func40, Tryd.ntmps40
  go_wp2
  go_loop [3, 4, 5] (fun out m _ => ∃ (u : Nat) (o : List UInt8), u ≤ n ∧ m = .int .i64 u ∧ out = .string (strOf o) ∧ Lib.decDigits n = headDigits u ++ o) (fun _ m _ => (intOf m).toNat)
  case atStart => exact ⟨n, [], Nat.le_refl _, rfl, rfl, by simp [headDigits]; omega⟩
  case round =>
    obtain ⟨u, o, hu, rfl, rfl, ho⟩ := hrel
    have hlo : o.length ≤ 20 := by have := congrArg List.length ho; simp at this; omega
    have HO := Lib.hid ho
    clear ho
    by_cases hz : u = 0
    · subst hz
      go_wp2
      go_ret
      exact ⟨ret_str (by rw [HO.out]; simp [headDigits]), rfl⟩
    · have hz1 : 1 ≤ (u : Int) := by omega
      have hsl := run_dig (u % 10) (by omega) ((u : Int) % 10) (by omega)
      have hadd := run_add [digB (u % 10)] o (by simp; omega)
      go_wp2
      go_round
      case rel => exact ⟨u / 10, _, by omega, by go_num, rfl, by rw [HO.out, headDigits_step u hz]; simp⟩
      case measure => simp [intOf]; omega

theorem neg_tmod (u : Nat) : (-(u : Int)).tmod 10 = -((u % 10 : Nat) : Int) := by rw [Int.neg_tmod]; rfl
theorem neg_tdiv (u : Nat) : (-(u : Int)).tdiv 10 = -((u / 10 : Nat) : Int) := by rw [Int.neg_tdiv]; rfl

set_option maxHeartbeats 400000 in
theorem specDecText_neg (n : Nat) (w : World) (h0 : 1 ≤ n) (hn : n ≤ 9223372036854775808) :
    Calls Tryd.prog 40 #[.int .i64 (-(n : Int))] w fun e w' => e = .returned (.string (strOf (45 :: Lib.decDigits n))) ∧ w = w' := by
  have hl : (Lib.decDigits n).length ≤ 20 := by rw [Lib.decDigits_length]; exact Lib.nDigits_le20 n (by omega)
  have hne : (-(n : Int) == 0) = false := by simp; omega
  go_enter Tryd.func40, Tryd.ntmps40
  go_wp2
  go_loop [3, 4, 5] (fun out m _ => ∃ (m' : Int) (o : List UInt8), -(n : Int) ≤ m' ∧ m' ≤ 0 ∧ m = .int .i64 m' ∧ out = .string (strOf o) ∧ Lib.decDigits n = headDigits m'.natAbs ++ o) (fun _ m _ => (intOf m).natAbs)
  case atStart => exact ⟨-(n : Int), [], by omega, by omega, rfl, rfl, by simp [headDigits]; omega⟩
  case round =>
    obtain ⟨m', o, hm1, hm2, rfl, rfl, ho⟩ := hrel
    have hlo : o.length ≤ 20 := by have := congrArg List.length ho; simp at this; omega
    have HO := Lib.hid ho
    clear ho
    by_cases hz : m' = 0
    · subst hz
      have haddm := run_add [45] o (by simp; omega)
      have em : strOf [45] = (⟨#[45]⟩ : ByteArray) := rfl
      rw [em] at haddm
      clear em
      go_wp2
      go_ret
      exact ⟨ret_str (by rw [HO.out]; simp [headDigits]), rfl⟩
    · have hz1 : m' ≤ -1 := by omega
      have hadd := run_add [digB (m'.natAbs % 10)] o (by simp; omega)
      obtain ⟨u, hu⟩ : ∃ u : Nat, m' = -(u : Int) := ⟨m'.natAbs, by omega⟩
      have HM := Lib.hid (show m'.tmod 10 = -((m'.natAbs % 10 : Nat) : Int) by rw [hu, neg_tmod]; simp)
      have HQ := Lib.hid (show m'.tdiv 10 = -((m'.natAbs / 10 : Nat) : Int) by rw [hu, neg_tdiv]; simp)
      clear hu
      have hq1 : -1000000000000000000 ≤ m'.tdiv 10 := by rw [HQ.out]; omega
      have hq2 : m'.tdiv 10 ≤ 0 := by rw [HQ.out]; omega
      by_cases hd : m'.tmod 10 < 0
      · have hd9 : -9 ≤ m'.tmod 10 := by rw [HM.out]; omega
        have hsl := run_dig (m'.natAbs % 10) (by omega) (-m'.tmod 10) (by rw [HM.out]; omega)
        go_wp2
        go_round
        case rel => exact ⟨m'.tdiv 10, _, by have := HQ.out; omega, by omega, by go_num, rfl, by rw [HO.out, headDigits_step m'.natAbs (by omega), show (m'.tdiv 10).natAbs = m'.natAbs / 10 by rw [HQ.out]; omega]; simp⟩
        case measure => have hq := HQ.out; have hlt : (m'.tdiv 10).natAbs < m'.natAbs := by omega
                        simpa [intOf] using hlt
      · have hd0 : m'.tmod 10 = 0 := by have := HM.out; omega
        have hsl := run_dig (m'.natAbs % 10) (by omega) 0 (by have := HM.out; omega)
        rw [show (0 : Int) + 1 = 1 from rfl] at hsl
        clear hd
        go_wp2
        go_round
        case rel => exact ⟨m'.tdiv 10, _, by have := HQ.out; omega, by omega, by go_num, rfl, by rw [HO.out, headDigits_step m'.natAbs (by omega), show (m'.tdiv 10).natAbs = m'.natAbs / 10 by rw [HQ.out]; omega]; simp⟩
        case measure => have hq := HQ.out; have hlt : (m'.tdiv 10).natAbs < m'.natAbs := by omega
                        simpa [intOf] using hlt

theorem specDecText_zero (w : World) :
    Calls Tryd.prog 40 #[.int .i64 0] w fun e w' => e = .returned (.string (strOf (Lib.itoa 0))) ∧ w = w' := by
  go_enter Tryd.func40, Tryd.ntmps40
  go_wp2
  go_ret
  exact ⟨ret_str (by rw [show Lib.itoa 0 = [48] by unfold Lib.itoa; rw [if_neg (by decide), Lib.decDigits, dif_pos (by decide)]; rfl]; rfl), rfl⟩

theorem specDecText (n : Int) (w : World) (h1 : -9223372036854775808 ≤ n) (h2 : n ≤ 9223372036854775807) :
    Calls Tryd.prog 40 #[.int .i64 n] w fun e w' => e = .returned (.string (strOf (Lib.itoa n))) ∧ w = w' := by
  by_cases h0 : n = 0
  · subst h0; exact specDecText_zero w
  · by_cases hp : 0 ≤ n
    · obtain ⟨u, rfl⟩ : ∃ u : Nat, n = u := ⟨n.toNat, by omega⟩
      rw [Lib.itoa_nonneg]
      exact specDecText_pos u w (by omega) (by omega)
    · obtain ⟨u, rfl⟩ : ∃ u : Nat, n = -(u : Int) := ⟨n.natAbs, by omega⟩
      rw [Lib.itoa_neg u (by omega)]
      exact specDecText_neg u w (by omega) (by omega)
end Go.Proofs.YtnmlhjigiemfgaaDoor
