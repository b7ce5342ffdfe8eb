/- Contracts of the spec's helpers on numbers and digits: l01In, l01Digit, l01Num, DecText. -/
import Derived.Test.YtbikcldkaogfmaaDoorBase
import Derived.Test.YtbikcldkaogfmaaDoorNum
namespace Go.Proofs.YtbikcldkaogfmaaDoor
open Go.RowKit

def inB (x a b : Int) : Bool := decide (a ≤ x) && decide (x ≤ b)
theorem inB_t {x a b : Int} (h1 : a ≤ x) (h2 : x ≤ b) : inB x a b = true := by simp [inB, h1, h2]
theorem inB_f {x a b : Int} (h : ¬ (a ≤ x ∧ x ≤ b)) : inB x a b = false := by
  simp only [inB, Bool.and_eq_false_iff, decide_eq_false_iff_not]; omega

theorem specIn (x a b : Int) (w : World) :
    Calls Tryd.prog 65 #[.int .i64 x, .int .i64 a, .int .i64 b] w fun e w' => e = .returned (.bool (inB x a b)) ∧ w = w' := by
  by_cases h1 : a ≤ x
  · by_cases h2 : x ≤ b
    · rw [inB_t h1 h2]
      go_enter Tryd.func65, Tryd.ntmps65
      go_wp2
      go_ret
      exact ⟨rfl, rfl⟩
    · rw [inB_f (by omega)]
      go_enter Tryd.func65, Tryd.ntmps65
      go_wp2
      go_ret
      exact ⟨rfl, rfl⟩
  · rw [inB_f (by omega)]
    go_enter Tryd.func65, Tryd.ntmps65
    go_wp2
    go_ret
    exact ⟨rfl, rfl⟩

theorem specDigit (c : UInt8) (w : World) :
    Calls Tryd.prog 64 #[.int .u8 c.toNat] w fun e w' => e = .returned (.bool (isDig c)) ∧ w = w' := by
  have hb := c.toNat_lt
  go_enter Tryd.func64, Tryd.ntmps64
  go_wp2_with (go_at_call 65; refine (specIn _ _ _ _).mono ?_; rintro e w' ⟨rfl, rfl⟩)
  go_ret
  exact ⟨ret_bool (by unfold inB isDig; congr 1 <;> exact decide_eq_decide.2 (by omega)), rfl⟩

theorem dnum_lt17 (l : List UInt8) (h : l.length ≤ 17) (hd : allDig l = true) : dnum l < 100000000000000000 :=
  Nat.lt_of_lt_of_le (dnum_lt _ l rfl hd) (by
    have := Nat.pow_le_pow_right (n := 10) (by decide) h
    exact Nat.le_trans this (by decide))
theorem dnum_lt18 (l : List UInt8) (h : l.length ≤ 18) (hd : allDig l = true) : dnum l < 1000000000000000000 :=
  Nat.lt_of_lt_of_le (dnum_lt _ l rfl hd) (by
    have := Nat.pow_le_pow_right (n := 10) (by decide) h
    exact Nat.le_trans this (by decide))

/-- The number of a text of 1 to most digits; -1 of another one. -/
def numOf (s : ByteArray) (most : Int) : Int :=
  if inB s.size 1 most && allDig s.data.toList then (dnum s.data.toList : Int) else -1

theorem take_snoc (s : ByteArray) (k : Nat) (h : k < s.size) : s.data.toList.take (k + 1) = s.data.toList.take k ++ [s[k]] := by
  rw [List.take_succ_eq_append_getElem (by simpa using h)]; rfl

theorem take_all (s : ByteArray) (k : Nat) (h : s.size ≤ k) : s.data.toList.take k = s.data.toList := List.take_of_length_le (by simpa using h)

theorem allDig_take {l : List UInt8} (k : Nat) (h : allDig (l.take k) = false) : allDig l = false := by
  rw [← List.take_append_drop k l]
  unfold allDig at *
  rw [List.all_append, h]; rfl

set_option maxHeartbeats 400000 in
theorem specNum (s : ByteArray) (most : Int) (w : World) (hm : most ≤ 18) :
    Calls Tryd.prog 36 #[.string s, .int .i64 most] w fun e w' => e = .returned (.int .i64 (numOf s most)) ∧ w = w' := by
  by_cases hin : inB s.size 1 most = true
  · have hs : s.size ≤ 18 := by
      have := hin
      simp [inB] at this; omega
    go_enter Tryd.func36, Tryd.ntmps36
    go_wp2_with (go_at_call 65; refine (specIn _ _ _ _).mono ?_; rintro e w' ⟨rfl, rfl⟩)
    go_loop [5, 6] (fun n i => ∃ k : Nat, k ≤ s.size ∧ i = .int .i64 k ∧ allDig (s.data.toList.take k) = true ∧ n = .int .i64 (dnum (s.data.toList.take k))) (fun _ i => s.size - (intOf i).toNat)
    case atStart => exact ⟨0, Nat.zero_le _, rfl, rfl, rfl⟩
    case round =>
      obtain ⟨k, hk, rfl, hd, rfl⟩ := hrel
      by_cases h1 : k < s.size
      · have hlt := dnum_lt17 (s.data.toList.take k) (by simp; omega) hd
        have hsn := take_snoc s k h1
        have HA := Lib.hid (allDig_snoc (s.data.toList.take k) s[k])
        have HN := Lib.hid (dnum_snoc (s.data.toList.take k) s[k])
        rw [← hsn] at HA HN
        have HD := Lib.hid hd
        clear hd hsn
        by_cases h2 : isDig s[k] = true
        · have hb := (isDig_iff _).1 h2
          have HB := Lib.hid hb
          have hb1 : 48 ≤ (s[k].toNat : Int) := by omega
          have hb2 : (s[k].toNat : Int) ≤ 57 := by omega
          clear hb
          go_wp2_with (go_at_call 64; refine (specDigit _ _).mono ?_; rintro e w' ⟨rfl, rfl⟩)
          go_round
          case rel => exact ⟨k + 1, by omega, by go_num, by rw [HA.out, HD.out, h2]; rfl, by rw [HN.out]; go_num⟩
          case measure => simp [intOf]; omega
        · have h3 : isDig s[k] = false := by simpa using h2
          have hall : allDig s.data.toList = false := allDig_take (k + 1) (by rw [HA.out, h3]; simp)
          have HL := Lib.hid hall
          clear hall
          go_wp2_with (go_at_call 64; refine (specDigit _ _).mono ?_; rintro e w' ⟨rfl, rfl⟩)
          go_ret
          exact ⟨ret_int (by unfold numOf; rw [HL.out]; simp), rfl⟩
      · have ht := take_all s k (by omega)
        have HT := Lib.hid ht
        have HD := Lib.hid hd
        clear ht hd
        go_wp2
        go_ret
        have hd := HD.out
        rw [HT.out] at hd
        exact ⟨ret_int (by unfold numOf; rw [HT.out, hin, hd]; simp), rfl⟩
  · have hf : inB s.size 1 most = false := by simpa using hin
    go_enter Tryd.func36, Tryd.ntmps36
    go_wp2_with (go_at_call 65; refine (specIn _ _ _ _).mono ?_; rintro e w' ⟨rfl, rfl⟩)
    go_ret
    exact ⟨ret_int (by unfold numOf; rw [hf]; simp), rfl⟩
end Go.Proofs.YtbikcldkaogfmaaDoor
