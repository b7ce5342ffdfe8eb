/- Contracts of the spec's helpers on numbers and digits: l01In, l01Digit, l01Num, DecText. -/
import Derived.Test.YtipepbnmllbonaaDoorBase
import Derived.Test.YtipepbnmllbonaaDoorNum
namespace Go.Proofs.YtipepbnmllbonaaDoor
open Go.RowKit

def inB (x a b : Int) : Bool := decide (a ≤ x) && decide (x ≤ b)
theorem inB_t {x a b : Int} (h1 : a ≤ x) (h2 : x ≤ b) : inB x a b = true := by simp [inB, h1, h2]
theorem inB_f {x a b : Int} (h : ¬ (a ≤ x ∧ x ≤ b)) : inB x a b = false := by
  simp only [inB, Bool.and_eq_false_iff, decide_eq_false_iff_not]; omega

theorem specIn (x a b : Int) (w : World) :
    Calls Tryd.prog 17 #[.int .i64 x, .int .i64 a, .int .i64 b] w fun e w' => e = .returned (.bool (inB x a b)) ∧ w = w' := by
  by_cases h1 : a ≤ x
  · by_cases h2 : x ≤ b
    · rw [inB_t h1 h2]
      go_enter Tryd.func17, Tryd.ntmps17
      go_wp2
      go_ret
      exact ⟨rfl, rfl⟩
    · rw [inB_f (by omega)]
      go_enter Tryd.func17, Tryd.ntmps17
      go_wp2
      go_ret
      exact ⟨rfl, rfl⟩
  · rw [inB_f (by omega)]
    go_enter Tryd.func17, Tryd.ntmps17
    go_wp2
    go_ret
    exact ⟨rfl, rfl⟩

theorem dnum_lt17 (l : List UInt8) (h : l.length ≤ 17) (hd : allDig l = true) : dnum l < 100000000000000000 :=
  Nat.lt_of_lt_of_le (dnum_lt _ l rfl hd) (by
    have := Nat.pow_le_pow_right (n := 10) (by decide) h
    exact Nat.le_trans this (by decide))
theorem dnum_lt18 (l : List UInt8) (h : l.length ≤ 18) (hd : allDig l = true) : dnum l < 1000000000000000000 :=
  Nat.lt_of_lt_of_le (dnum_lt _ l rfl hd) (by
    have := Nat.pow_le_pow_right (n := 10) (by decide) h
    exact Nat.le_trans this (by decide))

/-- The number of a text of 1 to most digits; -1 of another one. -/
def numOf (s : ByteArray) (most : Int) : Int :=
  if inB s.size 1 most && allDig s.data.toList then (dnum s.data.toList : Int) else -1

theorem take_snoc (s : ByteArray) (k : Nat) (h : k < s.size) : s.data.toList.take (k + 1) = s.data.toList.take k ++ [s[k]] := by
  rw [List.take_succ_eq_append_getElem (by simpa using h)]; rfl

theorem take_all (s : ByteArray) (k : Nat) (h : s.size ≤ k) : s.data.toList.take k = s.data.toList := List.take_of_length_le (by simpa using h)

theorem allDig_take {l : List UInt8} (k : Nat) (h : allDig (l.take k) = false) : allDig l = false := by
  rw [← List.take_append_drop k l]
  unfold allDig at *
  rw [List.all_append, h]; rfl

end Go.Proofs.YtipepbnmllbonaaDoor
