/- The contract of impl.readDigits: the number of a text of digits of a base up to ten; -1 of another text. -/
import Derived.Test.YtbikcldkaogfmaaDoorText1
import Derived.Laws.RangeAny
import Derived.Laws.RangeString
namespace Go.Proofs.YtbikcldkaogfmaaDoor
open Go.RowKit

def isDigB (b : Nat) (c : UInt8) : Bool := decide (48 ≤ c.toNat) && decide (c.toNat < 48 + b)
def allDigB (b : Nat) (l : List UInt8) : Bool := l.all (isDigB b)
def dnumB (b : Nat) (l : List UInt8) : Nat := l.foldl (fun n c => b * n + (c.toNat - 48)) 0
theorem dnumB_snoc (b : Nat) (l : List UInt8) (c : UInt8) : dnumB b (l ++ [c]) = b * dnumB b l + (c.toNat - 48) := by simp [dnumB]
theorem allDigB_snoc (b : Nat) (l : List UInt8) (c : UInt8) : allDigB b (l ++ [c]) = (allDigB b l && isDigB b c) := by simp [allDigB]
theorem isDigB_iff (b : Nat) (c : UInt8) : isDigB b c = true ↔ 48 ≤ c.toNat ∧ c.toNat < 48 + b := by simp [isDigB]
theorem dnumB_lt (b : Nat) (hb : 1 ≤ b) : ∀ (n : Nat) (l : List UInt8), l.length = n → allDigB b l = true → dnumB b l < b ^ n := by
  intro n
  induction n with
  | zero => intro l h _; obtain rfl := List.eq_nil_of_length_eq_zero h; simp [dnumB]
  | succ n ih =>
    intro l h hd
    obtain ⟨m, c, rfl⟩ : ∃ m c, l = m ++ [c] := ⟨l.dropLast, l.getLast (by intro e; subst e; simp at h), (List.dropLast_concat_getLast _).symm⟩
    rw [allDigB_snoc] at hd
    simp only [Bool.and_eq_true] at hd
    have h1 := ih m (by simpa using h) hd.1
    have h2 := (isDigB_iff b c).1 hd.2
    rw [dnumB_snoc, Nat.pow_succ]
    calc b * dnumB b m + (c.toNat - 48) < b * dnumB b m + b := by omega
      _ = b * (dnumB b m + 1) := by rw [Nat.mul_add, Nat.mul_one]
      _ ≤ b * b ^ n := Nat.mul_le_mul_left _ h1
      _ = b ^ n * b := Nat.mul_comm _ _
theorem allDigB_take {b : Nat} {l : List UInt8} (k : Nat) (h : allDigB b (l.take k) = false) : allDigB b l = false := by
  rw [← List.take_append_drop k l]
  unfold allDigB at *
  rw [List.all_append, h]; rfl
theorem dnumB_le12 (b : Nat) (hb : 1 ≤ b) (hb2 : b ≤ 10) (l : List UInt8) (h : l.length ≤ 12) (hd : allDigB b l = true) : dnumB b l < 1000000000000 :=
  Nat.lt_of_lt_of_le (dnumB_lt b hb _ l rfl hd) (Nat.le_trans (Nat.pow_le_pow_left hb2 _) (Nat.le_trans (Nat.pow_le_pow_right (by decide) h) (by decide)))

theorem head_nought (s : ByteArray) (h : 0 < s.size) : s.data.toList.head? = some 48 ↔ s[0].toNat = 48 := by
  have e : s.data.toList.head? = some s[0] := by
    rw [List.head?_eq_getElem?, List.getElem?_eq_getElem (by simpa using h)]; rfl
  rw [e]
  constructor
  · intro h2; simp at h2; rw [h2]; rfl
  · intro h2; rw [show s[0] = 48 from UInt8.toNat_inj.mp (by simpa using h2)]

/-- What readDigits answers. -/
def digitsVal (b : Nat) (s : ByteArray) : Int := if allDigB b s.data.toList then (dnumB b s.data.toList : Int) else -1

set_option maxHeartbeats 1000000 in
theorem readDigits (s : ByteArray) (b : Nat) (w : World) (hb1 : 2 ≤ b) (hb2 : b ≤ 10) (hs : s.size ≤ 12) :
    Calls Tryd.prog 32 #[.string s, .int .i64 b] w fun e w' => e = .returned (.int .i64 (digitsVal b s)) ∧ ∃ pos, w' = w.iter s pos := by
  go_enter Tryd.func32, Tryd.ntmps32
  go_wp2
  go_loopw [5, 7, 8] (fun n _ _ W => ∃ k : Nat, k ≤ s.size ∧ W = w.iter s k ∧ allDigB b (s.data.toList.take k) = true ∧ n = .int .i64 (dnumB b (s.data.toList.take k))) (fun _ _ _ W => s.size - W.iterPos w.heap.size)
  case atStart => exact ⟨0, Nat.zero_le _, rfl, rfl, rfl⟩
  case round =>
    obtain ⟨k, hk, rfl, hd, rfl⟩ := hrel
    have hlt := dnumB_le12 b (by omega) hb2 (s.data.toList.take k) (by simp; omega) hd
    by_cases h1 : k < s.size
    · have hsn := take_snoc s k h1
      have HA := Lib.hid (allDigB_snoc b (s.data.toList.take k) s[k])
      have HN := Lib.hid (dnumB_snoc b (s.data.toList.take k) s[k])
      rw [← hsn] at HA HN
      have HD := Lib.hid hd
      clear hd hsn
      by_cases ha : s[k].toNat < 128
      · have hnx : ∀ ty, (Instr.next (.pointer (some ⟨w.heap.size, 0, none⟩)) true ty).run Tryd.prog (w.iter s k) = _ := fun ty => run_next_ascii w s k ty h1 ha
        by_cases h2 : isDigB b s[k] = true
        · have hb := (isDigB_iff _ _).1 h2
          have hc1 : 48 ≤ (s[k].toNat : Int) := by omega
          have hc2 : (s[k].toNat : Int) < 48 + b := by omega
          clear hb
          have hm1 : 0 ≤ (dnumB b (s.data.toList.take k) : Int) * (b : Int) := Int.mul_nonneg (by omega) (by omega)
          have hm2 : (dnumB b (s.data.toList.take k) : Int) * (b : Int) ≤ 10000000000000 := by
            have h5 : (dnumB b (s.data.toList.take k)) * b ≤ 1000000000000 * 10 := Nat.mul_le_mul (by omega) hb2
            have h6 : ((dnumB b (s.data.toList.take k) * b : Nat) : Int) = (dnumB b (s.data.toList.take k) : Int) * (b : Int) := Int.natCast_mul _ _
            omega
          go_wp2
          go_roundw
          case rel => exact ⟨k + 1, by omega, rfl, by rw [HA.out, HD.out, h2]; rfl, by rw [HN.out]; congr 1; rw [Int.natCast_add, Int.natCast_mul, Int.mul_comm (b : Int)]; omega⟩
          case measure => simp; omega
        · have h3 : isDigB b s[k] = false := by simpa using h2
          have HL := Lib.hid (allDigB_take (k + 1) (by rw [HA.out, h3]; simp) : allDigB b s.data.toList = false)
          have hb : ¬ (48 ≤ s[k].toNat ∧ s[k].toNat < 48 + b) := fun h => h2 ((isDigB_iff _ _).2 h)
          by_cases hc : s[k].toNat < 48
          · have hc1 : (s[k].toNat : Int) - 48 < 0 := by omega
            clear hb h2 h3
            go_wp2
            go_ret
            exact ⟨ret_int (by unfold digitsVal; rw [HL.out]; simp), ⟨_, rfl⟩⟩
          · have hc1 : 0 ≤ (s[k].toNat : Int) - 48 := by omega
            have hc2 : (b : Int) ≤ (s[k].toNat : Int) - 48 := by omega
            clear hb h2 h3
            go_wp2
            go_ret
            exact ⟨ret_int (by unfold digitsVal; rw [HL.out]; simp), ⟨_, rfl⟩⟩
      · have hnx : ∀ ty, (Instr.next (.pointer (some ⟨w.heap.size, 0, none⟩)) true ty).run Tryd.prog (w.iter s k) = _ := fun ty => run_next_any w s k ty h1
        have hh := (decode_high s k h1 (by omega)).1
        have hh2 := decode_le s k
        have h3 : isDigB b s[k] = false := by rw [Bool.eq_false_iff]; intro h; have := (isDigB_iff _ _).1 h; omega
        have HL := Lib.hid (allDigB_take (k + 1) (by rw [HA.out, h3]; simp) : allDigB b s.data.toList = false)
        clear h3
        go_wp2
        go_ret
        exact ⟨ret_int (by unfold digitsVal; rw [HL.out]; simp), ⟨_, rfl⟩⟩
    · have hnx : ∀ ty, (Instr.next (.pointer (some ⟨w.heap.size, 0, none⟩)) true ty).run Tryd.prog (w.iter s k) = _ := fun ty => run_next_end w s k ty h1
      have HT := Lib.hid (take_all s k (by omega))
      have HD := Lib.hid hd
      clear hd
      go_wp2
      go_ret
      have hd := HD.out
      rw [HT.out] at hd
      exact ⟨ret_int (by unfold digitsVal; rw [HT.out, hd]; simp), ⟨_, rfl⟩⟩
end Go.Proofs.YtbikcldkaogfmaaDoor
