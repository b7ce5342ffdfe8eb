/- How many digits stand ahead of a text: spec.l03Digits, impl.digitsAhead; impl.readCount. -/
import Derived.Test.YtbikcldkaogfmaaDoorReadDigits
import Derived.Lib.QuietBelow
namespace Go.Proofs.YtbikcldkaogfmaaDoor
open Go.RowKit

/-- How many digits stand ahead. -/
def lead (l : List UInt8) : Nat := (l.takeWhile isDig).length
theorem lead_cons (a : UInt8) (l : List UInt8) : lead (a :: l) = if isDig a then lead l + 1 else 0 := by
  unfold lead; rw [List.takeWhile_cons]; split <;> simp [*]
theorem lead_le (l : List UInt8) : lead l ≤ l.length := by
  induction l with
  | nil => simp [lead]
  | cons a l ih => rw [lead_cons]; split <;> simp <;> omega
theorem lead_at : ∀ (l : List UInt8) (k : Nat) (c : UInt8), l[k]? = some c → k < lead l → isDig c = true
  | [], k, c, h, _ => by simp at h
  | a :: l, 0, c, h, hk => by
    rw [lead_cons] at hk
    simp at h; subst h
    by_cases ha : isDig a = true
    · exact ha
    · simp [ha] at hk
  | a :: l, k + 1, c, h, hk => by
    rw [lead_cons] at hk
    by_cases ha : isDig a = true
    · simp [ha] at hk
      exact lead_at l k c (by simpa using h) hk
    · simp [ha] at hk
theorem lead_end : ∀ (l : List UInt8) (c : UInt8), l[lead l]? = some c → isDig c = false
  | [], c, h => by simp at h
  | a :: l, c, h => by
    rw [lead_cons] at h
    by_cases ha : isDig a = true
    · simp [ha] at h
      exact lead_end l c h
    · simp [ha] at h
      subst h; simpa using ha
theorem lead_all (l : List UInt8) : allDig (l.take (lead l)) = true := by
  induction l with
  | nil => rfl
  | cons a l ih =>
    rw [lead_cons]
    by_cases ha : isDig a = true
    · simp [ha, allDig] at *; exact ih
    · simp [ha, allDig]
theorem byte_at (s : ByteArray) (k : Nat) (h : k < s.size) : s.data.toList[k]? = some s[k] := by
  rw [List.getElem?_eq_getElem (by simpa using h)]; rfl
theorem lead_size (s : ByteArray) : lead s.data.toList ≤ s.size := by have := lead_le s.data.toList; simpa using this

theorem implDigitsAhead (s : ByteArray) (w : World) (hs : s.size ≤ maxLen) :
    Calls Tryd.prog 31 #[.string s] w fun e w' => e = .returned (.int .i64 (lead s.data.toList)) ∧ w = w' := by
  unfold maxLen at hs
  have hle := lead_size s
  go_enter Tryd.func31, Tryd.ntmps31
  go_wp2
  go_loop [3, 6] (fun _ i => ∃ k : Nat, k ≤ lead s.data.toList ∧ i = .int .i64 k) (fun _ i => s.size - (intOf i).toNat)
  case atStart => exact ⟨0, Nat.zero_le _, rfl⟩
  case round =>
    obtain ⟨k, hk, rfl⟩ := hrel
    by_cases h1 : k < s.size
    · by_cases h2 : k < lead s.data.toList
      · have hb := (isDig_iff _).1 (lead_at _ _ _ (byte_at s k h1) h2)
        have hb1 : 48 ≤ (s[k].toNat : Int) := by omega
        have hb2 : (s[k].toNat : Int) ≤ 57 := by omega
        clear hb
        go_wp2
        go_round
        case rel => exact ⟨k + 1, by omega, by go_num⟩
        case measure => simp [intOf]; omega
      · obtain rfl : k = lead s.data.toList := by omega
        have hb : ¬ (48 ≤ s[lead s.data.toList].toNat ∧ s[lead s.data.toList].toNat ≤ 57) := fun h => by
          have := lead_end _ _ (byte_at s _ h1)
          rw [(isDig_iff _).2 h] at this; cases this
        by_cases hc : s[lead s.data.toList].toNat < 48
        · have hc1 : (s[lead s.data.toList].toNat : Int) < 48 := by omega
          clear hb
          go_wp2
          go_ret
          exact ⟨rfl, rfl⟩
        · have hc1 : 48 ≤ (s[lead s.data.toList].toNat : Int) := by omega
          have hc2 : 57 < (s[lead s.data.toList].toNat : Int) := by omega
          clear hb
          go_wp2
          go_ret
          exact ⟨rfl, rfl⟩
    · have hk2 : k = lead s.data.toList := by omega
      have hsz : s.size = lead s.data.toList := by omega
      go_wp2
      go_ret
      exact ⟨ret_int (by first | rfl | rw [hsz]), rfl⟩

/-- The number that stands ahead; -1 where there are no digits, or too many. -/
def cntV (s : ByteArray) : Int := if 1 ≤ lead s.data.toList ∧ lead s.data.toList ≤ 9 then (dnum (s.data.toList.take (lead s.data.toList)) : Int) else -1
/-- What stands behind it. -/
def rstV (s : ByteArray) : ByteArray := if 1 ≤ lead s.data.toList ∧ lead s.data.toList ≤ 9 then s.extract (lead s.data.toList) s.size else s

theorem digitsVal_lead (s : ByteArray) : digitsVal 10 (s.extract 0 (lead s.data.toList)) = (dnum (s.data.toList.take (lead s.data.toList)) : Int) := by
  have e : (s.extract 0 (lead s.data.toList)).data.toList = s.data.toList.take (lead s.data.toList) := by rw [Lib.extract_data]; simp
  unfold digitsVal
  have h1 : allDigB 10 (s.data.toList.take (lead s.data.toList)) = true := by
    have := lead_all s.data.toList
    unfold allDigB; unfold allDig at this
    rw [show isDigB 10 = isDig from by funext c; unfold isDigB isDig; congr 1; exact decide_eq_decide.2 (by omega)]
    exact this
  rw [e, h1]; rfl

set_option maxHeartbeats 1000000 in
theorem implReadCount (s : ByteArray) (w : World) (hs : s.size ≤ maxLen) :
    Calls Tryd.prog 49 #[.string s] w fun e w' => e = .returned (.tuple #[.int .i64 (cntV s), .string (rstV s)]) ∧ Below w.heap.size w w' := by
  have hle := lead_size s
  have hs2 : s.size ≤ 9223372036854775807 := by unfold maxLen at hs; omega
  have HD := Lib.hid (digitsVal_lead s)
  have CD := Lib.hid (fun W => implDigitsAhead s W hs)
  by_cases h : 1 ≤ lead s.data.toList ∧ lead s.data.toList ≤ 9
  · rw [show cntV s = (dnum (s.data.toList.take (lead s.data.toList)) : Int) from if_pos h, show rstV s = s.extract (lead s.data.toList) s.size from if_pos h, ← HD.out]
    obtain ⟨h1, h2⟩ := h
    obtain ⟨n, hn⟩ : ∃ n, lead s.data.toList = n := ⟨_, rfl⟩
    have HN := Lib.hid hn
    rw [hn] at h1 h2 hle ⊢
    have hsz : (s.extract 0 n).size ≤ 12 := by simp; omega
    have CR := Lib.hid (show ∀ n' os, Calls Tryd.prog 32 #[.string (s.extract 0 n), .int .i64 10] (Sort.grow (redrawn w n') os) fun e w'' => e = .returned (.int .i64 (digitsVal 10 (s.extract 0 n))) ∧ ∃ p : Regrown, w'' = Sort.grow (redrawn w p.d) p.os from
      fun n' os => Calls.regrown_of ((readDigits (s.extract 0 n) 10 _ (by omega) (by omega) hsz).mono fun _ _ ⟨he, pos, hw⟩ => ⟨he, hw ▸ below_iter (Below.refl _ _) (Nat.le_refl _) _ _⟩))
    generalize digitsVal 10 (s.extract 0 n) = q at CR ⊢
    clear hn
    go_enter Tryd.func49, Tryd.ntmps49
    go_wp2_with (go_at_call 31; refine (CD.out _).mono ?_; rintro e w' ⟨rfl, rfl⟩; rw [HN.out])
    refine wp_region_quiet_below (by kernel_rfl) (by kernel_rfl) ?_
    repeat (quiet_step (first | exact CR.out _ _))
    refine wpQuiet_nil ?_
    intro w2 hw2
    obtain ⟨p, rfl⟩ := hw2
    go_wp2
    go_ret2
    exact ⟨rfl, below_regrown w p.d p.os⟩
  · rw [show cntV s = -1 from if_neg h, show rstV s = s from if_neg h]
    by_cases h1 : 1 ≤ lead s.data.toList
    · have h2 : 9 < lead s.data.toList := by omega
      clear h
      go_enter Tryd.func49, Tryd.ntmps49
      go_wp2_with (go_at_call 31; refine (CD.out _).mono ?_; rintro e w' ⟨rfl, rfl⟩)
      go_ret2
      exact ⟨rfl, Below.refl _ _⟩
    · have h2 : lead s.data.toList < 1 := by omega
      clear h
      go_enter Tryd.func49, Tryd.ntmps49
      go_wp2_with (go_at_call 31; refine (CD.out _).mono ?_; rintro e w' ⟨rfl, rfl⟩)
      go_ret2
      exact ⟨rfl, Below.refl _ _⟩
end Go.Proofs.YtbikcldkaogfmaaDoor
