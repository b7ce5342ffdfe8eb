/- Plain facts on decimal digits: a text of digits is the numeral of its number just where no needless nought stands ahead. Contracts of the spec's helpers on numbers and digits: l01In, l01Digit, l01Num, DecText. -/
import Derived.Lib.ItoaNum
import Derived.Lib.ItoaLen
import Derived.Test.YtipedabppgbfcaaGreatDoorK1
set_option linter.all false
namespace Go.Proofs.YtipedabppgbfcaaGreatDoor

def isDig (c : UInt8) : Bool := decide (48 ≤ c.toNat) && decide (c.toNat ≤ 57)
def allDig (l : List UInt8) : Bool := l.all isDig
/-- The number of a text of digits. -/
def dnum (l : List UInt8) : Nat := l.foldl (fun n c => 10 * n + (c.toNat - 48)) 0

theorem dnum_snoc (l : List UInt8) (c : UInt8) : dnum (l ++ [c]) = 10 * dnum l + (c.toNat - 48) := by
  simp [dnum]
theorem allDig_snoc (l : List UInt8) (c : UInt8) : allDig (l ++ [c]) = (allDig l && isDig c) := by
  simp [allDig]
theorem isDig_iff (c : UInt8) : isDig c = true ↔ 48 ≤ c.toNat ∧ c.toNat ≤ 57 := by simp [isDig]
theorem dnum_lt : ∀ (n : Nat) (l : List UInt8), l.length = n → allDig l = true → dnum l < 10 ^ n := by
  intro n
  induction n with
  | zero => intro l h _; obtain rfl := List.eq_nil_of_length_eq_zero h; simp [dnum]
  | succ n ih =>
    intro l h hd
    obtain ⟨m, c, rfl⟩ : ∃ m c, l = m ++ [c] := ⟨l.dropLast, l.getLast (by intro e; subst e; simp at h), (List.dropLast_concat_getLast _).symm⟩
    rw [allDig_snoc] at hd
    simp only [Bool.and_eq_true] at hd
    have h1 := ih m (by simpa using h) hd.1
    have h2 := (isDig_iff c).1 hd.2
    rw [dnum_snoc, Nat.pow_succ]; omega

theorem dnum_pos (l : List UInt8) (hd : allDig l = true) (a : UInt8) (t : List UInt8) (e : l = a :: t) (ha : a ≠ 48) : 1 ≤ dnum l := by
  subst e
  have key : ∀ (t : List UInt8) (n : Nat), 1 ≤ n → 1 ≤ t.foldl (fun n c => 10 * n + (c.toNat - 48)) n := by
    intro t
    induction t with
    | nil => intro n h; exact h
    | cons c t ih =>
      intro n h
      have h2 : 1 ≤ 10 * n + (c.toNat - 48) := by omega
      exact ih _ h2
  have h0 : 48 ≤ a.toNat ∧ a.toNat ≤ 57 := by
    have : isDig a = true := by simp [allDig] at hd; exact hd.1
    exact (isDig_iff a).1 this
  have hne : a.toNat ≠ 48 := fun e => ha (UInt8.toNat_inj.mp (by simpa using e))
  have h3 : 1 ≤ 10 * 0 + (a.toNat - 48) := by omega
  exact key t _ h3

theorem ofNat_dig (c : UInt8) (h : isDig c = true) : UInt8.ofNat (48 + (c.toNat - 48)) = c := by
  have := (isDig_iff c).1 h
  rw [show 48 + (c.toNat - 48) = c.toNat by omega]; simp

theorem decDigits_dnum : ∀ (n : Nat) (l : List UInt8), l.length = n → allDig l = true → 1 ≤ n → (n = 1 ∨ ∀ a t, l = a :: t → a ≠ 48) → Lib.decDigits (dnum l) = l := by
  intro n
  induction n with
  | zero => intro l _ _ h; omega
  | succ n ih =>
    intro l h hd _ hz
    obtain ⟨m, c, rfl⟩ : ∃ m c, l = m ++ [c] := ⟨l.dropLast, l.getLast (by intro e; subst e; simp at h), (List.dropLast_concat_getLast _).symm⟩
    rw [allDig_snoc] at hd
    simp only [Bool.and_eq_true] at hd
    have h2 := (isDig_iff c).1 hd.2
    rw [dnum_snoc]
    by_cases hn : n = 0
    · subst hn
      obtain rfl : m = [] := List.eq_nil_of_length_eq_zero (by simpa using h)
      rw [Lib.decDigits, dif_pos (by simp [dnum]; omega)]
      simp only [dnum, List.foldl_nil, Nat.mul_zero, Nat.zero_add, List.nil_append]
      rw [ofNat_dig c hd.2]
    · rcases hz with hz | hz
      · omega
      · obtain ⟨a, t, rfl⟩ : ∃ a t, m = a :: t := by
          cases m with
          | nil => simp at h; omega
          | cons a t => exact ⟨a, t, rfl⟩
        have ha : a ≠ 48 := hz a (t ++ [c]) rfl
        have hp := dnum_pos (a :: t) hd.1 a t rfl ha
        rw [Lib.decDigits, dif_neg (by omega), show (10 * dnum (a :: t) + (c.toNat - 48)) / 10 = dnum (a :: t) by omega, show (10 * dnum (a :: t) + (c.toNat - 48)) % 10 = c.toNat - 48 by omega, ofNat_dig c hd.2]
        rw [ih (a :: t) (by simpa using h) hd.1 (by omega) (Or.inr fun b u e => by cases e; exact ha)]

theorem decDigits_head : ∀ (u : Nat), ∀ a t, Lib.decDigits u = a :: t → a = 48 → u = 0 := by
  intro u
  induction u using Nat.strongRecOn with
  | _ u ih =>
    intro a t e ha
    subst ha
    by_cases h : u < 10
    · rw [Lib.decDigits, dif_pos h] at e
      have e1 : UInt8.ofNat (48 + u) = 48 := by simpa using (List.cons.inj e).1
      have := congrArg UInt8.toNat e1
      simp at this; omega
    · rw [Lib.decDigits, dif_neg h] at e
      cases hq : Lib.decDigits (u / 10) with
      | nil =>
        have h5 := Lib.decDigits_length (u / 10)
        rw [hq] at h5
        have h6 := Lib.nDigits_pos (u / 10)
        simp at h5
        omega
      | cons b r =>
        rw [hq] at e
        have hb : b = 48 := (List.cons.inj e).1
        have := ih (u / 10) (by omega) b r hq hb
        omega

theorem decDigits_nought (l : List UInt8) (t : List UInt8) (e : l = 48 :: t) (ht : t ≠ []) (u : Nat) : Lib.decDigits u ≠ l := by
  intro h
  have hu := decDigits_head u 48 t (h.trans e) rfl
  subst hu
  rw [Lib.decDigits, dif_pos (by omega)] at h
  rw [e] at h
  exact ht ((List.cons.inj h).2.symm)
end Go.Proofs.YtipedabppgbfcaaGreatDoor
namespace Go.Proofs.YtipedabppgbfcaaGreatDoor
open Go.RowKit

def inB (x a b : Int) : Bool := decide (a ≤ x) && decide (x ≤ b)
theorem inB_t {x a b : Int} (h1 : a ≤ x) (h2 : x ≤ b) : inB x a b = true := by simp [inB, h1, h2]
theorem inB_f {x a b : Int} (h : ¬ (a ≤ x ∧ x ≤ b)) : inB x a b = false := by
  simp only [inB, Bool.and_eq_false_iff, decide_eq_false_iff_not]; omega

theorem specIn (x a b : Int) (w : World) :
    Calls Tryz.prog 61 #[.int .i64 x, .int .i64 a, .int .i64 b] w fun e w' => e = .returned (.bool (inB x a b)) ∧ w = w' := by
  by_cases h1 : a ≤ x
  · by_cases h2 : x ≤ b
    · rw [inB_t h1 h2]
      go_enter Tryz.func61, Tryz.ntmps61
      go_wp2
      go_ret
      exact ⟨rfl, rfl⟩
    · rw [inB_f (by omega)]
      go_enter Tryz.func61, Tryz.ntmps61
      go_wp2
      go_ret
      exact ⟨rfl, rfl⟩
  · rw [inB_f (by omega)]
    go_enter Tryz.func61, Tryz.ntmps61
    go_wp2
    go_ret
    exact ⟨rfl, rfl⟩

theorem dnum_lt17 (l : List UInt8) (h : l.length ≤ 17) (hd : allDig l = true) : dnum l < 100000000000000000 :=
  Nat.lt_of_lt_of_le (dnum_lt _ l rfl hd) (by
    have := Nat.pow_le_pow_right (n := 10) (by decide) h
    exact Nat.le_trans this (by decide))
theorem dnum_lt18 (l : List UInt8) (h : l.length ≤ 18) (hd : allDig l = true) : dnum l < 1000000000000000000 :=
  Nat.lt_of_lt_of_le (dnum_lt _ l rfl hd) (by
    have := Nat.pow_le_pow_right (n := 10) (by decide) h
    exact Nat.le_trans this (by decide))

/-- The number of a text of 1 to most digits; -1 of another one. -/
def numOf (s : ByteArray) (most : Int) : Int :=
  if inB s.size 1 most && allDig s.data.toList then (dnum s.data.toList : Int) else -1

theorem take_snoc (s : ByteArray) (k : Nat) (h : k < s.size) : s.data.toList.take (k + 1) = s.data.toList.take k ++ [s[k]] := by
  rw [List.take_succ_eq_append_getElem (by simpa using h)]; rfl

theorem take_all (s : ByteArray) (k : Nat) (h : s.size ≤ k) : s.data.toList.take k = s.data.toList := List.take_of_length_le (by simpa using h)

theorem allDig_take {l : List UInt8} (k : Nat) (h : allDig (l.take k) = false) : allDig l = false := by
  rw [← List.take_append_drop k l]
  unfold allDig at *
  rw [List.all_append, h]; rfl

end Go.Proofs.YtipedabppgbfcaaGreatDoor
