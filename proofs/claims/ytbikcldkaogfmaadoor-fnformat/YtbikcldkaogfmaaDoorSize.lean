/- Contracts of spec.SizeOf and impl.SizeOf: both tell one number. -/
import Derived.Test.YtbikcldkaogfmaaDoorLead
import Derived.Test.YtbikcldkaogfmaaDoorDecText
namespace Go.Proofs.YtbikcldkaogfmaaDoor
open Go.RowKit

theorem lead_app : ∀ (m r : List UInt8), allDig m = true → lead (m ++ r) = m.length + lead r
  | [], r, _ => by simp
  | a :: m, r, h => by
    have h2 : isDig a = true ∧ allDig m = true := by simpa [allDig] using h
    rw [List.cons_append, lead_cons, h2.1, lead_app m r h2.2]; simp; omega
theorem lead_part : ∀ (m r : List UInt8), allDig m = false → lead (m ++ r) = lead m ∧ lead m < m.length
  | [], r, h => by simp [allDig] at h
  | a :: m, r, h => by
    rw [List.cons_append, lead_cons, lead_cons]
    by_cases ha : isDig a = true
    · have h2 : allDig m = false := by simpa [allDig, ha] using h
      have := lead_part m r h2
      simp [ha, this.1, this.2]
    · simp [ha]
theorem lead_whole (m : List UInt8) (h : allDig m = true) : lead m = m.length := by
  have := lead_app m [] h; simpa [lead] using this

def mulB (c : UInt8) : Int := if c = 107 then 1024 else if c = 77 then 1048576 else if c = 71 then 1073741824 else 1
theorem mulB_dig (c : UInt8) (h : mulB c ≠ 1) : isDig c = false := by
  unfold mulB at h
  split at h
  · subst_vars; rfl
  · split at h
    · subst_vars; rfl
    · split at h
      · subst_vars; rfl
      · exact absurd rfl h
def numL (l : List UInt8) (most : Nat) : Int := if (1 ≤ l.length ∧ l.length ≤ most) ∧ allDig l = true then (dnum l : Int) else -1
theorem numOf_numL (s : ByteArray) (most : Nat) : numOf s most = numL s.data.toList most := by
  unfold numOf numL
  have hl : s.data.toList.length = s.size := by simp
  rw [hl]
  by_cases h : 1 ≤ s.size ∧ s.size ≤ most
  · rw [inB_t (by omega) (by omega)]; simp [h]
  · rw [inB_f (by omega)]; simp only [Bool.false_and]
    rw [if_neg (by simp), if_neg (by intro e; exact h e.1)]
/-- What SizeOf tells, by the last byte. -/
def sizeV (l : List UInt8) : Int :=
  match l.getLast? with
  | none => -1
  | some c => if mulB c = 1 then numL l 9 else if numL l.dropLast 9 < 0 then -1 else numL l.dropLast 9 * mulB c
/-- What SizeOf tells, by what stands behind the digits. -/
def sizeI (l : List UInt8) : Int :=
  if 1 ≤ lead l ∧ lead l ≤ 9 then
    (match l.drop (lead l) with
    | [] => (dnum (l.take (lead l)) : Int)
    | [c] => if mulB c = 1 then -1 else (dnum (l.take (lead l)) : Int) * mulB c
    | _ => -1)
  else -1
theorem size_one (l : List UInt8) : sizeI l = sizeV l := by
  rcases List.eq_nil_or_concat l with rfl | ⟨m, c, rfl⟩
  · rfl
  · rw [List.concat_eq_append]
    unfold sizeV sizeI
    rw [List.getLast?_concat, List.dropLast_concat]
    simp only
    by_cases hd : allDig m = true
    · rw [lead_app m [c] hd]
      by_cases hc : mulB c = 1
      · rw [if_pos hc]
        by_cases hcd : isDig c = true
        · have hl1 : lead [c] = 1 := by rw [lead_cons, hcd]; rfl
          rw [hl1, List.drop_of_length_le (by simp), List.take_of_length_le (by simp)]
          unfold numL
          have ha : allDig (m ++ [c]) = true := by rw [allDig_snoc, hd, hcd]; rfl
          rw [ha]
          simp
        · have hl1 : lead [c] = 0 := by rw [lead_cons]; simp [hcd]
          have ha : allDig (m ++ [c]) = false := by rw [allDig_snoc, hd]; simpa using hcd
          rw [hl1]
          unfold numL
          rw [ha]
          simp [hc]
      · have hl1 : lead [c] = 0 := by rw [lead_cons, mulB_dig c hc]; rfl
        rw [hl1, if_neg hc]
        unfold numL
        rw [hd]
        simp only [Nat.add_zero, List.drop_left, List.take_left, and_true]
        by_cases hr : 1 ≤ m.length ∧ m.length ≤ 9
        · rw [if_pos hr, if_pos hr, if_neg hc, if_neg (by omega)]
        · rw [if_neg hr, if_neg hr]; simp
    · have hd2 : allDig m = false := by simpa using hd
      obtain ⟨e1, e2⟩ := lead_part m [c] hd2
      rw [e1]
      have ha : allDig (m ++ [c]) = false := by rw [allDig_snoc, hd2]; rfl
      have hn : numL m 9 = -1 := by unfold numL; rw [hd2]; simp
      have hn2 : numL (m ++ [c]) 9 = -1 := by unfold numL; rw [ha]; simp
      rw [hn, hn2]
      have hdr : ∃ a b t, (m ++ [c]).drop (lead m) = a :: b :: t := by
        cases hq : (m ++ [c]).drop (lead m) with
        | nil => have := congrArg List.length hq; simp at this; omega
        | cons a r =>
          cases r with
          | nil => have := congrArg List.length hq; simp at this; omega
          | cons b t => exact ⟨a, b, t, rfl⟩
      obtain ⟨a, b, t, hq⟩ := hdr
      rw [hq]
      simp

theorem numL_bd (l : List UInt8) : -1 ≤ numL l 9 ∧ numL l 9 < 1000000000 := by
  unfold numL
  split
  · rename_i h
    have := dnum_lt l.length l rfl h.2
    have h2 : 10 ^ l.length ≤ 10 ^ 9 := Nat.pow_le_pow_right (by decide) h.1.2
    omega
  · omega

end Go.Proofs.YtbikcldkaogfmaaDoor
