/- Contracts of spec.SizeOf and impl.SizeOf: both tell one number. -/
import Derived.Test.YtbikcldkaogfmaaLead
import Derived.Test.YtbikcldkaogfmaaDecText
namespace Go.Proofs.Ytbikcldkaogfmaa
open Go.RowKit

theorem lead_app : ∀ (m r : List UInt8), allDig m = true → lead (m ++ r) = m.length + lead r
  | [], r, _ => by simp
  | a :: m, r, h => by
    have h2 : isDig a = true ∧ allDig m = true := by simpa [allDig] using h
    rw [List.cons_append, lead_cons, h2.1, lead_app m r h2.2]; simp; omega
theorem lead_part : ∀ (m r : List UInt8), allDig m = false → lead (m ++ r) = lead m ∧ lead m < m.length
  | [], r, h => by simp [allDig] at h
  | a :: m, r, h => by
    rw [List.cons_append, lead_cons, lead_cons]
    by_cases ha : isDig a = true
    · have h2 : allDig m = false := by simpa [allDig, ha] using h
      have := lead_part m r h2
      simp [ha, this.1, this.2]
    · simp [ha]
theorem lead_whole (m : List UInt8) (h : allDig m = true) : lead m = m.length := by
  have := lead_app m [] h; simpa [lead] using this

def mulB (c : UInt8) : Int := if c = 107 then 1024 else if c = 77 then 1048576 else if c = 71 then 1073741824 else 1
theorem mulB_dig (c : UInt8) (h : mulB c ≠ 1) : isDig c = false := by
  unfold mulB at h
  split at h
  · subst_vars; rfl
  · split at h
    · subst_vars; rfl
    · split at h
      · subst_vars; rfl
      · exact absurd rfl h
def numL (l : List UInt8) (most : Nat) : Int := if (1 ≤ l.length ∧ l.length ≤ most) ∧ allDig l = true then (dnum l : Int) else -1
theorem numOf_numL (s : ByteArray) (most : Nat) : numOf s most = numL s.data.toList most := by
  unfold numOf numL
  have hl : s.data.toList.length = s.size := by simp
  rw [hl]
  by_cases h : 1 ≤ s.size ∧ s.size ≤ most
  · rw [inB_t (by omega) (by omega)]; simp [h]
  · rw [inB_f (by omega)]; simp only [Bool.false_and]
    rw [if_neg (by simp), if_neg (by intro e; exact h e.1)]
/-- What SizeOf tells, by the last byte. -/
def sizeV (l : List UInt8) : Int :=
  match l.getLast? with
  | none => -1
  | some c => if mulB c = 1 then numL l 9 else if numL l.dropLast 9 < 0 then -1 else numL l.dropLast 9 * mulB c
/-- What SizeOf tells, by what stands behind the digits. -/
def sizeI (l : List UInt8) : Int :=
  if 1 ≤ lead l ∧ lead l ≤ 9 then
    (match l.drop (lead l) with
    | [] => (dnum (l.take (lead l)) : Int)
    | [c] => if mulB c = 1 then -1 else (dnum (l.take (lead l)) : Int) * mulB c
    | _ => -1)
  else -1
theorem size_one (l : List UInt8) : sizeI l = sizeV l := by
  rcases List.eq_nil_or_concat l with rfl | ⟨m, c, rfl⟩
  · rfl
  · rw [List.concat_eq_append]
    unfold sizeV sizeI
    rw [List.getLast?_concat, List.dropLast_concat]
    simp only
    by_cases hd : allDig m = true
    · rw [lead_app m [c] hd]
      by_cases hc : mulB c = 1
      · rw [if_pos hc]
        by_cases hcd : isDig c = true
        · have hl1 : lead [c] = 1 := by rw [lead_cons, hcd]; rfl
          rw [hl1, List.drop_of_length_le (by simp), List.take_of_length_le (by simp)]
          unfold numL
          have ha : allDig (m ++ [c]) = true := by rw [allDig_snoc, hd, hcd]; rfl
          rw [ha]
          simp
        · have hl1 : lead [c] = 0 := by rw [lead_cons]; simp [hcd]
          have ha : allDig (m ++ [c]) = false := by rw [allDig_snoc, hd]; simpa using hcd
          rw [hl1]
          unfold numL
          rw [ha]
          simp [hc]
      · have hl1 : lead [c] = 0 := by rw [lead_cons, mulB_dig c hc]; rfl
        rw [hl1, if_neg hc]
        unfold numL
        rw [hd]
        simp only [Nat.add_zero, List.drop_left, List.take_left, and_true]
        by_cases hr : 1 ≤ m.length ∧ m.length ≤ 9
        · rw [if_pos hr, if_pos hr, if_neg hc, if_neg (by omega)]
        · rw [if_neg hr, if_neg hr]; simp
    · have hd2 : allDig m = false := by simpa using hd
      obtain ⟨e1, e2⟩ := lead_part m [c] hd2
      rw [e1]
      have ha : allDig (m ++ [c]) = false := by rw [allDig_snoc, hd2]; rfl
      have hn : numL m 9 = -1 := by unfold numL; rw [hd2]; simp
      have hn2 : numL (m ++ [c]) 9 = -1 := by unfold numL; rw [ha]; simp
      rw [hn, hn2]
      have hdr : ∃ a b t, (m ++ [c]).drop (lead m) = a :: b :: t := by
        cases hq : (m ++ [c]).drop (lead m) with
        | nil => have := congrArg List.length hq; simp at this; omega
        | cons a r =>
          cases r with
          | nil => have := congrArg List.length hq; simp at this; omega
          | cons b t => exact ⟨a, b, t, rfl⟩
      obtain ⟨a, b, t, hq⟩ := hdr
      rw [hq]
      simp

theorem numL_bd (l : List UInt8) : -1 ≤ numL l 9 ∧ numL l 9 < 1000000000 := by
  unfold numL
  split
  · rename_i h
    have := dnum_lt l.length l rfl h.2
    have h2 : 10 ^ l.length ≤ 10 ^ 9 := Nat.pow_le_pow_right (by decide) h.1.2
    omega
  · omega

set_option maxHeartbeats 4000000 in
theorem specSizeOf (s : ByteArray) (w : World) (hs : s.size ≤ maxLen) :
    Calls Try.prog 4 #[.string s] w fun e w' => e = .returned (.int .i64 (sizeV s.data.toList)) ∧ w = w' := by
  unfold maxLen at hs
  by_cases h0 : s.size = 0
  · have hl : s.data.toList = [] := List.eq_nil_of_length_eq_zero (by simpa using h0)
    have hn : numOf s 9 = -1 := by rw [show (9 : Int) = ((9 : Nat) : Int) from rfl, numOf_numL, hl]; rfl
    rw [show sizeV s.data.toList = -1 by rw [hl]; rfl]
    clear hl
    go_enter Try.func4, Try.ntmps4
    go_wp2_with (go_at_call 6; refine (specNum _ _ _ (by omega)).mono ?_; rintro e w' ⟨rfl, rfl⟩)
    go_ret
    exact ⟨rfl, rfl⟩
  · have hlast : s.data.toList.getLast? = some (s[s.size - 1]'(by omega)) := by
      rw [List.getLast?_eq_getElem?]; simp only [Array.length_toList]
      exact byte_at s (s.size - 1) (by omega)
    have hdl : (s.extract 0 (s.size - 1)).data.toList = s.data.toList.dropLast := by
      rw [Lib.extract_data, List.dropLast_eq_take]; simp
    obtain ⟨c, hc⟩ : ∃ c, s[s.size - 1]'(by omega) = c := ⟨_, rfl⟩
    have hsv : sizeV s.data.toList = if mulB c = 1 then numL s.data.toList 9 else if numL s.data.toList.dropLast 9 < 0 then -1 else numL s.data.toList.dropLast 9 * mulB c := by
      unfold sizeV; rw [hlast, hc]
    rw [hsv]
    have n1 : numOf s 9 = numL s.data.toList 9 := numOf_numL s 9
    have n2 : numOf (s.extract 0 (s.size - 1)) 9 = numL s.data.toList.dropLast 9 := by rw [← hdl]; exact numOf_numL _ 9
    have b1 := numL_bd s.data.toList
    have b2 := numL_bd s.data.toList.dropLast
    generalize numL s.data.toList 9 = x at n1 b1 ⊢
    generalize numL s.data.toList.dropLast 9 = y at n2 b2 ⊢
    have N1 := Lib.hid n1
    have N2 := Lib.hid n2
    obtain ⟨b11, b12⟩ := b1
    obtain ⟨b21, b22⟩ := b2
    have hpos : (0 : Int) < s.size := by omega
    have hcv : (s[s.size - 1]'(by omega)).toNat = c.toNat := by rw [hc]
    clear hlast hdl hsv hc n1 n2
    have CN := Lib.hid (fun t W => specNum t 9 W (by omega))
    by_cases k1 : c = 107
    · subst k1
      have hcv2 : ((s[s.size - 1]'(by omega)).toNat : Int) = 107 := by rw [hcv]; rfl
      clear hcv
      rw [show mulB 107 = 1024 from rfl, if_neg (by decide)]
      by_cases hy : y < 0
      · rw [if_pos hy]
        go_enter Try.func4, Try.ntmps4
        go_wp2_with (go_at_call 6; refine (CN.out _ _).mono ?_; rintro e w' ⟨rfl, rfl⟩; rw [N2.out])
        go_ret
        exact ⟨rfl, rfl⟩
      · rw [if_neg hy]
        go_enter Try.func4, Try.ntmps4
        go_wp2_with (go_at_call 6; refine (CN.out _ _).mono ?_; rintro e w' ⟨rfl, rfl⟩; rw [N2.out])
        go_ret
        exact ⟨rfl, rfl⟩
    · by_cases k2 : c = 77
      · subst k2
        have hcv2 : ((s[s.size - 1]'(by omega)).toNat : Int) = 77 := by rw [hcv]; rfl
        clear hcv
        rw [show mulB 77 = 1048576 from rfl, if_neg (by decide)]
        by_cases hy : y < 0
        · rw [if_pos hy]
          go_enter Try.func4, Try.ntmps4
          go_wp2_with (go_at_call 6; refine (CN.out _ _).mono ?_; rintro e w' ⟨rfl, rfl⟩; rw [N2.out])
          go_ret
          exact ⟨rfl, rfl⟩
        · rw [if_neg hy]
          go_enter Try.func4, Try.ntmps4
          go_wp2_with (go_at_call 6; refine (CN.out _ _).mono ?_; rintro e w' ⟨rfl, rfl⟩; rw [N2.out])
          go_ret
          exact ⟨rfl, rfl⟩
      · by_cases k3 : c = 71
        · subst k3
          have hcv2 : ((s[s.size - 1]'(by omega)).toNat : Int) = 71 := by rw [hcv]; rfl
          clear hcv
          rw [show mulB 71 = 1073741824 from rfl, if_neg (by decide)]
          by_cases hy : y < 0
          · rw [if_pos hy]
            go_enter Try.func4, Try.ntmps4
            go_wp2_with (go_at_call 6; refine (CN.out _ _).mono ?_; rintro e w' ⟨rfl, rfl⟩; rw [N2.out])
            go_ret
            exact ⟨rfl, rfl⟩
          · rw [if_neg hy]
            go_enter Try.func4, Try.ntmps4
            go_wp2_with (go_at_call 6; refine (CN.out _ _).mono ?_; rintro e w' ⟨rfl, rfl⟩; rw [N2.out])
            go_ret
            exact ⟨rfl, rfl⟩
        · have hm : mulB c = 1 := by unfold mulB; rw [if_neg k1, if_neg k2, if_neg k3]
          have ne : ∀ n : UInt8, c ≠ n → (((s[s.size - 1]'(by omega)).toNat : Int) == (n.toNat : Int)) = false := fun n h => by
            rw [hcv]; simp; intro e; exact h (UInt8.toNat_inj.mp (by omega))
          have ne1 : (((s[s.size - 1]'(by omega)).toNat : Int) == 107) = false := ne 107 k1
          have ne2 : (((s[s.size - 1]'(by omega)).toNat : Int) == 77) = false := ne 77 k2
          have ne3 : (((s[s.size - 1]'(by omega)).toNat : Int) == 71) = false := ne 71 k3
          clear hcv ne
          rw [if_pos hm]
          clear hm
          by_cases hx : x < 0
          · rw [show x = -1 by omega] at N1 ⊢
            clear hx b11 b12
            go_enter Try.func4, Try.ntmps4
            go_wp2_with (go_at_call 6; refine (CN.out _ _).mono ?_; rintro e w' ⟨rfl, rfl⟩; rw [N1.out])
            go_ret
            exact ⟨rfl, rfl⟩
          · go_enter Try.func4, Try.ntmps4
            go_wp2_with (go_at_call 6; refine (CN.out _ _).mono ?_; rintro e w' ⟨rfl, rfl⟩; rw [N1.out])
            go_ret
            exact ⟨ret_int (by omega), rfl⟩
end Go.Proofs.Ytbikcldkaogfmaa
