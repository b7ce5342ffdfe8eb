/- Contracts of spec.ReadOct and impl.ReadOct: both tell one number. -/
import Derived.Test.YtlkmpmlcjiiboaaDecText
import Derived.Test.YtlkmpmlcjiiboaaReadDigits
namespace Go.Proofs.Ytlkmpmlcjiiboaa
open Go.RowKit

def octVal (l : List UInt8) : Int := if allDigB 8 l then (dnumB 8 l : Int) else -1
/-- The number of a mode's text: three digits of base eight, or those with a nought ahead. -/
def readOctV (l : List UInt8) : Int :=
  if l.length = 3 then octVal l else if l.length = 4 ∧ l.head? = some 48 then octVal (l.drop 1) else -1

def rest1 (t : ByteArray) : List UInt8 := t.data.toList.drop 1
theorem rest1_len (t : ByteArray) : (rest1 t).length = t.size - 1 := by simp [rest1]

theorem drop_take_snoc (t : ByteArray) (k : Nat) (h : k + 1 < t.size) : (rest1 t).take (k + 1) = (rest1 t).take k ++ [t[k + 1]] := by
  unfold rest1
  rw [List.take_succ_eq_append_getElem (by simp; omega)]
  congr 1
  simp only [List.getElem_drop, List.cons.injEq, and_true]
  rw [show t[k + 1] = t.data.toList[k + 1]'(by simpa using h) from rfl]
  congr 1; omega

theorem byte_lt (t : ByteArray) (k : Nat) (h : k < t.size) : (t[k].toNat : Int) ≤ 255 := by have := t[k].toNat_lt; omega

set_option maxHeartbeats 1000000 in
theorem specReadOct_4 (t : ByteArray) (w : World) (hp : 0 < t.size) (h4 : t.size = 4) (hz : (t[0]'hp).toNat = 48) :
    Calls Try.prog 22 #[.string t] w fun e w' => e = .returned (.int .i64 (octVal (rest1 t))) ∧ w = w' := by
  have hbytes := fun k h => byte_lt t k h
  have e4 : (t.size : Int) = 4 := by omega
  have hz1 : (((t[0]'hp).toNat : Int) != 48) = false := by simp [hz]
  have hz2 : ((t.size : Int) == 3) = false := by rw [e4]; rfl
  have hz3 : ((t.size : Int) != 4) = false := by rw [e4]; rfl
  have h0 : (0 : Int) < t.size := by omega
  have H4 := Lib.hid h4
  have hlt4 : t.size ≤ 4 := by omega
  have hge4 : 4 ≤ t.size := by omega
  clear h4 e4 hz
  go_enter Try.func22, Try.ntmps22
  go_wp2
  go_loop [3, 4] (fun n i => ∃ k : Nat, k ≤ 3 ∧ i = .int .i64 ((k : Int) + 1) ∧ allDigB 8 ((rest1 t).take k) = true ∧ n = .int .i64 (dnumB 8 ((rest1 t).take k))) (fun _ i => 4 - (intOf i).toNat)
  case atStart => exact ⟨0, by omega, rfl, rfl, rfl⟩
  case round =>
    obtain ⟨k, hk, rfl, hd, rfl⟩ := hrel
    have hlt := dnumB_le12 8 (by omega) (by omega) ((rest1 t).take k) (by simp [rest1_len]; omega) hd
    by_cases h1 : k < 3
    · have hk4 : k + 1 < t.size := by omega
      have hb := hbytes (k + 1) hk4
      have hsn := drop_take_snoc t k hk4
      have HA := Lib.hid (allDigB_snoc 8 ((rest1 t).take k) t[k + 1])
      have HN := Lib.hid (dnumB_snoc 8 ((rest1 t).take k) t[k + 1])
      rw [← hsn] at HA HN
      have HD := Lib.hid hd
      clear hd hsn
      have hix : ((k : Int) + 1) < t.size := by omega
      have htn : ((k : Int) + 1).toNat = k + 1 := by omega
      by_cases h2 : isDigB 8 t[k + 1] = true
      · have hc := (isDigB_iff _ _).1 h2
        have hin : inB (t[k + 1].toNat : Int) 48 55 = true := inB_t (by omega) (by omega)
        have hc1 : 48 ≤ (t[k + 1].toNat : Int) := by omega
        have hc2 : (t[k + 1].toNat : Int) ≤ 55 := by omega
        clear hc
        go_wp2_with (go_at_call 40; refine (specIn _ _ _ _).mono ?_; rintro e w' ⟨rfl, rfl⟩)
        go_round
        case rel => exact ⟨k + 1, by omega, by go_num, by rw [HA.out, HD.out, h2]; rfl, by rw [HN.out]; go_num⟩
        case measure => simp [intOf]; omega
      · have h3 : isDigB 8 t[k + 1] = false := by simpa using h2
        have hin : inB (t[k + 1].toNat : Int) 48 55 = false := inB_f (by intro h; exact h2 ((isDigB_iff _ _).2 (by omega)))
        have HL := Lib.hid (allDigB_take (k + 1) (by rw [HA.out, h3]; simp) : allDigB 8 (rest1 t) = false)
        clear h2 h3
        go_wp2_with (go_at_call 40; refine (specIn _ _ _ _).mono ?_; rintro e w' ⟨rfl, rfl⟩)
        go_ret
        exact ⟨ret_int (by unfold octVal; rw [HL.out]; simp), rfl⟩
    · obtain rfl : k = 3 := by omega
      have HT := Lib.hid (show (rest1 t).take 3 = rest1 t from List.take_of_length_le (by rw [rest1_len]; omega))
      have HD := Lib.hid hd
      clear hd
      go_wp2
      go_ret
      have hd := HD.out
      rw [HT.out] at hd
      exact ⟨ret_int (by unfold octVal; rw [HT.out, hd]; simp), rfl⟩

set_option maxHeartbeats 1000000 in
theorem specReadOct_3 (s t : ByteArray) (w : World) (h3 : s.size = 3) (ht : t.data.toList = 48 :: s.data.toList) :
    Calls Try.prog 22 #[.string s] w fun e w' => e = .returned (.int .i64 (octVal (rest1 t))) ∧ w = w' := by
  have h4 : t.size = 4 := by have := congrArg List.length ht; simp at this; omega
  have hp : 0 < t.size := by omega
  have hz : (t[0]'hp).toNat = 48 := by
    have : t[0]'hp = t.data.toList[0]'(by simp; omega) := rfl
    rw [this]; simp only [ht]; rfl
  have hts : t = (⟨#[48]⟩ : ByteArray) ++ s := by
    apply ByteArray.ext; apply Array.ext'; rw [ht]; simp
  have hadd : ∀ w, (Op.stringOp .add ⟨#[48]⟩ s).run Try.prog w = .ok (.string t) w := fun w => by
    rw [run_string_add_sum w _ _ (by rw [h3]; decide), ← hts]
  clear hts
  have hbytes := fun k h => byte_lt t k h
  have e4 : (t.size : Int) = 4 := by omega
  have hz1 : (((t[0]'hp).toNat : Int) != 48) = false := by simp [hz]
  have hz2 : ((s.size : Int) == 3) = true := by rw [h3]; rfl
  have hz3 : ((t.size : Int) != 4) = false := by rw [e4]; rfl
  have h0 : (0 : Int) < t.size := by omega
  have H4 := Lib.hid h4
  have hlt4 : t.size ≤ 4 := by omega
  have hge4 : 4 ≤ t.size := by omega
  clear h4 e4 hz h3 ht
  go_enter Try.func22, Try.ntmps22
  go_wp2
  go_loop [3, 4] (fun n i => ∃ k : Nat, k ≤ 3 ∧ i = .int .i64 ((k : Int) + 1) ∧ allDigB 8 ((rest1 t).take k) = true ∧ n = .int .i64 (dnumB 8 ((rest1 t).take k))) (fun _ i => 4 - (intOf i).toNat)
  case atStart => exact ⟨0, by omega, rfl, rfl, rfl⟩
  case round =>
    obtain ⟨k, hk, rfl, hd, rfl⟩ := hrel
    have hlt := dnumB_le12 8 (by omega) (by omega) ((rest1 t).take k) (by simp [rest1_len]; omega) hd
    by_cases h1 : k < 3
    · have hk4 : k + 1 < t.size := by omega
      have hb := hbytes (k + 1) hk4
      have hsn := drop_take_snoc t k hk4
      have HA := Lib.hid (allDigB_snoc 8 ((rest1 t).take k) t[k + 1])
      have HN := Lib.hid (dnumB_snoc 8 ((rest1 t).take k) t[k + 1])
      rw [← hsn] at HA HN
      have HD := Lib.hid hd
      clear hd hsn
      have hix : ((k : Int) + 1) < t.size := by omega
      have htn : ((k : Int) + 1).toNat = k + 1 := by omega
      by_cases h2 : isDigB 8 t[k + 1] = true
      · have hc := (isDigB_iff _ _).1 h2
        have hin : inB (t[k + 1].toNat : Int) 48 55 = true := inB_t (by omega) (by omega)
        have hc1 : 48 ≤ (t[k + 1].toNat : Int) := by omega
        have hc2 : (t[k + 1].toNat : Int) ≤ 55 := by omega
        clear hc
        go_wp2_with (go_at_call 40; refine (specIn _ _ _ _).mono ?_; rintro e w' ⟨rfl, rfl⟩)
        go_round
        case rel => exact ⟨k + 1, by omega, by go_num, by rw [HA.out, HD.out, h2]; rfl, by rw [HN.out]; go_num⟩
        case measure => simp [intOf]; omega
      · have h3 : isDigB 8 t[k + 1] = false := by simpa using h2
        have hin : inB (t[k + 1].toNat : Int) 48 55 = false := inB_f (by intro h; exact h2 ((isDigB_iff _ _).2 (by omega)))
        have HL := Lib.hid (allDigB_take (k + 1) (by rw [HA.out, h3]; simp) : allDigB 8 (rest1 t) = false)
        clear h2 h3
        go_wp2_with (go_at_call 40; refine (specIn _ _ _ _).mono ?_; rintro e w' ⟨rfl, rfl⟩)
        go_ret
        exact ⟨ret_int (by unfold octVal; rw [HL.out]; simp), rfl⟩
    · obtain rfl : k = 3 := by omega
      have HT := Lib.hid (show (rest1 t).take 3 = rest1 t from List.take_of_length_le (by rw [rest1_len]; omega))
      have HD := Lib.hid hd
      clear hd
      go_wp2
      go_ret
      have hd := HD.out
      rw [HT.out] at hd
      exact ⟨ret_int (by unfold octVal; rw [HT.out, hd]; simp), rfl⟩

theorem specReadOct (s : ByteArray) (w : World) (hs : s.size ≤ maxLen) :
    Calls Try.prog 22 #[.string s] w fun e w' => e = .returned (.int .i64 (readOctV s.data.toList)) ∧ w = w' := by
  unfold maxLen at hs
  have hl : s.data.toList.length = s.size := by simp
  by_cases h3 : s.size = 3
  · rw [show readOctV s.data.toList = octVal (rest1 (strOf (48 :: s.data.toList))) by unfold readOctV rest1; rw [if_pos (by omega), strOf_data]; rfl]
    exact specReadOct_3 s _ w h3 (strOf_data _)
  · by_cases h4 : s.size = 4
    · have hp : 0 < s.size := by omega
      by_cases hz : (s[0]'hp).toNat = 48
      · rw [show readOctV s.data.toList = octVal (rest1 s) by unfold readOctV rest1; rw [if_neg (by omega), if_pos ⟨by omega, (head_nought s (by omega)).2 hz⟩]]
        exact specReadOct_4 s w hp h4 hz
      · rw [show readOctV s.data.toList = -1 by unfold readOctV; rw [if_neg (by omega), if_neg (by intro h; exact hz ((head_nought s (by omega)).1 h.2))]]
        have hz1 : (((s[0]'hp).toNat : Int) != 48) = true := by simp; omega
        have hz2 : ((s.size : Int) == 3) = false := by simp; omega
        have hz3 : ((s.size : Int) != 4) = false := by simp; omega
        have h0 : (0 : Int) < s.size := by omega
        clear hz h4 h3 hl
        go_enter Try.func22, Try.ntmps22
        go_wp2
        go_ret
        exact ⟨rfl, rfl⟩
    · rw [show readOctV s.data.toList = -1 by unfold readOctV; rw [if_neg (by omega), if_neg (by omega)]]
      have hz2 : ((s.size : Int) == 3) = false := by simp; omega
      have hz3 : ((s.size : Int) != 4) = true := by simp; omega
      clear h4 h3 hl
      go_enter Try.func22, Try.ntmps22
      go_wp2
      go_ret
      exact ⟨rfl, rfl⟩

theorem octVal_digits (s : ByteArray) : digitsVal 8 s = octVal s.data.toList := rfl

theorem implReadOct (s : ByteArray) (w : World) (hs : s.size ≤ maxLen) :
    Calls Try.prog 23 #[.string s] w fun e w' => e = .returned (.int .i64 (readOctV s.data.toList)) ∧ Below w.heap.size w w' := by
  unfold maxLen at hs
  have hl : s.data.toList.length = s.size := by simp
  by_cases h3 : s.size = 3
  · rw [show readOctV s.data.toList = digitsVal 8 s by unfold readOctV; rw [if_pos (by omega)]; rfl]
    have hz2 : ((s.size : Int) == 4) = false := by simp; omega
    have hz3 : ((s.size : Int) != 3) = false := by simp; omega
    have h12 : s.size ≤ 12 := by omega
    clear h3 hl
    go_enter Try.func23, Try.ntmps23
    go_wp2_with (go_at_call 39; refine (readDigits _ 8 _ (by omega) (by omega) (by omega)).mono ?_; rintro e w' ⟨rfl, pos, rfl⟩)
    go_ret
    exact ⟨rfl, below_iter (Below.refl _ _) (Nat.le_refl _) _ _⟩
  · by_cases h4 : s.size = 4
    · have hz2 : ((s.size : Int) == 4) = true := by simp; omega
      have h0 : (0 : Int) < s.size := by omega
      have hp : 0 < s.size := by omega
      by_cases hz : (s[0]'hp).toNat = 48
      · obtain ⟨t, ht⟩ : ∃ t, t = s.extract 1 s.size := ⟨_, rfl⟩
        have htl : t.data.toList = s.data.toList.drop 1 := by rw [ht, Lib.extract_data]; exact List.take_of_length_le (by simp)
        have ht3 : t.size = 3 := by have := congrArg List.length htl; simp at this; omega
        rw [show readOctV s.data.toList = digitsVal 8 t by unfold readOctV; rw [if_neg (by omega), if_pos ⟨by omega, (head_nought s (by omega)).2 hz⟩, octVal_digits, htl]]
        have hcut : ∀ w, (Instr.slice 9 (.string s) (some (.int .i64 1)) none none).run Try.prog w = .ok (.string t) w := fun w => by
          rw [ht, run_slice_string_l (w := w) (t := 9) (s := s) (kl := .i64) (l := 1) (ht := Try.underlying9) (h0 := by omega) (h1 := by omega)]; rfl
        have hz1 : (((s[0]'hp).toNat : Int) == 48) = true := by simp [hz]
        have hz3 : ((t.size : Int) != 3) = false := by simp; omega
        have h12 : t.size ≤ 12 := by omega
        clear hz h4 h3 hl ht htl ht3
        go_enter Try.func23, Try.ntmps23
        go_wp2_with (go_at_call 39; refine (readDigits _ 8 _ (by omega) (by omega) (by omega)).mono ?_; rintro e w' ⟨rfl, pos, rfl⟩)
        go_ret
        exact ⟨rfl, below_iter (Below.refl _ _) (Nat.le_refl _) _ _⟩
      · rw [show readOctV s.data.toList = -1 by unfold readOctV; rw [if_neg (by omega), if_neg (by intro h; exact hz ((head_nought s (by omega)).1 h.2))]]
        have hz1 : (((s[0]'hp).toNat : Int) == 48) = false := by simp; omega
        have hz3 : ((s.size : Int) != 3) = true := by simp; omega
        clear hz h4 h3 hl
        go_enter Try.func23, Try.ntmps23
        go_wp2
        go_ret
        exact ⟨rfl, Below.refl _ _⟩
    · rw [show readOctV s.data.toList = -1 by unfold readOctV; rw [if_neg (by omega), if_neg (by omega)]]
      have hz2 : ((s.size : Int) == 4) = false := by simp; omega
      have hz3 : ((s.size : Int) != 3) = true := by simp; omega
      clear h4 h3 hl
      go_enter Try.func23, Try.ntmps23
      go_wp2
      go_ret
      exact ⟨rfl, Below.refl _ _⟩
end Go.Proofs.Ytlkmpmlcjiiboaa
