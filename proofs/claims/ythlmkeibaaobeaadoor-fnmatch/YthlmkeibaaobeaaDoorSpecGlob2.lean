/- The contract of spec.PatternOk. -/
import Derived.Test.YthlmkeibaaobeaaDoorSpecGlob
namespace Go.Proofs.YthlmkeibaaobeaaDoor
open Go.RowKit

theorem restB_go {l : List UInt8} {c : UInt8} {r : List UInt8} (hd : l = c :: r) (h1 : c.toNat ≠ 91) (h2 : c.toNat ≠ 92) (h : okP c = true) : restB l = restB r := by
  subst hd
  have g1 : c ≠ 91 := fun e => h1 (by rw [e]; rfl)
  have g2 : c ≠ 92 := fun e => h2 (by rw [e]; rfl)
  obtain ⟨p, hp⟩ : ∃ p, pieceL (c :: r) = some (p, 1) := by
    by_cases h3 : c = 42
    · subst h3; exact ⟨_, rfl⟩
    by_cases h4 : c = 63
    · subst h4; exact ⟨_, rfl⟩
    exact ⟨_, pieceL_sign r h3 h4 g1 g2⟩
  rw [restB_some hp]
  simp [h]
theorem restB_esc {l : List UInt8} {d : UInt8} {r : List UInt8} (hd : l = 92 :: d :: r) : restB l = (okP d && restB r) := by
  subst hd
  rw [restB_some (pieceL_esc d r)]
  simp [show okP 92 = true from rfl]
theorem restB_last {l : List UInt8} (hd : l = [92]) : restB l = false := restB_none (by rw [hd]; simp) (by rw [hd]; rfl)
theorem setO_none {l : List UInt8} {k : Nat} (hd : l.drop k = 91 :: l.drop (k + 1)) (h : setO l k = none) : pieceL (l.drop k) = none := by
  unfold setO at h
  rw [hd, pieceL_set, setB_eq, List.drop_drop]
  rw [Option.map_eq_none_iff] at h ⊢
  exact h
theorem setO_some {l : List UInt8} {k e : Nat} (hd : l.drop k = 91 :: l.drop (k + 1)) (h : setO l k = some e) : ∃ m, endL true (l.drop (k + 1 + setN (l.drop (k + 1)))) = some m ∧ e = m + (k + 1 + setN (l.drop (k + 1))) ∧ pieceL (l.drop k) = some (.set (headIs 33 (l.drop (k + 1))) (bodyL ((l.drop (k + 1 + setN (l.drop (k + 1)))).take m)), e + 1 - k) ∧ e < l.length ∧ l[e]? = some 93 ∧ k < e := by
  unfold setO at h
  obtain ⟨m, hm, he⟩ := Option.map_eq_some_iff.1 h
  obtain ⟨g1, g2, g3⟩ := endL_facts _ _ _ _ (Nat.le_refl _) hm
  refine ⟨m, hm, he.symm, ?_, ?_, ?_, by omega⟩
  · rw [hd, pieceL_set, setB_eq, List.drop_drop, hm]
    simp only [Option.map_some]
    rw [show m + setN (l.drop (k + 1)) + 2 = e + 1 - k by omega]
  · rw [List.length_drop] at g1; omega
  · rw [List.getElem?_drop] at g2
    rw [← g2]; congr 1; omega
theorem all_more {l : List UInt8} {k j : Nat} {c : UInt8} (h : ((l.drop k).take (j - k)).all okP = true) (hk : k ≤ j) (hc : l[j]? = some c) : ((l.drop k).take (j + 1 - k)).all okP = okP c := by
  have e : (l.drop k)[j - k]? = some c := by rw [List.getElem?_drop, show k + (j - k) = j by omega]; exact hc
  obtain ⟨e1, e2⟩ := List.getElem?_eq_some_iff.1 e
  rw [show j + 1 - k = (j - k) + 1 by omega, List.take_succ_eq_append_getElem e1, List.all_append, h, e2]
  simp
theorem all_short {l : List UInt8} {n m : Nat} (hnm : n ≤ m) (h : (l.take n).all okP = false) : (l.take m).all okP = false := by
  rw [show m = n + (m - n) by omega, List.take_add, List.all_append, h]; rfl
theorem patB_eq (s : ByteArray) (h : s.size ≤ 60) : patB s.data.toList = restB s.data.toList := by
  unfold patB restB
  rw [show decide (s.data.toList.length ≤ 60) = true from decide_eq_true (by simpa using h)]; simp
theorem patB_long (s : ByteArray) (h : ¬ s.size ≤ 60) : patB s.data.toList = false := by
  unfold patB
  rw [show decide (s.data.toList.length ≤ 60) = false from decide_eq_false (by simpa using h)]; simp

set_option maxRecDepth 100000 in
set_option maxHeartbeats 8000000 in
theorem specPatternOk (s : ByteArray) (hm : s.size ≤ maxLen) (w : World) :
    Calls Tryd.prog 10 #[.string s] w fun e w' => e = .returned (.bool (patB s.data.toList)) ∧ w = w' := by
  unfold maxLen at hm
  by_cases hs : s.size ≤ 60
  rotate_left
  · have hsi : ¬ (s.size : Int) ≤ 60 := by omega
    have HP := Lib.hid (patB_long s hs)
    clear hs
    go_enter Tryd.func10, Tryd.ntmps10
    go_wp2
    go_ret
    exact ⟨ret_bool HP.out.symm, rfl⟩
  obtain ⟨T, hT⟩ : ∃ T, patB s.data.toList = T := ⟨_, rfl⟩
  rw [hT]
  have HT := Lib.hid (hT.symm.trans (patB_eq s hs))
  have hsi : (s.size : Int) ≤ 60 := by omega
  clear hT
  go_enter Tryd.func10, Tryd.ntmps10
  go_wp2
  go_loop [3, 4, 5] (fun iv _ _ => ∃ k : Nat, iv = .int .i64 k ∧ k ≤ s.size ∧ Hid (T = restB (s.data.toList.drop k))) (fun iv _ _ => s.size - (intOf iv).toNat)
  case atStart => exact ⟨0, rfl, Nat.zero_le _, Lib.hid (by rw [List.drop_zero, HT.out])⟩
  case round =>
    clear HT
    obtain ⟨k, rfl, hk, HR⟩ := hrel
    by_cases h3 : k < s.size
    rotate_left
    · have HE := Lib.hid (show T = true by rw [HR.out, drop_end s k h3]; rfl)
      have h3i : ¬ (k : Int) < (s.size : Int) := by omega
      go_wp2
      go_ret
      exact ⟨ret_bool HE.out.symm, rfl⟩
    have HD := Lib.hid (drop_one _ (at_byte s k h3))
    have h3i : (k : Int) < (s.size : Int) := by omega
    obtain ⟨x, hx⟩ : ∃ x : UInt8, s[k] = x := ⟨_, rfl⟩
    rw [hx] at HD
    by_cases h4 : x.toNat = 47
    · have c1 : ((x.toNat : Int) == 47) = true := byte_t h4
      have HE := Lib.hid (show T = false by rw [HR.out]; exact restB_bad HD.out (okP_f (.inl h4)))
      clear h4 HR
      go_wp2
      go_ret
      exact ⟨ret_bool HE.out.symm, rfl⟩
    have c1 : ((x.toNat : Int) == 47) = false := byte_f h4
    by_cases h5 : x.toNat = 10
    · have c2 : ((x.toNat : Int) == 10) = true := byte_t h5
      have HE := Lib.hid (show T = false by rw [HR.out]; exact restB_bad HD.out (okP_f (.inr h5)))
      clear h4 h5 HR
      go_wp2
      go_ret
      exact ⟨ret_bool HE.out.symm, rfl⟩
    have c2 : ((x.toNat : Int) == 10) = false := byte_f h5
    have HOK := Lib.hid (okP_t h4 h5)
    clear h4 h5
    by_cases h6 : x.toNat = 92
    · have c3 : ((x.toNat : Int) == 92) = true := byte_t h6
      rw [u8_is (c := 92) h6] at HD
      clear h6
      by_cases h7 : k + 1 < s.size
      · have h7i : (k : Int) + 1 < (s.size : Int) := by omega
        have h7e : (((k : Int) + 1) == (s.size : Int)) = false := by simp; omega
        have HD2 := Lib.hid (drop_one _ (at_byte s (k + 1) h7))
        obtain ⟨y, hy⟩ : ∃ y : UInt8, s[k + 1] = y := ⟨_, rfl⟩
        rw [hy] at HD2
        have HQ := Lib.hid (show T = (okP y && restB (s.data.toList.drop (k + 2))) by rw [HR.out]; exact restB_esc (by rw [HD.out, HD2.out]))
        by_cases g4 : y.toNat = 47
        · have d1 : ((y.toNat : Int) == 47) = true := byte_t g4
          have HE := Lib.hid (show T = false by rw [HQ.out, okP_f (.inl g4)]; rfl)
          clear g4 HR
          go_wp2
          go_ret
          exact ⟨ret_bool HE.out.symm, rfl⟩
        have d1 : ((y.toNat : Int) == 47) = false := byte_f g4
        by_cases g5 : y.toNat = 10
        · have d2 : ((y.toNat : Int) == 10) = true := byte_t g5
          have HE := Lib.hid (show T = false by rw [HQ.out, okP_f (.inr g5)]; rfl)
          clear g4 g5 HR
          go_wp2
          go_ret
          exact ⟨ret_bool HE.out.symm, rfl⟩
        have d2 : ((y.toNat : Int) == 10) = false := byte_f g5
        have HE := Lib.hid (show T = restB (s.data.toList.drop (k + 2)) by rw [HQ.out, okP_t g4 g5]; rfl)
        clear g4 g5 HR
        go_wp2
        go_round
        case rel => exact ⟨k + 2, by go_num, by omega, HE⟩
        case measure => simp [intOf]; omega
      · have h7e : (((k : Int) + 1) == (s.size : Int)) = true := by simp; omega
        have HE := Lib.hid (show T = false by rw [HR.out]; exact restB_last (by rw [HD.out, drop_end s (k + 1) h7]))
        clear HR
        go_wp2
        go_ret
        exact ⟨ret_bool HE.out.symm, rfl⟩
    have c3 : ((x.toNat : Int) == 92) = false := byte_f h6
    by_cases h8 : x.toNat = 91
    rotate_left
    · have c4 : ((x.toNat : Int) == 91) = false := byte_f h8
      have HE := Lib.hid (show T = restB (s.data.toList.drop (k + 1)) by rw [HR.out]; exact restB_go HD.out h8 h6 HOK.out)
      clear h6 h8 HR
      go_wp2
      go_round
      case rel => exact ⟨k + 1, by go_num, by omega, HE⟩
      case measure => simp [intOf]; omega
    have c4 : ((x.toNat : Int) == 91) = true := byte_t h8
    rw [u8_is (c := 91) h8] at HD
    clear h6 h8
    have CS := Lib.hid (fun W => specSet_loop s k h3 hs W)
    cases hO : setO s.data.toList k with
    | none =>
      have HE := Lib.hid (show T = false by rw [HR.out]; exact restB_none (by rw [HD.out]; simp) (setO_none HD.out hO))
      rw [hO] at CS
      have CS2 := Lib.hid (show ∀ W : World, Calls Tryd.prog 24 #[.string s, .int .i64 k] W fun e w' => e = .returned (.int .i64 (-1)) ∧ W = w' from CS.out)
      clear CS hO HR
      go_wp2_with fail
      refine (CS2.out _).mono ?_
      rintro e W1 ⟨rfl, rfl⟩
      go_wp2
      go_ret
      exact ⟨ret_bool HE.out.symm, rfl⟩
    | some e0 =>
      obtain ⟨m, hm1, hm2, hp, he1, he2, he3⟩ := setO_some HD.out hO
      have he4 : e0 < s.size := by simpa using he1
      have he4i : (e0 : Int) < (s.size : Int) := by omega
      have he3i : (k : Int) < (e0 : Int) := by omega
      have HQ := Lib.hid (show T = (((s.data.toList.drop k).take (e0 + 1 - k)).all okP && restB (s.data.toList.drop (e0 + 1))) by
        rw [HR.out, restB_some hp, List.drop_drop, show k + (e0 + 1 - k) = e0 + 1 by omega])
      have HE2 := Lib.hid he2
      rw [hO] at CS
      have CS2 := Lib.hid (show ∀ W : World, Calls Tryd.prog 24 #[.string s, .int .i64 k] W fun e w' => e = .returned (.int .i64 e0) ∧ W = w' from CS.out)
      clear CS hO HR hm1 hm2 hp he1 he2 HOK
      go_wp2_with fail
      refine (CS2.out _).mono ?_
      rintro e W1 ⟨rfl, rfl⟩
      go_wp2
      go_loop [5] (fun jv => ∃ j : Nat, jv = .int .i64 j ∧ k ≤ j ∧ j ≤ e0 ∧ Hid (((s.data.toList.drop k).take (j - k)).all okP = true)) (fun jv => e0 - (intOf jv).toNat)
      case atStart => exact ⟨k, rfl, Nat.le_refl _, by omega, Lib.hid (by simp)⟩
      case round =>
        obtain ⟨j, rfl, hj1, hj2, HJ⟩ := hrel
        by_cases hj3 : j < e0
        · have hj3i : (j : Int) < (e0 : Int) := by omega
          have hj4 : j < s.size := by omega
          have hj4i : (j : Int) < (s.size : Int) := by omega
          have HA := Lib.hid (fun c hc => all_more HJ.out hj1 (c := c) hc)
          have hat := Lib.hid (at_byte s j hj4)
          obtain ⟨y, hy⟩ : ∃ y : UInt8, s[j] = y := ⟨_, rfl⟩
          rw [hy] at hat
          by_cases g4 : y.toNat = 47
          · have d1 : ((y.toNat : Int) == 47) = true := byte_t g4
            have HE := Lib.hid (show T = false by rw [HQ.out, all_short (n := j + 1 - k) (by omega) (by rw [HA.out y hat.out]; exact okP_f (.inl g4))]; rfl)
            clear g4
            go_wp2
            go_ret
            exact ⟨ret_bool HE.out.symm, rfl⟩
          have d1 : ((y.toNat : Int) == 47) = false := byte_f g4
          by_cases g5 : y.toNat = 10
          · have d2 : ((y.toNat : Int) == 10) = true := byte_t g5
            have HE := Lib.hid (show T = false by rw [HQ.out, all_short (n := j + 1 - k) (by omega) (by rw [HA.out y hat.out]; exact okP_f (.inr g5))]; rfl)
            clear g4 g5
            go_wp2
            go_ret
            exact ⟨ret_bool HE.out.symm, rfl⟩
          have d2 : ((y.toNat : Int) == 10) = false := byte_f g5
          have HE := Lib.hid (show ((s.data.toList.drop k).take (j + 1 - k)).all okP = true by rw [HA.out y hat.out]; exact okP_t g4 g5)
          clear g4 g5
          go_wp2
          go_round
          case rel => exact ⟨j + 1, by go_num, by omega, by omega, HE⟩
          case measure => simp [intOf]; omega
        · have hj3i : ¬ (j : Int) < (e0 : Int) := by omega
          have HE := Lib.hid (show T = restB (s.data.toList.drop (e0 + 1)) by
            rw [HQ.out, show e0 = j by omega, all_more HJ.out hj1 (c := 93) (by rw [show j = e0 by omega]; exact HE2.out)]; rfl)
          go_wp2
          go_round
          case rel => exact ⟨e0 + 1, by go_num, by omega, HE⟩
          case measure => simp [intOf]; omega
end Go.Proofs.YthlmkeibaaobeaaDoor
