/- The contract of impl.SizeOf. -/
import Derived.Test.YtbikcldkaogfmaaDoorSize
namespace Go.Proofs.YtbikcldkaogfmaaDoor
open Go.RowKit

theorem rst_list (s : ByteArray) (h : 1 ≤ lead s.data.toList ∧ lead s.data.toList ≤ 9) : (rstV s).toList = s.data.toList.drop (lead s.data.toList) := by
  unfold rstV; rw [if_pos h, Lib.toList_data, Lib.extract_data]; exact List.take_of_length_le (by simp)
theorem strOf_of {s : ByteArray} {l : List UInt8} (h : s.toList = l) : s = strOf l := by
  rw [← h, Lib.toList_data]; rfl
set_option maxHeartbeats 4000000 in
theorem implSizeOf (s : ByteArray) (w : World) (hs : s.size ≤ maxLen) :
    Calls Tryd.prog 21 #[.string s] w fun e w' => e = .returned (.int .i64 (sizeV s.data.toList)) ∧ Below w.heap.size w w' := by
  rw [← size_one]
  have CR := Lib.hid (fun W => implReadCount s W hs)
  by_cases h : 1 ≤ lead s.data.toList ∧ lead s.data.toList ≤ 9
  · have hr := rst_list s h
    have hcv : cntV s = (dnum (s.data.toList.take (lead s.data.toList)) : Int) := if_pos h
    have hlt : (dnum (s.data.toList.take (lead s.data.toList)) : Int) < 1000000000 := by
      have := dnum_lt _ _ rfl (lead_all s.data.toList)
      have h2 : 10 ^ (s.data.toList.take (lead s.data.toList)).length ≤ 10 ^ 9 := Nat.pow_le_pow_right (by decide) (by simp; omega)
      omega
    unfold sizeI
    rw [if_pos h]
    have hge : (0 : Int) ≤ (dnum (s.data.toList.take (lead s.data.toList)) : Int) := by omega
    obtain ⟨q, hq⟩ : ∃ q : Int, (dnum (s.data.toList.take (lead s.data.toList)) : Int) = q := ⟨_, rfl⟩
    rw [hq] at hcv hlt hge ⊢
    have HC := Lib.hid hcv
    obtain ⟨r, hrr⟩ : ∃ r, rstV s = r := ⟨_, rfl⟩
    rw [hrr] at hr
    have HR := Lib.hid hrr
    clear hcv hrr hq h
    rcases hl : s.data.toList.drop (lead s.data.toList) with _ | ⟨c, _ | ⟨d, t⟩⟩
    · rw [hl] at hr
      clear hl
      simp only
      go_enter Tryd.func21, Tryd.ntmps21
      go_wp2_with fail
      refine (CR.out _).mono ?_
      rw [HC.out, HR.out]
      rintro e w' ⟨rfl, hb⟩
      go_wp2
      go_ret
      exact ⟨ret_int (by omega), hb⟩
    · rw [hl] at hr
      clear hl
      simp only
      by_cases k1 : c = 107
      · subst k1
        rw [show mulB 107 = 1024 from rfl, if_neg (by decide)]
        go_enter Tryd.func21, Tryd.ntmps21
        go_wp2_with fail
        refine (CR.out _).mono ?_
        rw [HC.out, HR.out]
        rintro e w' ⟨rfl, hb⟩
        go_wp2
        go_ret
        exact ⟨ret_int (by omega), hb⟩
      · by_cases k2 : c = 77
        · subst k2
          rw [show mulB 77 = 1048576 from rfl, if_neg (by decide)]
          go_enter Tryd.func21, Tryd.ntmps21
          go_wp2_with fail
          refine (CR.out _).mono ?_
          rw [HC.out, HR.out]
          rintro e w' ⟨rfl, hb⟩
          go_wp2
          go_ret
          exact ⟨ret_int (by omega), hb⟩
        · by_cases k3 : c = 71
          · subst k3
            rw [show mulB 71 = 1073741824 from rfl, if_neg (by decide)]
            go_enter Tryd.func21, Tryd.ntmps21
            go_wp2_with fail
            refine (CR.out _).mono ?_
            rw [HC.out, HR.out]
            rintro e w' ⟨rfl, hb⟩
            go_wp2
            go_ret
            exact ⟨ret_int (by omega), hb⟩
          · have hm : mulB c = 1 := by unfold mulB; rw [if_neg k1, if_neg k2, if_neg k3]
            rw [if_pos hm]
            have e1 : (c == 107) = false := by simpa using k1
            have e2 : (c == 77) = false := by simpa using k2
            have e3 : (c == 71) = false := by simpa using k3
            clear hm
            go_enter Tryd.func21, Tryd.ntmps21
            go_wp2_with fail
            refine (CR.out _).mono ?_
            rw [HC.out, HR.out]
            rintro e w' ⟨rfl, hb⟩
            go_wp2
            go_ret
            exact ⟨ret_int (by omega), hb⟩
    · rw [hl] at hr
      clear hl
      simp only
      go_enter Tryd.func21, Tryd.ntmps21
      go_wp2_with fail
      refine (CR.out _).mono ?_
      rw [HC.out, HR.out]
      rintro e w' ⟨rfl, hb⟩
      go_wp2
      go_ret
      exact ⟨ret_int (by omega), hb⟩
  · have HC := Lib.hid (show cntV s = -1 from if_neg h)
    rw [show sizeI s.data.toList = -1 from if_neg h]
    clear h
    go_enter Tryd.func21, Tryd.ntmps21
    go_wp2_with (go_at_call 49; refine (CR.out _).mono ?_; rw [HC.out]; rintro e w' ⟨rfl, hb⟩)
    go_ret
    exact ⟨rfl, hb⟩
end Go.Proofs.YtbikcldkaogfmaaDoor
