/- The contract of spec.NameOk. -/
import Derived.Test.YtipepbnmllbonaaDoorText1
import Derived.Test.YtipepbnmllbonaaDoorPaths
import Derived.Lib.SlicesS
namespace Go.Proofs.YtipepbnmllbonaaDoor
open Go.RowKit

theorem okB_iff (c : UInt8) : okB c = true ↔ c.toNat ≠ 47 ∧ c.toNat ≠ 10 ∧ c.toNat ≠ 0 ∧ c.toNat ≠ 34 := by
  unfold okB
  simp only [Bool.not_eq_true', Bool.or_eq_false_iff, beq_eq_false_iff_ne, ne_eq, ← UInt8.toNat_inj]
  constructor
  · rintro ⟨⟨⟨h1, h2⟩, h3⟩, h4⟩; exact ⟨h1, h2, h3, h4⟩
  · rintro ⟨h1, h2, h3, h4⟩; exact ⟨⟨⟨h1, h2⟩, h3⟩, h4⟩
theorem nameB_eq (s : ByteArray) : nameB s.data.toList = (inB s.size 1 40 && !(s.data.toList == [46]) && !(s.data.toList == [46, 46]) && s.data.toList.all okB) := by
  unfold nameB inB
  have e : s.data.toList.length = s.size := by simp
  rw [e]
  congr 3
  congr 1 <;> exact decide_eq_decide.2 (by omega)
theorem lit_eq (s : ByteArray) (l : List UInt8) : (s.toList == l) = (s.data.toList == l) := by rw [Lib.toList_data]
theorem all_take {l : List UInt8} {p : UInt8 → Bool} (k : Nat) (h : (l.take k).all p = false) : l.all p = false := by
  rw [← List.take_append_drop k l, List.all_append, h]; rfl
theorem all_snoc (s : ByteArray) (k : Nat) (h : k < s.size) : (s.data.toList.take (k + 1)).all okB = ((s.data.toList.take k).all okB && okB s[k]) := by
  rw [take_snoc s k h, List.all_append]; simp

set_option maxHeartbeats 1000000 in
theorem specNameOk (s : ByteArray) (w : World) :
    Calls Tryd.prog 51 #[.string s] w fun e w' => e = .returned (.bool (nameB s.data.toList)) ∧ w = w' := by
  by_cases hin : inB s.size 1 40 = true
  rotate_left
  · have hf : inB s.size 1 40 = false := by simpa using hin
    go_enter Tryd.func51, Tryd.ntmps51
    go_wp2_with (go_at_call 17; refine (specIn _ _ _ _).mono ?_; rintro e w' ⟨rfl, rfl⟩)
    go_ret
    exact ⟨ret_bool (by rw [nameB_eq, hf]; rfl), rfl⟩
  by_cases h1 : (s.data.toList == [46]) = true
  · have h1' : (s.toList == [46]) = true := by rw [lit_eq]; exact h1
    have H1 := Lib.hid h1
    clear h1
    go_enter Tryd.func51, Tryd.ntmps51
    go_wp2_with (go_at_call 17; refine (specIn _ _ _ _).mono ?_; rintro e w' ⟨rfl, rfl⟩)
    go_ret
    exact ⟨ret_bool (by rw [nameB_eq, H1.out]; simp), rfl⟩
  have h1f : (s.data.toList == [46]) = false := by simpa using h1
  have h1' : (s.toList == [46]) = false := by rw [lit_eq]; exact h1f
  have H1 := Lib.hid h1f
  clear h1 h1f
  by_cases h2 : (s.data.toList == [46, 46]) = true
  · have h2' : (s.toList == [46, 46]) = true := by rw [lit_eq]; exact h2
    have H2 := Lib.hid h2
    clear h2
    go_enter Tryd.func51, Tryd.ntmps51
    go_wp2_with (go_at_call 17; refine (specIn _ _ _ _).mono ?_; rintro e w' ⟨rfl, rfl⟩)
    go_ret
    exact ⟨ret_bool (by rw [nameB_eq, H2.out]; simp), rfl⟩
  have h2f : (s.data.toList == [46, 46]) = false := by simpa using h2
  have h2' : (s.toList == [46, 46]) = false := by rw [lit_eq]; exact h2f
  have H2 := Lib.hid h2f
  clear h2 h2f
  have hs : s.size ≤ 40 := by have := hin; simp [inB] at this; omega
  go_enter Tryd.func51, Tryd.ntmps51
  go_wp2_with (go_at_call 17; refine (specIn _ _ _ _).mono ?_; rintro e w' ⟨rfl, rfl⟩)
  go_loop [3] (fun i => ∃ k : Nat, k ≤ s.size ∧ i = .int .i64 k ∧ (s.data.toList.take k).all okB = true) (fun i => s.size - (intOf i).toNat)
  case atStart => exact ⟨0, Nat.zero_le _, rfl, rfl⟩
  case round =>
    obtain ⟨k, hk, rfl, hd⟩ := hrel
    have HD := Lib.hid hd
    clear hd
    by_cases h1 : k < s.size
    · have HA := Lib.hid (all_snoc s k h1)
      have hki : (k : Int) < (s.size : Int) := by omega
      by_cases h5 : okB s[k] = true
      · obtain ⟨b1, b2, b3, b4⟩ := (okB_iff _).1 h5
        have c1 : ((s[k].toNat : Int) == 47) = false := by simp; omega
        have c2 : ((s[k].toNat : Int) == 10) = false := by simp; omega
        have c3 : ((s[k].toNat : Int) == 0) = false := by simp; omega
        have c4 : ((s[k].toNat : Int) == 34) = false := by simp; omega
        have H5 := Lib.hid h5
        clear b1 b2 b3 b4 h5
        go_wp2
        go_round
        case rel => exact ⟨k + 1, by omega, by go_num, by rw [HA.out, HD.out, H5.out]; rfl⟩
        case measure => simp [intOf]; omega
      · have HL := Lib.hid (all_take (k + 1) (by rw [HA.out]; simp [h5]) : s.data.toList.all okB = false)
        have h6 : ¬ (s[k].toNat ≠ 47 ∧ s[k].toNat ≠ 10 ∧ s[k].toNat ≠ 0 ∧ s[k].toNat ≠ 34) := fun h => h5 ((okB_iff _).2 h)
        clear h5
        by_cases d1 : s[k].toNat = 47
        · have c1 : ((s[k].toNat : Int) == 47) = true := by simp; omega
          clear h6 d1
          go_wp2
          go_ret
          exact ⟨ret_bool (by rw [nameB_eq, HL.out]; simp), rfl⟩
        have c1 : ((s[k].toNat : Int) == 47) = false := by simp; omega
        by_cases d2 : s[k].toNat = 10
        · have c2 : ((s[k].toNat : Int) == 10) = true := by simp; omega
          clear h6 d1 d2
          go_wp2
          go_ret
          exact ⟨ret_bool (by rw [nameB_eq, HL.out]; simp), rfl⟩
        have c2 : ((s[k].toNat : Int) == 10) = false := by simp; omega
        by_cases d3 : s[k].toNat = 0
        · have c3 : ((s[k].toNat : Int) == 0) = true := by simp; omega
          clear h6 d1 d2 d3
          go_wp2
          go_ret
          exact ⟨ret_bool (by rw [nameB_eq, HL.out]; simp), rfl⟩
        have c3 : ((s[k].toNat : Int) == 0) = false := by simp; omega
        have c4 : ((s[k].toNat : Int) == 34) = true := by simp; omega
        clear h6 d1 d2 d3
        go_wp2
        go_ret
        exact ⟨ret_bool (by rw [nameB_eq, HL.out]; simp), rfl⟩
    · have HT := Lib.hid (take_all s k (by omega))
      go_wp2
      go_ret
      have hd := HD.out
      rw [HT.out] at hd
      exact ⟨ret_bool (by rw [nameB_eq, hin, H1.out, H2.out, hd]; rfl), rfl⟩
end Go.Proofs.YtipepbnmllbonaaDoor
