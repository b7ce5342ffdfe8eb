/- Contracts of impl.Before and spec.Before: both tell the byte order of two texts. -/
import Derived.Test.YtipepbnmllbonaaDoorBase
namespace Go.Proofs.YtipepbnmllbonaaDoor
open Go.RowKit

theorem implBefore (a b : ByteArray) (w : World) :
    Calls Tryd.prog 24 #[.string a, .string b] w fun e w' => e = .returned (.bool (Op.bytesLess a.toList b.toList)) ∧ w = w' := by
  go_enter Tryd.func24, Tryd.ntmps24
  go_wp2
  go_ret
  exact ⟨rfl, rfl⟩

theorem less_step (a b : ByteArray) (k : Nat) (ha : k < a.size) (hb : k < b.size) :
    Op.bytesLess (a.data.toList.drop k) (b.data.toList.drop k) = (decide (a[k] < b[k]) || (a[k] == b[k] && Op.bytesLess (a.data.toList.drop (k+1)) (b.data.toList.drop (k+1)))) := by
  rw [List.drop_eq_getElem_cons (by simpa using ha), List.drop_eq_getElem_cons (i := k) (l := b.data.toList) (by simpa using hb)]
  rfl

theorem less_end (a b : ByteArray) (k : Nat) (h : ¬ (k < a.size ∧ k < b.size)) (ha : k ≤ a.size) (hb : k ≤ b.size) :
    Op.bytesLess (a.data.toList.drop k) (b.data.toList.drop k) = decide (a.size < b.size) := by
  by_cases h2 : k < b.size
  · have e : a.data.toList.drop k = [] := List.drop_eq_nil_of_le (by simp; omega)
    rw [e, List.drop_eq_getElem_cons (i := k) (l := b.data.toList) (by simpa using h2)]
    simp [Op.bytesLess]; omega
  · have e : b.data.toList.drop k = [] := List.drop_eq_nil_of_le (by simp; omega)
    rw [e]
    cases hq : a.data.toList.drop k <;> simp [Op.bytesLess] <;> omega

set_option maxHeartbeats 400000 in
theorem specBefore (a b : ByteArray) (w : World) (ha : a.size ≤ maxLen) (hb : b.size ≤ maxLen) :
    Calls Tryd.prog 21 #[.string a, .string b] w fun e w' => e = .returned (.bool (Op.bytesLess a.toList b.toList)) ∧ ∃ n, w' = w.drewN n := by
  unfold maxLen at ha hb
  rw [Lib.toList_data, Lib.toList_data]
  go_enter Tryd.func21, Tryd.ntmps21
  go_wp2
  go_loopw [5] (fun i W => ∃ k n : Nat, k ≤ a.size ∧ k ≤ b.size ∧ i = .int .i64 k ∧ W = w.drewN n ∧ Op.bytesLess a.data.toList b.data.toList = Op.bytesLess (a.data.toList.drop k) (b.data.toList.drop k)) (fun i _ => a.size - (intOf i).toNat)
  case atStart => exact ⟨0, 0, Nat.zero_le _, Nat.zero_le _, rfl, rfl, rfl⟩
  case round =>
    obtain ⟨k, n, hka, hkb, rfl, rfl, hl⟩ := hrel
    have HL := Lib.hid hl
    clear hl
    by_cases h1 : k < a.size
    · by_cases h2 : k < b.size
      · have hst := less_step a b k h1 h2
        have HS := Lib.hid hst
        clear hst
        by_cases he : ((a[k].toNat : Int) != (b[k].toNat : Int)) = true
        · go_wp2
          go_quiet (fail)
          go_wp2
          go_quiet (fail)
          go_wp2
          go_ret
          exact ⟨ret_bool (by rw [HL.out, HS.out, byte_ne he]; simp [UInt8.lt_iff_toNat_lt]), ⟨_, by rw [World.drewN_drewN, World.drewN_drewN]⟩⟩
        · go_wp2
          go_quiet (fail)
          go_wp2
          go_roundw
          case rel => exact ⟨k + 1, _, by omega, by omega, by go_num, rfl, by rw [HL.out, HS.out, byte_eq he]; simp⟩
          case measure => simp [intOf]; omega
      · go_wp2
        go_ret
        exact ⟨ret_bool (by rw [HL.out, less_end a b k (by omega) hka hkb]), ⟨_, rfl⟩⟩
    · go_wp2
      go_ret
      exact ⟨ret_bool (by rw [HL.out, less_end a b k (by omega) hka hkb]), ⟨_, rfl⟩⟩
end Go.Proofs.YtipepbnmllbonaaDoor
