/- spec.Crc. -/
import Derived.Test.YtnmlhjigiemfgaaDoorCrcV
import Derived.Test.YtnmlhjigiemfgaaDoorDropAt
import Derived.Laws.BitsAllLaws
namespace Go.Proofs.YtnmlhjigiemfgaaDoor
open Go.RowKit

theorem crc_shr (x : Nat) : Op.shift .shr .u32 (x : Int) .u64 1 = pure (.int .u32 ((x / 2 : Nat) : Int)) := by
  have h := shift_shr_u32 (x := (x : Int)) (yk := .u64) (y := 1) (by decide) (by decide)
  refine h.trans ?_
  simp
theorem crc_t {x : Nat} (h : x % 2 = 1) : crcBit x = (x / 2) ^^^ 3988292384 := by unfold crcBit; rw [if_pos h]
theorem crc_f {x : Nat} (h : ¬ x % 2 = 1) : crcBit x = x / 2 := by unfold crcBit; rw [if_neg h]

set_option maxRecDepth 100000 in
set_option maxHeartbeats 4000000 in
theorem specCrc (s : ByteArray) (hm : s.size ≤ maxLen) (w : World) :
    Calls Tryd.prog 31 #[.string s] w fun e w' => e = .returned (.int .u32 ((crcV s.data.toList : Nat) : Int)) ∧ w = w' := by
  unfold maxLen at hm
  have hmi : (s.size : Int) ≤ 9223372036854775807 := by omega
  obtain ⟨T, hT⟩ : ∃ T, crcF 4294967295 s.data.toList = T := ⟨_, rfl⟩
  have HT := Lib.hid hT
  have HV := Lib.hid (show crcV s.data.toList = T ^^^ 4294967295 by unfold crcV; rw [hT])
  have hTl : T < 4294967296 := by rw [← hT]; exact crcF_lt _ (by omega)
  clear hT
  have hx9 : bits .xor .u32 (T : Int) 4294967295 = ((T ^^^ 4294967295 : Nat) : Int) := u32_xor_nat T 4294967295 hTl (by omega)
  go_enter Tryd.func31, Tryd.ntmps31
  go_wp2
  go_loop [3, 4, 5] (fun xv iv _ => ∃ (k x : Nat), iv = .int .i64 k ∧ xv = .int .u32 (x : Int) ∧ k ≤ s.size ∧ x < 4294967296 ∧ Hid (crcF x (s.data.toList.drop k) = T)) (fun _ iv _ => s.size - (intOf iv).toNat)
  case atStart => exact ⟨0, 4294967295, rfl, rfl, Nat.zero_le _, by omega, Lib.hid (by rw [List.drop_zero]; exact HT.out)⟩
  case round =>
    clear HT
    obtain ⟨k, x, rfl, rfl, hk, hx, HR⟩ := hrel
    by_cases h1 : k < s.size
    · have h1i : (k : Int) < (s.size : Int) := by omega
      have hat := Lib.hid (at_byte s k h1)
      have hd := drop_one _ hat.out
      obtain ⟨b, hb⟩ : ∃ b : UInt8, s[k] = b := ⟨_, rfl⟩
      rw [hb] at hd
      have HS := Lib.hid (show crcF (crcN 8 (x ^^^ b.toNat)) (s.data.toList.drop (k + 1)) = T by rw [← HR.out, hd]; rfl)
      obtain ⟨Y, hY⟩ : ∃ Y, crcN 8 (x ^^^ b.toNat) = Y := ⟨_, rfl⟩
      rw [hY] at HS
      have HY := Lib.hid hY
      have hxb : x ^^^ b.toNat < 4294967296 := Nat.xor_lt_two_pow (n := 32) hx (byte_lt b)
      have hx1 := u32_xor_nat x b.toNat hx (byte_lt b)
      generalize x ^^^ b.toNat = z at HY hxb hx1
      have hb8 := b.toNat_lt
      have hbw : IntKind.u32.wrap (b.toNat : Int) = (b.toNat : Int) := by rw [IntKind.wrap_u32']; omega
      clear hd hY HR hat
      go_wp2
      go_loop [3, 5] (fun xv jv => ∃ (j y : Nat), jv = .int .i64 j ∧ xv = .int .u32 (y : Int) ∧ j ≤ 8 ∧ y < 4294967296 ∧ Hid (crcN (8 - j) y = Y)) (fun _ jv => 8 - (intOf jv).toNat)
      case atStart => exact ⟨0, z, rfl, rfl, by omega, hxb, HY⟩
      case round =>
        clear HY hx1 hxb hb8 hbw
        obtain ⟨j, y, rfl, rfl, hj, hy, HJ⟩ := hrel
        by_cases h2 : j < 8
        · have h2i : (j : Int) < 8 := by omega
          have HJ2 := Lib.hid (show crcN (8 - (j + 1)) (crcBit y) = Y by rw [← HJ.out, show 8 - j = (8 - (j + 1)) + 1 by omega]; rfl)
          by_cases h3 : y % 2 = 1
          · have h3i : (((y : Int) % 2) == 1) = true := by simp; omega
            have hyl := crcBit_lt hy
            rw [crc_t h3] at HJ2 hyl
            have hx2 : bits .xor .u32 ((y / 2 : Nat) : Int) 3988292384 = ((y / 2 ^^^ 3988292384 : Nat) : Int) := u32_xor_nat (y / 2) 3988292384 (by omega) (by omega)
            have hhf := crc_shr y
            generalize y / 2 ^^^ 3988292384 = y2 at HJ2 hyl hx2
            generalize y / 2 = y1 at hx2 hhf
            clear h3 HJ
            go_wp2
            go_round
            case rel => exact ⟨j + 1, _, by go_num, rfl, by omega, hyl, HJ2⟩
            case measure => simp [intOf]; omega
          · have h3i : (((y : Int) % 2) == 1) = false := by simp; omega
            rw [crc_f h3] at HJ2
            have hhf := crc_shr y
            have hyl : y / 2 < 4294967296 := by omega
            generalize y / 2 = y1 at HJ2 hhf hyl
            clear h3 HJ
            go_wp2
            go_round
            case rel => exact ⟨j + 1, y1, by go_num, rfl, by omega, hyl, HJ2⟩
            case measure => simp [intOf]; omega
        · have h2i : ¬ (j : Int) < 8 := by omega
          have hje : j = 8 := by omega
          have hyY : y = Y := by have := HJ.out; rw [hje] at this; exact this
          subst hyY
          clear HJ hje h2
          go_wp2
          go_round
          case rel => exact ⟨k + 1, y, by go_num, rfl, by omega, hy, HS⟩
          case measure => simp [intOf]; omega
    · have h1i : ¬ (k : Int) < (s.size : Int) := by omega
      have hxT : x = T := by have := HR.out; rw [List.drop_eq_nil_of_le (by simp; omega)] at this; exact this
      subst hxT
      clear HR
      go_wp2
      go_ret
      exact ⟨by rw [HV.out]; rfl, rfl⟩
end Go.Proofs.YtnmlhjigiemfgaaDoor
