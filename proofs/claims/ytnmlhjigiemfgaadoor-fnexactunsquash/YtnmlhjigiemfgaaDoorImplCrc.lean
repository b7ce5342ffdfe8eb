/- impl.Crc: what is left is turned bit by bit, each byte's bits taken one at a time. -/
import Derived.Test.YtnmlhjigiemfgaaDoorSpecCrc
namespace Go.Proofs.YtnmlhjigiemfgaaDoor
open Go.RowKit

theorem crc_mix_t {y m : Nat} (h : (y ^^^ m) % 2 = 1) : crcBit (y ^^^ m) = (y / 2 ^^^ 3988292384) ^^^ (m / 2) := by
  rw [crc_t h, Nat.xor_div_two, Nat.xor_assoc, Nat.xor_comm (m / 2), ← Nat.xor_assoc]
theorem crc_mix_f {y m : Nat} (h : ¬ (y ^^^ m) % 2 = 1) : crcBit (y ^^^ m) = (y / 2) ^^^ (m / 2) := by
  rw [crc_f h, Nat.xor_div_two]

set_option maxRecDepth 100000 in
set_option maxHeartbeats 4000000 in
theorem implCrc (s : ByteArray) (hm : s.size ≤ maxLen) (w : World) :
    Calls Tryd.prog 35 #[.string s] w fun e w' => e = .returned (.int .u32 ((crcV s.data.toList : Nat) : Int)) ∧ w = w' := by
  unfold maxLen at hm
  have hmi : (s.size : Int) ≤ 9223372036854775807 := by omega
  obtain ⟨T, hT⟩ : ∃ T, crcF 4294967295 s.data.toList = T := ⟨_, rfl⟩
  have HT := Lib.hid hT
  have HV := Lib.hid (show crcV s.data.toList = 4294967295 ^^^ T by unfold crcV; rw [hT, Nat.xor_comm])
  have hTl : T < 4294967296 := by rw [← hT]; exact crcF_lt _ (by omega)
  clear hT
  have hx9 : bits .xor .u32 4294967295 (T : Int) = ((4294967295 ^^^ T : Nat) : Int) := u32_xor_nat 4294967295 T (by omega) hTl
  go_enter Tryd.func35, Tryd.ntmps35
  go_wp2
  go_loop [3, 4, 5, 6, 9, 12] (fun xv _ _ _ iv _ => ∃ (k x : Nat), iv = .int .i64 k ∧ xv = .int .u32 (x : Int) ∧ k ≤ s.size ∧ x < 4294967296 ∧ Hid (crcF x (s.data.toList.drop k) = T)) (fun _ _ _ _ iv _ => s.size - (intOf iv).toNat)
  case atStart => exact ⟨0, 4294967295, rfl, rfl, Nat.zero_le _, by omega, Lib.hid (by rw [List.drop_zero]; exact HT.out)⟩
  case round =>
    clear HT
    obtain ⟨k, x, rfl, rfl, hk, hx, HR⟩ := hrel
    by_cases h1 : k < s.size
    · have h1i : (k : Int) < (s.size : Int) := by omega
      have hat := Lib.hid (at_byte s k h1)
      have hd := drop_one _ hat.out
      obtain ⟨b, hb⟩ : ∃ b : UInt8, s[k] = b := ⟨_, rfl⟩
      rw [hb] at hd
      have HS := Lib.hid (show crcF (crcN 8 (x ^^^ b.toNat)) (s.data.toList.drop (k + 1)) = T by rw [← HR.out, hd]; rfl)
      obtain ⟨Y, hY⟩ : ∃ Y, crcN 8 (x ^^^ b.toNat) = Y := ⟨_, rfl⟩
      rw [hY] at HS
      have HY := Lib.hid (show crcN (8 - 0) (x ^^^ b.toNat / 2 ^ 0) = Y by rw [Nat.pow_zero, Nat.div_one]; exact hY)
      have hb8 := b.toNat_lt
      clear hd hY HR hat
      go_wp2
      go_loop [3, 5, 6, 12] (fun xv _ _ jv => ∃ (j y : Nat), jv = .int .i64 j ∧ xv = .int .u32 (y : Int) ∧ j ≤ 8 ∧ y < 4294967296 ∧ Hid (crcN (8 - j) (y ^^^ b.toNat / 2 ^ j) = Y)) (fun _ _ _ jv => 8 - (intOf jv).toNat)
      case atStart => exact ⟨0, x, rfl, rfl, by omega, hx, HY⟩
      case round =>
        clear HY
        obtain ⟨j, y, rfl, rfl, hj, hy, HJ⟩ := hrel
        by_cases h2 : j < 8
        · have h2i : (j : Int) < 8 := by omega
          have hml : b.toNat / 2 ^ j < 256 := Nat.lt_of_le_of_lt (Nat.div_le_self _ _) hb8
          have hsh : ((b.toNat : Int) / 2 ^ j % 4294967296) = ((b.toNat / 2 ^ j : Nat) : Int) := by
            have e : ((b.toNat : Int) / 2 ^ j) = ((b.toNat / 2 ^ j : Nat) : Int) := by simp
            rw [e]
            generalize b.toNat / 2 ^ j = m0 at hml ⊢
            omega
          have hm2 : b.toNat / 2 ^ (j + 1) = b.toNat / 2 ^ j / 2 := by rw [Nat.pow_succ, Nat.div_div_eq_div_mul]
          have HJ1 := Lib.hid (show crcN (8 - (j + 1)) (crcBit (y ^^^ b.toNat / 2 ^ j)) = Y by rw [← HJ.out, show 8 - j = (8 - (j + 1)) + 1 by omega]; rfl)
          clear HJ
          have Hm := Lib.hid hm2
          clear hm2
          obtain ⟨m, hmm⟩ : ∃ m, b.toNat / 2 ^ j = m := ⟨_, rfl⟩
          rw [hmm] at hml hsh HJ1 Hm
          clear hmm
          have hx1 := u32_xor_nat y m hy (by omega)
          have hzl : y ^^^ m < 4294967296 := Nat.xor_lt_two_pow (n := 32) hy (by omega)
          have ha1 : bits .and .u32 ((y ^^^ m : Nat) : Int) 1 = ((((y ^^^ m) &&& 1 : Nat)) : Int) := u32_and_nat (y ^^^ m) 1 hzl (by omega)
          rw [nat_mask1, ← hx1, ← hsh] at ha1
          by_cases h3 : (y ^^^ m) % 2 = 1
          · rw [h3] at ha1
            have hA : (bits .and .u32 (bits .xor .u32 (y : Int) ((b.toNat : Int) / 2 ^ j % 4294967296)) 1 == 1) = true := by rw [ha1]; rfl
            have HJ2 := Lib.hid (show crcN (8 - (j + 1)) ((y / 2 ^^^ 3988292384) ^^^ b.toNat / 2 ^ (j + 1)) = Y by rw [Hm.out, ← crc_mix_t h3]; exact HJ1.out)
            have hyl : y / 2 ^^^ 3988292384 < 4294967296 := Nat.xor_lt_two_pow (n := 32) (by omega) (by omega)
            have hx2 : bits .xor .u32 ((y / 2 : Nat) : Int) 3988292384 = ((y / 2 ^^^ 3988292384 : Nat) : Int) := u32_xor_nat (y / 2) 3988292384 (by omega) (by omega)
            have hhf := crc_shr y
            generalize y / 2 ^^^ 3988292384 = y2 at HJ2 hyl hx2
            generalize y / 2 = y1 at hx2 hhf
            clear h3 HJ1 hzl Hm hx1 ha1 hsh hml
            go_wp2
            go_round
            case rel => exact ⟨j + 1, _, by go_num, rfl, by omega, hyl, HJ2⟩
            case measure => simp [intOf]; omega
          · have h30 : (y ^^^ m) % 2 = 0 := by omega
            rw [h30] at ha1
            have hA : (bits .and .u32 (bits .xor .u32 (y : Int) ((b.toNat : Int) / 2 ^ j % 4294967296)) 1 == 1) = false := by rw [ha1]; rfl
            have HJ2 := Lib.hid (show crcN (8 - (j + 1)) ((y / 2) ^^^ b.toNat / 2 ^ (j + 1)) = Y by rw [Hm.out, ← crc_mix_f h3]; exact HJ1.out)
            have hhf := crc_shr y
            have hyl : y / 2 < 4294967296 := by omega
            generalize y / 2 = y1 at HJ2 hhf hyl
            clear h3 HJ1 hzl Hm h30 hx1 ha1 hsh hml
            go_wp2
            go_round
            case rel => exact ⟨j + 1, y1, by go_num, rfl, by omega, hyl, HJ2⟩
            case measure => simp [intOf]; omega
        · have h2i : ¬ (j : Int) < 8 := by omega
          have hje : j = 8 := by omega
          have hyY : y = Y := by
            have h := HJ.out
            rw [hje, show b.toNat / 2 ^ 8 = 0 from Nat.div_eq_of_lt (by omega), Nat.xor_zero] at h
            exact h
          subst hyY
          clear HJ hje h2
          go_wp2
          go_round
          case rel => exact ⟨k + 1, y, by go_num, rfl, by omega, hy, HS⟩
          case measure => simp [intOf]; omega
    · have h1i : ¬ (k : Int) < (s.size : Int) := by omega
      have hxT : x = T := by have := HR.out; rw [List.drop_eq_nil_of_le (by simp; omega)] at this; exact this
      subst hxT
      clear HR
      go_wp2
      go_ret
      refine ⟨?_, rfl⟩
      rw [HV.out, ← hx9]
      rfl
end Go.Proofs.YtnmlhjigiemfgaaDoor
