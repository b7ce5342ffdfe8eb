/- Contracts of Plain, of spec and of impl. -/
import Derived.Test.YthlmkeibaaobeaaImplGlob6
import Derived.Test.YthlmkeibaaobeaaAnySigns
namespace Go.Proofs.Ythlmkeibaaobeaa
open Go.RowKit

theorem noSign_iff (c : UInt8) : noSign c = true ↔ c.toNat ≠ 42 ∧ c.toNat ≠ 63 ∧ c.toNat ≠ 91 ∧ c.toNat ≠ 92 := by
  unfold noSign
  simp only [Bool.not_eq_true', Bool.or_eq_false_iff, beq_eq_false_iff_ne, ne_eq, ← UInt8.toNat_inj]
  constructor
  · rintro ⟨⟨⟨h1, h2⟩, h3⟩, h4⟩; exact ⟨h1, h2, h3, h4⟩
  · rintro ⟨h1, h2, h3, h4⟩; exact ⟨⟨⟨h1, h2⟩, h3⟩, h4⟩
def plainV (l : List UInt8) : Bool := patB l && l.all noSign
theorem sign_take {l : List UInt8} (k : Nat) (h : (l.take k).all noSign = false) : plainV l = false := by
  unfold plainV
  rw [← List.take_append_drop k l, List.all_append, h]; simp
theorem sign_snoc (s : ByteArray) (k : Nat) (h : k < s.size) : (s.data.toList.take (k + 1)).all noSign = ((s.data.toList.take k).all noSign && noSign s[k]) := by
  rw [take_snoc s k h, List.all_append]; simp

set_option maxRecDepth 100000 in
set_option maxHeartbeats 8000000 in
theorem specPlain (s : ByteArray) (hm : s.size ≤ maxLen) (w : World) :
    Calls Try.prog 18 #[.string s] w fun e w' => e = .returned (.bool (plainV s.data.toList)) ∧ w = w' := by
  have CP := Lib.hid (fun W => specPatternOk s hm W)
  unfold maxLen at hm
  have hmi : (s.size : Int) ≤ 9223372036854775807 := by omega
  go_enter Try.func18, Try.ntmps18
  go_wp2
  go_loop [3] (fun iv => ∃ k : Nat, iv = .int .i64 k ∧ k ≤ s.size ∧ k ≤ 61 ∧ Hid ((s.data.toList.take k).all noSign = true)) (fun iv => 61 - (intOf iv).toNat)
  case atStart => exact ⟨0, rfl, Nat.zero_le _, by omega, Lib.hid rfl⟩
  case round =>
    obtain ⟨k, rfl, hk, hk6, HR⟩ := hrel
    by_cases h1 : k < s.size
    · have h1i : (k : Int) < (s.size : Int) := by omega
      by_cases h2 : k < 61
      · have h2i : (k : Int) < 61 := by omega
        have HA := Lib.hid (sign_snoc s k h1)
        obtain ⟨x, hx⟩ : ∃ x : UInt8, s[k] = x := ⟨_, rfl⟩
        rw [hx] at HA
        by_cases hn : noSign x = true
        · obtain ⟨b1, b2, b3, b4⟩ := (noSign_iff x).1 hn
          have c1 : ((x.toNat : Int) == 42) = false := byte_f b1
          have c2 : ((x.toNat : Int) == 63) = false := byte_f b2
          have c3 : ((x.toNat : Int) == 91) = false := byte_f b3
          have c4 : ((x.toNat : Int) == 92) = false := byte_f b4
          have HE := Lib.hid (show (s.data.toList.take (k + 1)).all noSign = true by rw [HA.out, HR.out, hn]; rfl)
          clear b1 b2 b3 b4 hn HA HR CP
          go_wp2
          go_round
          case rel => exact ⟨k + 1, by go_num, by omega, by omega, HE⟩
          case measure => simp [intOf]; omega
        · have hn' : noSign x = false := by simpa using hn
          have HE := Lib.hid (sign_take (l := s.data.toList) (k + 1) (by rw [HA.out, HR.out, hn']; rfl))
          have hd : ¬ (x.toNat ≠ 42 ∧ x.toNat ≠ 63 ∧ x.toNat ≠ 91 ∧ x.toNat ≠ 92) := fun h => hn ((noSign_iff x).2 h)
          have hc : ((x.toNat : Int) == 42) = true ∨ (((x.toNat : Int) == 42) = false ∧ ((x.toNat : Int) == 63) = true) ∨ (((x.toNat : Int) == 42) = false ∧ ((x.toNat : Int) == 63) = false ∧ ((x.toNat : Int) == 91) = true) ∨ (((x.toNat : Int) == 42) = false ∧ ((x.toNat : Int) == 63) = false ∧ ((x.toNat : Int) == 91) = false ∧ ((x.toNat : Int) == 92) = true) := by
            simp only [beq_iff_eq, beq_eq_false_iff_ne]
            omega
          clear hn hn' hd HA HR CP
          rcases hc with g1 | ⟨g1, g2⟩ | ⟨g1, g2, g3⟩ | ⟨g1, g2, g3, g4⟩
          all_goals
            go_wp2
            go_ret
            exact ⟨ret_bool HE.out.symm, rfl⟩
      · have h2i : ¬ (k : Int) < 61 := by omega
        have HE := Lib.hid (show plainV s.data.toList = patB s.data.toList by unfold plainV; rw [patB_long s (by omega)]; rfl)
        generalize patB s.data.toList = q at CP HE
        clear HR
        go_wp2_with fail
        refine (CP.out _).mono ?_
        rintro e W1 ⟨rfl, rfl⟩
        go_wp2
        go_ret
        exact ⟨ret_bool HE.out.symm, rfl⟩
    · have h1i : ¬ (k : Int) < (s.size : Int) := by omega
      have HE := Lib.hid (show plainV s.data.toList = patB s.data.toList by
        have := HR.out
        rw [take_all s k (by omega)] at this
        unfold plainV; rw [this]; simp)
      generalize patB s.data.toList = q at CP HE
      clear HR
      go_wp2_with fail
      refine (CP.out _).mono ?_
      rintro e W1 ⟨rfl, rfl⟩
      go_wp2
      go_ret
      exact ⟨ret_bool HE.out.symm, rfl⟩

theorem implPlain (s : ByteArray) (hm : s.size ≤ maxLen) (w : World) :
    Calls Try.prog 14 #[.string s] w fun e w' => e = .returned (.bool (plainV s.data.toList)) ∧ Below w.heap.size w w' := by
  have CP := Lib.hid (fun W => implPatternOk s hm W)
  cases hp : patB s.data.toList with
  | false =>
    have HE := Lib.hid (show plainV s.data.toList = false by unfold plainV; rw [hp]; rfl)
    rw [hp] at CP
    clear hp
    go_enter Try.func14, Try.ntmps14
    go_wp2_with fail
    refine (CP.out _).mono ?_
    rintro e W1 ⟨rfl, hb1⟩
    go_wp2
    go_ret
    exact ⟨ret_bool HE.out.symm, hb1⟩
  | true =>
    have hs : s.size ≤ 60 := by
      by_cases h : s.size ≤ 60
      · exact h
      · rw [patB_long s h] at hp; cases hp
    have HE := Lib.hid (show plainV s.data.toList = s.data.toList.all noSign by unfold plainV; rw [hp]; rfl)
    have CA := Lib.hid (fun W => containsAnyS s W hs)
    generalize s.data.toList.all noSign = q at HE CA
    rw [hp] at CP
    clear hp
    go_enter Try.func14, Try.ntmps14
    go_wp2_with fail
    refine (CP.out _).mono ?_
    rintro e W1 ⟨rfl, hb1⟩
    go_wp2_with fail
    refine (CA.out _).mono ?_
    rintro e W2 ⟨rfl, hb2⟩
    go_wp2
    go_ret
    exact ⟨ret_bool (by rw [HE.out]), hb1.trans (hb2.mono hb1.size)⟩
end Go.Proofs.Ythlmkeibaaobeaa
