/- Proved: laws.FnEscape answers true at every code: of a text that is drawn impl.Escape tells what spec.Escape tells, and where that text is a name, what is told is a pattern that stands for that name, not for it with an x behind, nor with an x behind the pattern; a star stands for it, and so does that pattern with a star ahead or behind; where nothing was escaped, the name is plain; the argument reads as before. No condition. -/
import Derived.Test.YthlmkeibaaobeaaEscFacts
import Derived.Test.YthlmkeibaaobeaaDrawGlob
import Derived.Test.YthlmkeibaaobeaaImplMatch2
import Derived.Test.YthlmkeibaaobeaaBig
namespace Go.Proofs.Ythlmkeibaaobeaa
open Go.RowKit

theorem sameT (x : ByteArray) : (x.toList == x.toList) = true := beq_self_eq_true _
theorem strOf_beq (a b : List UInt8) : ((strOf a).toList == (strOf b).toList) = (a == b) := by
  rw [Lib.toList_data, Lib.toList_data, strOf_data, strOf_data]

set_option maxRecDepth 100000 in
set_option maxHeartbeats 8000000 in
theorem walkFnEscape (a : Option Addr) (len cap : Nat) (zs : List Int) (w : World) (hr : IsRow .u8 w a len cap zs) :
    Calls Try.prog 3 #[.slice a len cap] w fun e w' => e = .returned (.bool true) ∧ Below w.heap.size w w' := by
  by_cases hlen : len ≤ 1048576
  rotate_left
  · clear hr
    go_enter Try.func3, Try.ntmps3
    go_wp2_with fail
    refine (bigT _ _ _ _ hlen).mono ?_
    rintro e w' ⟨rfl, rfl⟩
    go_wp2
    go_ret
    exact ⟨rfl, Below.refl _ _⟩
  have HR := Lib.hid hr
  clear hr
  go_enter Try.func3, Try.ntmps3
  go_wp2_with fail
  refine (bigF _ _ _ _ hlen).mono ?_
  rintro e w' ⟨rfl, rfl⟩
  go_wp2_with fail
  refine (specDrawEscape w _ a len cap zs HR.out (Below.refl _ _) hlen).mono ?_
  rintro e W1 ⟨⟨s, hs, rfl⟩, hB1⟩
  obtain ⟨n, rfl⟩ : ∃ l, s = strOf l := ⟨_, strOf_back s⟩
  rw [strOf_size] at hs
  have hle := escV_le n
  have CI := Lib.hid (fun W => implEscape (strOf n) W (by rw [strOf_size]; omega))
  have CS := Lib.hid (fun W => specEscape (strOf n) W (by rw [strOf_size]; omega))
  have CN := Lib.hid (fun W => specNameOk (strOf n) W)
  have CP := Lib.hid (fun W => implPlain (strOf n) (by rw [strOf_size]; unfold maxLen; omega) W)
  have M1 := Lib.hid (fun W => implMatch (strOf (escV n)) (strOf n) (by rw [strOf_size]; unfold maxLen; omega) W)
  have M2 := Lib.hid (fun W => implMatch (strOf (escV n)) (strOf (n ++ [120])) (by rw [strOf_size]; unfold maxLen; omega) W)
  have M3 := Lib.hid (fun W => implMatch (strOf (escV n ++ [120])) (strOf n) (by rw [strOf_size]; unfold maxLen; simp; omega) W)
  have M4 := Lib.hid (fun W => implMatch (strOf [42]) (strOf n) (by rw [strOf_size]; unfold maxLen; simp) W)
  have M5 := Lib.hid (fun W => implMatch (strOf (escV n ++ [42])) (strOf n) (by rw [strOf_size]; unfold maxLen; simp; omega) W)
  have M6 := Lib.hid (fun W => implMatch (strOf (42 :: escV n)) (strOf n) (by rw [strOf_size]; unfold maxLen; simp; omega) W)
  have A2 : ∀ w, (Op.stringOp .add (strOf n) ⟨#[120]⟩).run Try.prog w = .ok (.string (strOf (n ++ [120]))) w := fun w => run_add n [120] (by simp; omega) w
  have A3 : ∀ w, (Op.stringOp .add (strOf (escV n)) ⟨#[120]⟩).run Try.prog w = .ok (.string (strOf (escV n ++ [120]))) w := fun w => run_add (escV n) [120] (by simp; omega) w
  have A5 : ∀ w, (Op.stringOp .add (strOf (escV n)) ⟨#[42]⟩).run Try.prog w = .ok (.string (strOf (escV n ++ [42]))) w := fun w => run_add (escV n) [42] (by simp; omega) w
  have A6 : ∀ w, (Op.stringOp .add ⟨#[42]⟩ (strOf (escV n))).run Try.prog w = .ok (.string (strOf (42 :: escV n))) w := fun w => run_add [42] (escV n) (by simp; omega) w
  rw [strOf_data] at CI CS CN CP
  rw [strOf_data, strOf_data] at M1 M2 M3 M4 M5 M6
  rw [show (strOf [42]) = ⟨#[42]⟩ from rfl] at M4
  have hsm := sameT (strOf (escV n))
  have hsz : ((strOf (escV n)).size : Int) ≤ 16 := by rw [strOf_size]; omega
  have hbq := strOf_beq (escV n) n
  cases hn : nameB n with
  | false =>
    rw [hn] at CN
    generalize strOf (escV n) = T at CI CS hsm
    generalize strOf n = s at CI CS CN
    clear M1 M2 M3 M4 M5 M6 A2 A3 A5 A6 hsz hbq hn hs hle CP
    go_wp2_with fail
    refine (CI.out _).mono ?_
    rintro e W2 ⟨rfl, hb2⟩
    have hB2 := hB1.trans (hb2.mono hB1.size)
    go_wp2_with fail
    refine (CS.out _).mono ?_
    rintro e W3 ⟨rfl, hb3⟩
    have hB3 := hB2.trans (hb3.mono hB2.size)
    go_wp2_with fail
    refine (CN.out _).mono ?_
    rintro e W4 ⟨rfl, rfl⟩
    go_wp2
    go_ret
    exact ⟨rfl, hB3⟩
  | true =>
    have h60 : (escV n).length ≤ 60 := by omega
    have hself := esc_self hn h60
    rw [hn] at CN
    rw [hself] at M1
    rw [esc_more] at M2
    rw [esc_less] at M3
    rw [star_all hn] at M4
    rw [matB_behind hself (by omega)] at M5
    rw [matB_ahead hself (by omega)] at M6
    have hpl : (∃ b, plainV n = b ∧ ((escV n == n) = true → b = true)) := ⟨_, rfl, fun e => esc_plain hn h60 (by simpa using e)⟩
    obtain ⟨b, hb, hbt⟩ := hpl
    rw [hb] at CP
    generalize (escV n == n) = t at hbq hbt
    generalize strOf (escV n ++ [120]) = T3 at M3 A3
    generalize strOf (escV n ++ [42]) = T5 at M5 A5
    generalize strOf (42 :: escV n) = T6 at M6 A6
    generalize strOf (n ++ [120]) = s2 at M2 A2
    generalize strOf (escV n) = T at CI CS hsm hsz hbq M1 M2 A3 A5 A6
    generalize strOf n = s at CI CS CN CP M1 M3 M4 M5 M6 A2 hbq
    clear hn hs hle h60 hself hb
    have hbt2 : b = true ∨ (b = false ∧ t = false) := by
      cases t with
      | true => exact .inl (hbt rfl)
      | false => cases b <;> simp
    clear hbt
    go_wp2_with fail
    refine (CI.out _).mono ?_
    rintro e W2 ⟨rfl, hb2⟩
    have hB2 := hB1.trans (hb2.mono hB1.size)
    go_wp2_with fail
    refine (CS.out _).mono ?_
    rintro e W3 ⟨rfl, hb3⟩
    have hB3 := hB2.trans (hb3.mono hB2.size)
    go_wp2_with fail
    refine (CN.out _).mono ?_
    rintro e W4 ⟨rfl, rfl⟩
    clear hB1 hB2 hb2 hb3 CI CS CN
    go_wp2_with fail
    refine (M1.out _).mono ?_
    rintro e W5 ⟨rfl, hb5⟩
    have hB5 := hB3.trans (hb5.mono hB3.size)
    clear hB3 hb5 M1
    go_wp2_with fail
    refine (M2.out _).mono ?_
    rintro e W6 ⟨rfl, hb6⟩
    have hB6 := hB5.trans (hb6.mono hB5.size)
    clear hB5 hb6 M2
    go_wp2_with fail
    refine (M3.out _).mono ?_
    rintro e W7 ⟨rfl, hb7⟩
    have hB7 := hB6.trans (hb7.mono hB6.size)
    clear hB6 hb7 M3
    go_wp2_with fail
    refine (M4.out _).mono ?_
    rintro e W8 ⟨rfl, hb8⟩
    have hB8 := hB7.trans (hb8.mono hB7.size)
    clear hB7 hb8 M4
    go_wp2_with fail
    refine (M5.out _).mono ?_
    rintro e W9 ⟨rfl, hb9⟩
    have hB9 := hB8.trans (hb9.mono hB8.size)
    clear hB8 hb9 M5
    go_wp2_with fail
    refine (M6.out _).mono ?_
    rintro e W10 ⟨rfl, hb10⟩
    have hB10 := hB9.trans (hb10.mono hB9.size)
    clear hB9 hb10 M6
    go_wp2_with fail
    refine (CP.out _).mono ?_
    rintro e W11 ⟨rfl, hb11⟩
    have hB11 := hB10.trans (hb11.mono hB10.size)
    clear hB10 hb11
    cases t with
    | true =>
      rcases hbt2 with rfl | ⟨-, h⟩
      · go_wp2
        go_ret
        exact ⟨rfl, hB11⟩
      · cases h
    | false =>
      clear hbt2
      go_wp2_with fail
      refine (CP.out _).mono ?_
      rintro e W12 ⟨rfl, hb12⟩
      have hB12 := hB11.trans (hb12.mono hB11.size)
      clear hB11 hb12
      cases b
      all_goals
        go_wp2
        go_ret
        exact ⟨rfl, hB12⟩
end Go.Proofs.Ythlmkeibaaobeaa
