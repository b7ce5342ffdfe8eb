/- Proved: laws.FnDec answers true at every code: numbers come back from their texts, and modes from theirs, and DecText, OctText and PadText tell what spec's tell; the argument reads as before. The listed tables of the standard library are tied to the program's text; the card speaks of the pruned copy of the project that the seat holds. -/
import Derived.Test.YtlkmpmlcjiiboaaDoorBig
import Derived.Test.YtlkmpmlcjiiboaaDoorDrawInts
import Derived.Test.YtlkmpmlcjiiboaaDoorReadDec
import Derived.Test.YtlkmpmlcjiiboaaDoorReadOct
import Derived.Test.YtlkmpmlcjiiboaaDoorOct
namespace Go.Proofs.YtlkmpmlcjiiboaaDoor
open Go.RowKit

theorem digB_toNat (d : Nat) (h : d < 10) : (digB d).toNat = 48 + d := by have := digB_nat d h; omega
theorem isDig_digB (d : Nat) (h : d < 10) : isDig (digB d) = true := (isDig_iff _).2 (by rw [digB_toNat d h]; omega)
theorem decDigits_step (u : Nat) (h : ¬ u < 10) : Lib.decDigits u = Lib.decDigits (u / 10) ++ [digB (u % 10)] := by rw [Lib.decDigits, dif_neg h]; rfl
theorem decDigits_one (u : Nat) (h : u < 10) : Lib.decDigits u = [digB u] := by rw [Lib.decDigits, dif_pos h]; rfl
theorem decDigits_back (u : Nat) : allDig (Lib.decDigits u) = true ∧ dnum (Lib.decDigits u) = u := by
  induction u using Nat.strongRecOn with
  | _ u ih =>
    by_cases h : u < 10
    · rw [decDigits_one u h]
      refine ⟨?_, ?_⟩
      · show ([digB u].all isDig) = true
        rw [List.all_cons, isDig_digB u h]; rfl
      · show 10 * 0 + ((digB u).toNat - 48) = u
        rw [digB_toNat u h]; omega
    · obtain ⟨h1, h2⟩ := ih (u / 10) (by omega)
      rw [decDigits_step u h, allDig_snoc, dnum_snoc, h1, h2, isDig_digB _ (by omega), digB_toNat _ (by omega)]
      exact ⟨rfl, by omega⟩
theorem decDigits_short : ∀ (k u : Nat), u < 10 ^ (k + 1) → (Lib.decDigits u).length ≤ k + 1
  | 0, u, h => by rw [decDigits_one u (by simpa using h)]; simp
  | k + 1, u, h => by
    by_cases h10 : u < 10
    · rw [decDigits_one u h10]; simp
    · rw [decDigits_step u h10]
      have := decDigits_short k (u / 10) (by rw [Nat.pow_succ] at h; omega)
      simp; omega
theorem decDigits_long (u : Nat) (h : 1000000000000 ≤ u) : 12 < (Lib.decDigits u).length := by
  obtain ⟨h1, h2⟩ := decDigits_back u
  have h3 := dnum_lt _ _ rfl h1
  rw [h2] at h3
  by_cases h4 : (Lib.decDigits u).length ≤ 12
  · have := Nat.pow_le_pow_right (n := 10) (by decide) h4
    omega
  · omega
theorem decDigits_pos (u : Nat) : 1 ≤ (Lib.decDigits u).length := by rw [Lib.decDigits_length]; exact Lib.nDigits_pos u

theorem readDec_in (n : Int) (h0 : 0 ≤ n) (h1 : n ≤ 999999999999) : readDecV (strOf (Lib.itoa n)) = n := by
  obtain ⟨u, rfl⟩ : ∃ u : Nat, n = u := ⟨n.toNat, by omega⟩
  rw [Lib.itoa_nonneg]
  obtain ⟨h2, h3⟩ := decDigits_back u
  have h4 := decDigits_short 11 u (by omega)
  have h5 := decDigits_pos u
  unfold readDecV
  rw [strOf_size, strOf_data, if_neg (by omega), if_neg ?_]
  · unfold digitsVal
    rw [strOf_data, allDigB_ten, dnumB_ten, h2, h3]; rfl
  · rintro ⟨hz, hl⟩
    cases hq : Lib.decDigits u with
    | nil => rw [hq] at hz; simp at hz
    | cons c t =>
      rw [hq] at hz
      simp at hz
      have := decDigits_head u c t hq hz
      subst this
      rw [decDigits_one 0 (by omega)] at hl
      simp at hl
theorem readDec_out (n : Int) (h : ¬ (0 ≤ n ∧ n ≤ 999999999999)) : readDecV (strOf (Lib.itoa n)) = -1 := by
  by_cases hn : 0 ≤ n
  · obtain ⟨u, rfl⟩ : ∃ u : Nat, n = u := ⟨n.toNat, by omega⟩
    rw [Lib.itoa_nonneg]
    have := decDigits_long u (by omega)
    unfold readDecV
    rw [strOf_size, if_pos (by omega)]
  · obtain ⟨u, rfl⟩ : ∃ u : Nat, n = -(u : Int) := ⟨n.natAbs, by omega⟩
    rw [Lib.itoa_neg u (by omega)]
    unfold readDecV
    split
    · rfl
    · split
      · rfl
      · unfold digitsVal
        rw [strOf_data, if_neg]
        intro h5
        unfold allDigB at h5
        rw [List.all_cons] at h5
        simp only [Bool.and_eq_true] at h5
        exact absurd h5.1 (by decide)

theorem octVal3 (u : Nat) (h : u < 512) : octVal [digB (u / 64), digB (u / 8 % 8), digB (u % 8)] = u := by
  have e1 := digB_toNat (u / 64) (by omega)
  have e2 := digB_toNat (u / 8 % 8) (by omega)
  have e3 := digB_toNat (u % 8) (by omega)
  unfold octVal
  rw [if_pos]
  · show (((8 * (8 * (8 * 0 + ((digB (u / 64)).toNat - 48)) + ((digB (u / 8 % 8)).toNat - 48)) + ((digB (u % 8)).toNat - 48) : Nat)) : Int) = u
    rw [e1, e2, e3]; omega
  · unfold allDigB
    simp only [List.all_cons, List.all_nil, Bool.and_true, Bool.and_eq_true]
    exact ⟨(isDigB_iff _ _).2 (by omega), (isDigB_iff _ _).2 (by omega), (isDigB_iff _ _).2 (by omega)⟩
def octTail (u : Nat) : List UInt8 := [digB (u / 64), digB (u / 8 % 8), digB (u % 8)]
theorem octV_is (u : Nat) (h : u < 512) : octV u = 48 :: octTail u := by unfold octV octTail; rw [if_neg (by omega)]; rfl
theorem readOct4 (u : Nat) (h : u < 512) : readOctV (48 :: octTail u) = u := by
  unfold readOctV
  rw [if_neg (by simp [octTail]), if_pos (by simp [octTail])]
  exact octVal3 u h
theorem readOct3 (u : Nat) (h : u < 512) : readOctV (octTail u) = u := by
  unfold readOctV
  rw [if_pos (by simp [octTail])]
  exact octVal3 u h
theorem cutOct (u : Nat) (w : World) : (Instr.slice 9 (.string (strOf (48 :: octTail u))) (some (.int .i64 1)) none none).run Tryd.prog w = .ok (.string (strOf (octTail u))) w := by
  have hs : (strOf (48 :: octTail u)).size = 4 := by rw [strOf_size]; rfl
  rw [run_slice_string_l (w := w) (t := 9) (s := strOf (48 :: octTail u)) (kl := .i64) (l := 1) (ht := Tryd.underlying9) (h0 := by omega) (h1 := by rw [hs]; omega)]
  have e : (strOf (48 :: octTail u)).extract 1 (strOf (48 :: octTail u)).size = strOf (octTail u) := by
    rw [hs]; rfl
  exact congrArg (fun x => Result.ok (Value.string x) w) e

theorem padV_ok (x d : Int) (h1 : -9223372036854775808 ≤ x) (h2 : x ≤ 9223372036854775807) : padV x d = [] ∨ ((padV x d ≠ [] ∧ d ≤ ((padV x d).length : Int)) ∧ (padV x d).length ≤ 120) := by
  by_cases h : x < 0 ∨ ¬ (1 ≤ d ∧ d ≤ 12)
  · left; unfold padV; rw [if_pos h]
  · right
    have hl := itoa_len x h1 h2
    have e : (padV x d).length = (d.toNat - (Lib.itoa x).length) + (Lib.itoa x).length := by unfold padV padL; rw [if_neg h]; simp
    have e2 : d.toNat ≤ (padV x d).length := by omega
    refine ⟨⟨?_, by omega⟩, by omega⟩
    intro e3
    rw [e3] at e2
    simp at e2
    omega
theorem nonempty_text {l : List UInt8} (h : l ≠ []) : (strOf l).toList.isEmpty = false := by
  rw [Lib.toList_data, strOf_data]
  cases l with
  | nil => exact absurd rfl h
  | cons a t => rfl

theorem below_either {w w' : World} {s : ByteArray} (h : w' = w ∨ ∃ pos, w' = w.iter s pos) : Below w.heap.size w w' := by
  rcases h with rfl | ⟨pos, rfl⟩
  · exact Below.refl _ _
  · exact below_iter (Below.refl _ _) (Nat.le_refl _) _ _
theorem walkDecTail (n : Int) (hn1 : -9223372036854775808 ≤ n) (hn2 : n ≤ 9223372036854775807) : (strOf (Lib.itoa n)).size ≤ maxLen := by
  have := itoa_len n hn1 hn2
  rw [strOf_size]; unfold maxLen; omega

set_option maxRecDepth 100000 in
set_option maxHeartbeats 4000000 in
theorem walkFnDec (a : Option Addr) (len cap : Nat) (zs : List Int) (w : World) (hr : IsRow .u8 w a len cap zs) (hT : Tabs w) :
    Calls Tryd.prog 3 #[.slice a len cap] w fun e w' => e = .returned (.bool true) ∧ Below w.heap.size w w' := by
  by_cases hlen : len ≤ 1048576
  · go_enter Tryd.func3, Tryd.ntmps3
    go_wp2_with fail
    refine (bigF _ _ _ _ hlen).mono ?_
    rintro e w' ⟨rfl, rfl⟩
    go_wp2_with fail
    refine (specDrawDecText w _ a len cap zs hr (Below.refl _ _) hlen).mono ?_
    rintro e W1 ⟨⟨n, ⟨hn1, hn2⟩, rfl⟩, hb1⟩
    go_wp2_with fail
    refine (specDrawOctText w _ a len cap zs hr hb1 hlen).mono ?_
    rintro e W2 ⟨⟨m, ⟨hm1, hm2⟩, rfl⟩, hb2⟩
    have hB2 := hb1.trans (hb2.mono hb1.size)
    go_wp2_with fail
    refine (implDecText n _ hn1 hn2 (hT.on hB2)).mono ?_
    rintro e W3 ⟨rfl, hb3⟩
    have hB3 := hB2.trans (hb3.mono hB2.size)
    go_wp2_with fail
    refine (implOctText m _ (hT.on hB3)).mono ?_
    rintro e W4 ⟨rfl, hb4⟩
    have hB4 := hB3.trans (hb4.mono hB3.size)
    go_wp2_with fail
    refine (specDrawPadText w _ a len cap zs hr hB4 hlen).mono ?_
    rintro e W5 ⟨⟨x, d, ⟨hx1, hx2⟩, ⟨hd1, hd2⟩, rfl⟩, hb5⟩
    have hB5 := hB4.trans (hb5.mono hB4.size)
    go_wp2_with fail
    refine (implPadText x d _ hx1 hx2 (hT.on hB5)).mono ?_
    rintro e W6 ⟨rfl, hb6⟩
    have hB6 := hB5.trans (hb6.mono hB5.size)
    go_wp2_with fail
    refine (specDecText n _ hn1 hn2).mono ?_
    rintro e W7 ⟨rfl, rfl⟩
    go_wp2_with fail
    refine (specOctText m _).mono ?_
    rintro e W7 ⟨rfl, rfl⟩
    go_wp2_with fail
    refine (specPadText x d _ hx1 hx2).mono ?_
    rintro e W7 ⟨rfl, rfl⟩
    have hso := walkDecTail n hn1 hn2
    clear hb1 hb2 hb3 hb4 hb5 hb6 hB2 hB3 hB4 hB5
    rcases padV_ok x d hx1 hx2 with hp | ⟨⟨hp0, hp1⟩, hp2⟩
    · rw [hp]
      have he : (strOf []).toList.isEmpty = true := by rw [Lib.toList_data, strOf_data]; rfl
      by_cases hm : 0 ≤ m ∧ m < 512
      · obtain ⟨u, rfl⟩ : ∃ u : Nat, m = u := ⟨m.toNat, by omega⟩
        have hu : u < 512 := by omega
        have hu2 : (u : Int) < 512 := by omega
        rw [octV_is u hu]
        have hcut := cutOct u
        clear hm hm1 hm2
        go_wp2_with fail
        refine (implReadOct _ _ (by rw [strOf_size]; simp [octTail, maxLen])).mono ?_
        rintro e W7 ⟨rfl, hb7⟩
        rw [strOf_data, readOct4 u hu]
        have hB7 := hB6.trans (hb7.mono hB6.size)
        go_wp2_with fail
        refine (implReadOct _ _ (by rw [strOf_size]; simp [octTail, maxLen])).mono ?_
        rintro e W8 ⟨rfl, hb8⟩
        rw [strOf_data, readOct3 u hu]
        have hBx := hB7.trans (hb8.mono hB7.size)
        by_cases hn : 0 ≤ n ∧ n ≤ 999999999999
        · have HR := Lib.hid (readDec_in n hn.1 hn.2)
          obtain ⟨hna, hnb⟩ := hn
          go_wp2_with fail
          refine (implReadDec _ _ hso).mono ?_
          rintro e W9 ⟨rfl, hb9⟩
          have hB9 := hBx.trans ((below_either hb9).mono hBx.size)
          rw [HR.out]
          go_wp2
          go_ret
          exact ⟨rfl, hB9⟩
        · have HR := Lib.hid (readDec_out n hn)
          have hq : (decide (0 ≤ n) && decide (n ≤ 999999999999)) = false := by rw [Bool.and_eq_false_iff, decide_eq_false_iff_not, decide_eq_false_iff_not]; omega
          by_cases hn0 : 0 ≤ n
          · have hnb : 999999999999 < n := by omega
            clear hn hq
            go_wp2_with fail
            refine (implReadDec _ _ hso).mono ?_
            rintro e W9 ⟨rfl, hb9⟩
            have hB9 := hBx.trans ((below_either hb9).mono hBx.size)
            rw [HR.out]
            go_wp2
            go_ret
            exact ⟨rfl, hB9⟩
          · clear hn hq
            go_wp2_with fail
            refine (implReadDec _ _ hso).mono ?_
            rintro e W9 ⟨rfl, hb9⟩
            have hB9 := hBx.trans ((below_either hb9).mono hBx.size)
            rw [HR.out]
            go_wp2
            go_ret
            exact ⟨rfl, hB9⟩
      · have hBx := hB6
        by_cases hm0 : 0 ≤ m
        · have hmb : 512 ≤ m := by omega
          clear hm
          by_cases hn : 0 ≤ n ∧ n ≤ 999999999999
          · have HR := Lib.hid (readDec_in n hn.1 hn.2)
            obtain ⟨hna, hnb⟩ := hn
            go_wp2_with fail
            refine (implReadDec _ _ hso).mono ?_
            rintro e W9 ⟨rfl, hb9⟩
            have hB9 := hBx.trans ((below_either hb9).mono hBx.size)
            rw [HR.out]
            go_wp2
            go_ret
            exact ⟨rfl, hB9⟩
          · have HR := Lib.hid (readDec_out n hn)
            have hq : (decide (0 ≤ n) && decide (n ≤ 999999999999)) = false := by rw [Bool.and_eq_false_iff, decide_eq_false_iff_not, decide_eq_false_iff_not]; omega
            by_cases hn0 : 0 ≤ n
            · have hnb : 999999999999 < n := by omega
              clear hn hq
              go_wp2_with fail
              refine (implReadDec _ _ hso).mono ?_
              rintro e W9 ⟨rfl, hb9⟩
              have hB9 := hBx.trans ((below_either hb9).mono hBx.size)
              rw [HR.out]
              go_wp2
              go_ret
              exact ⟨rfl, hB9⟩
            · clear hn hq
              go_wp2_with fail
              refine (implReadDec _ _ hso).mono ?_
              rintro e W9 ⟨rfl, hb9⟩
              have hB9 := hBx.trans ((below_either hb9).mono hBx.size)
              rw [HR.out]
              go_wp2
              go_ret
              exact ⟨rfl, hB9⟩
        · clear hm
          by_cases hn : 0 ≤ n ∧ n ≤ 999999999999
          · have HR := Lib.hid (readDec_in n hn.1 hn.2)
            obtain ⟨hna, hnb⟩ := hn
            go_wp2_with fail
            refine (implReadDec _ _ hso).mono ?_
            rintro e W9 ⟨rfl, hb9⟩
            have hB9 := hBx.trans ((below_either hb9).mono hBx.size)
            rw [HR.out]
            go_wp2
            go_ret
            exact ⟨rfl, hB9⟩
          · have HR := Lib.hid (readDec_out n hn)
            have hq : (decide (0 ≤ n) && decide (n ≤ 999999999999)) = false := by rw [Bool.and_eq_false_iff, decide_eq_false_iff_not, decide_eq_false_iff_not]; omega
            by_cases hn0 : 0 ≤ n
            · have hnb : 999999999999 < n := by omega
              clear hn hq
              go_wp2_with fail
              refine (implReadDec _ _ hso).mono ?_
              rintro e W9 ⟨rfl, hb9⟩
              have hB9 := hBx.trans ((below_either hb9).mono hBx.size)
              rw [HR.out]
              go_wp2
              go_ret
              exact ⟨rfl, hB9⟩
            · clear hn hq
              go_wp2_with fail
              refine (implReadDec _ _ hso).mono ?_
              rintro e W9 ⟨rfl, hb9⟩
              have hB9 := hBx.trans ((below_either hb9).mono hBx.size)
              rw [HR.out]
              go_wp2
              go_ret
              exact ⟨rfl, hB9⟩
    · have he := nonempty_text hp0
      have hsz : (strOf (padV x d)).size = (padV x d).length := strOf_size _
      clear hp0
      by_cases hm : 0 ≤ m ∧ m < 512
      · obtain ⟨u, rfl⟩ : ∃ u : Nat, m = u := ⟨m.toNat, by omega⟩
        have hu : u < 512 := by omega
        have hu2 : (u : Int) < 512 := by omega
        rw [octV_is u hu]
        have hcut := cutOct u
        clear hm hm1 hm2
        go_wp2_with fail
        refine (implReadOct _ _ (by rw [strOf_size]; simp [octTail, maxLen])).mono ?_
        rintro e W7 ⟨rfl, hb7⟩
        rw [strOf_data, readOct4 u hu]
        have hB7 := hB6.trans (hb7.mono hB6.size)
        go_wp2_with fail
        refine (implReadOct _ _ (by rw [strOf_size]; simp [octTail, maxLen])).mono ?_
        rintro e W8 ⟨rfl, hb8⟩
        rw [strOf_data, readOct3 u hu]
        have hBx := hB7.trans (hb8.mono hB7.size)
        by_cases hn : 0 ≤ n ∧ n ≤ 999999999999
        · have HR := Lib.hid (readDec_in n hn.1 hn.2)
          obtain ⟨hna, hnb⟩ := hn
          go_wp2_with fail
          refine (implReadDec _ _ hso).mono ?_
          rintro e W9 ⟨rfl, hb9⟩
          have hB9 := hBx.trans ((below_either hb9).mono hBx.size)
          rw [HR.out]
          go_wp2
          go_ret
          exact ⟨rfl, hB9⟩
        · have HR := Lib.hid (readDec_out n hn)
          have hq : (decide (0 ≤ n) && decide (n ≤ 999999999999)) = false := by rw [Bool.and_eq_false_iff, decide_eq_false_iff_not, decide_eq_false_iff_not]; omega
          by_cases hn0 : 0 ≤ n
          · have hnb : 999999999999 < n := by omega
            clear hn hq
            go_wp2_with fail
            refine (implReadDec _ _ hso).mono ?_
            rintro e W9 ⟨rfl, hb9⟩
            have hB9 := hBx.trans ((below_either hb9).mono hBx.size)
            rw [HR.out]
            go_wp2
            go_ret
            exact ⟨rfl, hB9⟩
          · clear hn hq
            go_wp2_with fail
            refine (implReadDec _ _ hso).mono ?_
            rintro e W9 ⟨rfl, hb9⟩
            have hB9 := hBx.trans ((below_either hb9).mono hBx.size)
            rw [HR.out]
            go_wp2
            go_ret
            exact ⟨rfl, hB9⟩
      · have hBx := hB6
        by_cases hm0 : 0 ≤ m
        · have hmb : 512 ≤ m := by omega
          clear hm
          by_cases hn : 0 ≤ n ∧ n ≤ 999999999999
          · have HR := Lib.hid (readDec_in n hn.1 hn.2)
            obtain ⟨hna, hnb⟩ := hn
            go_wp2_with fail
            refine (implReadDec _ _ hso).mono ?_
            rintro e W9 ⟨rfl, hb9⟩
            have hB9 := hBx.trans ((below_either hb9).mono hBx.size)
            rw [HR.out]
            go_wp2
            go_ret
            exact ⟨rfl, hB9⟩
          · have HR := Lib.hid (readDec_out n hn)
            have hq : (decide (0 ≤ n) && decide (n ≤ 999999999999)) = false := by rw [Bool.and_eq_false_iff, decide_eq_false_iff_not, decide_eq_false_iff_not]; omega
            by_cases hn0 : 0 ≤ n
            · have hnb : 999999999999 < n := by omega
              clear hn hq
              go_wp2_with fail
              refine (implReadDec _ _ hso).mono ?_
              rintro e W9 ⟨rfl, hb9⟩
              have hB9 := hBx.trans ((below_either hb9).mono hBx.size)
              rw [HR.out]
              go_wp2
              go_ret
              exact ⟨rfl, hB9⟩
            · clear hn hq
              go_wp2_with fail
              refine (implReadDec _ _ hso).mono ?_
              rintro e W9 ⟨rfl, hb9⟩
              have hB9 := hBx.trans ((below_either hb9).mono hBx.size)
              rw [HR.out]
              go_wp2
              go_ret
              exact ⟨rfl, hB9⟩
        · clear hm
          by_cases hn : 0 ≤ n ∧ n ≤ 999999999999
          · have HR := Lib.hid (readDec_in n hn.1 hn.2)
            obtain ⟨hna, hnb⟩ := hn
            go_wp2_with fail
            refine (implReadDec _ _ hso).mono ?_
            rintro e W9 ⟨rfl, hb9⟩
            have hB9 := hBx.trans ((below_either hb9).mono hBx.size)
            rw [HR.out]
            go_wp2
            go_ret
            exact ⟨rfl, hB9⟩
          · have HR := Lib.hid (readDec_out n hn)
            have hq : (decide (0 ≤ n) && decide (n ≤ 999999999999)) = false := by rw [Bool.and_eq_false_iff, decide_eq_false_iff_not, decide_eq_false_iff_not]; omega
            by_cases hn0 : 0 ≤ n
            · have hnb : 999999999999 < n := by omega
              clear hn hq
              go_wp2_with fail
              refine (implReadDec _ _ hso).mono ?_
              rintro e W9 ⟨rfl, hb9⟩
              have hB9 := hBx.trans ((below_either hb9).mono hBx.size)
              rw [HR.out]
              go_wp2
              go_ret
              exact ⟨rfl, hB9⟩
            · clear hn hq
              go_wp2_with fail
              refine (implReadDec _ _ hso).mono ?_
              rintro e W9 ⟨rfl, hb9⟩
              have hB9 := hBx.trans ((below_either hb9).mono hBx.size)
              rw [HR.out]
              go_wp2
              go_ret
              exact ⟨rfl, hB9⟩
  · go_enter Tryd.func3, Tryd.ntmps3
    go_wp2_with (go_at_call 7; refine (bigT _ _ _ _ hlen).mono ?_; rintro e w' ⟨rfl, rfl⟩)
    go_ret
    exact ⟨rfl, Below.refl _ _⟩
end Go.Proofs.YtlkmpmlcjiiboaaDoor
