/- What AgeOf tells, as a plain function; the contract of spec.AgeOf. -/
import Derived.Test.YtbikcldkaogfmaaDoorUnits
import Derived.Test.YtbikcldkaogfmaaDoorSize
namespace Go.Proofs.YtbikcldkaogfmaaDoor
open Go.RowKit

/-- The parts of an age from a place on, with the sum up to there. -/
def ageL : Nat → List UInt8 → Int → Int
  | 0, _, x => x
  | f + 1, l, x => if l = [] then x
    else if (1 ≤ lead l ∧ lead l ≤ 9) ∧ unitV (l.drop (lead l)) ≠ 0 then
      (if x + (dnum (l.take (lead l)) : Int) * unitV (l.drop (lead l)) ≤ 253402300799 then ageL f (l.drop (lead l + 1)) (x + (dnum (l.take (lead l)) : Int) * unitV (l.drop (lead l))) else -1)
    else -1
def ageV (l : List UInt8) : Int := if l = [] then -1 else if 0 ≤ numL l 9 then numL l 9 else ageL (l.length + 1) l 0
theorem ageL_nil (f : Nat) (x : Int) : ageL f [] x = x := by cases f <;> simp [ageL]
theorem ageL_bad {f : Nat} {l : List UInt8} {x : Int} (hl : l ≠ []) (h : ¬ ((1 ≤ lead l ∧ lead l ≤ 9) ∧ unitV (l.drop (lead l)) ≠ 0)) : ageL (f + 1) l x = -1 := by
  rw [ageL, if_neg hl, if_neg h]
theorem ageL_great {f : Nat} {l : List UInt8} {x : Int} (hl : l ≠ []) (h : (1 ≤ lead l ∧ lead l ≤ 9) ∧ unitV (l.drop (lead l)) ≠ 0)
    (h2 : ¬ x + (dnum (l.take (lead l)) : Int) * unitV (l.drop (lead l)) ≤ 253402300799) : ageL (f + 1) l x = -1 := by
  rw [ageL, if_neg hl, if_pos h, if_neg h2]
theorem ageL_step {f : Nat} {l : List UInt8} {x : Int} (hl : l ≠ []) (h : (1 ≤ lead l ∧ lead l ≤ 9) ∧ unitV (l.drop (lead l)) ≠ 0)
    (h2 : x + (dnum (l.take (lead l)) : Int) * unitV (l.drop (lead l)) ≤ 253402300799) : ageL (f + 1) l x = ageL f (l.drop (lead l + 1)) (x + (dnum (l.take (lead l)) : Int) * unitV (l.drop (lead l))) := by
  rw [ageL, if_neg hl, if_pos h, if_pos h2]
theorem dnum_lead {l : List UInt8} (h : lead l ≤ 9) : (dnum (l.take (lead l)) : Int) ≤ 999999999 := by
  have := dnum_lt _ _ rfl (lead_all l)
  have h2 : 10 ^ (l.take (lead l)).length ≤ 10 ^ 9 := Nat.pow_le_pow_right (by decide) (by simp; omega)
  omega
theorem mul_bd {a b : Int} (h0 : 0 ≤ a) (h1 : a ≤ 999999999) (h2 : 0 ≤ b) (h3 : b ≤ 604800) : 0 ≤ a * b ∧ a * b ≤ 604799999395200 := by
  refine ⟨Int.mul_nonneg h0 h2, ?_⟩
  calc a * b ≤ 999999999 * b := Int.mul_le_mul_of_nonneg_right h1 h2
    _ ≤ 999999999 * 604800 := Int.mul_le_mul_of_nonneg_left h3 (by decide)
    _ = 604799999395200 := by decide
theorem unit_at (s : ByteArray) (m : Nat) (h : m < s.size) : unitV (s.data.toList.drop m) = unitB s[m] := by
  unfold unitV
  rw [List.head?_drop, byte_at s m h]
theorem unit_off (s : ByteArray) (m : Nat) (h : s.size ≤ m) : unitV (s.data.toList.drop m) = 0 := by
  rw [List.drop_of_length_le (by simpa using h)]; rfl
theorem num_lead (s : ByteArray) (i : Nat) (h : 1 ≤ lead (s.data.toList.drop i) ∧ lead (s.data.toList.drop i) ≤ 9) :
    numOf (s.extract i (i + lead (s.data.toList.drop i))) 9 = (dnum ((s.data.toList.drop i).take (lead (s.data.toList.drop i))) : Int) := by
  have e : (s.extract i (i + lead (s.data.toList.drop i))).data.toList = (s.data.toList.drop i).take (lead (s.data.toList.drop i)) := by rw [Lib.extract_data]; simp
  have hl := lead_le (s.data.toList.drop i)
  rw [show (9 : Int) = ((9 : Nat) : Int) from rfl, numOf_numL, e]
  unfold numL
  rw [lead_all, if_pos]
  refine ⟨?_, rfl⟩
  rw [List.length_take]
  omega

set_option maxRecDepth 100000 in
set_option maxHeartbeats 4000000 in
theorem specAgeOf (s : ByteArray) (w : World) (hs : s.size ≤ 1048576) :
    Calls Tryd.prog 23 #[.string s] w fun e w' => e = .returned (.int .i64 (ageV s.data.toList)) ∧ Below w.heap.size w w' := by
  have hlen : s.data.toList.length = s.size := by simp
  have hsi : (s.size : Int) ≤ 1048576 := by omega
  have hsm : s.size ≤ maxLen := by unfold maxLen; omega
  have n1 : numOf s 9 = numL s.data.toList 9 := numOf_numL s 9
  by_cases h0 : s.data.toList = []
  · rw [show ageV s.data.toList = -1 from if_pos h0]
    have hn : numOf s 9 = -1 := by rw [n1, h0]; rfl
    have he : s.toList = [] := by rw [Lib.toList_data]; exact h0
    clear n1 h0 hlen
    go_enter Tryd.func23, Tryd.ntmps23
    go_wp2_with (go_at_call 36; refine (specNum _ _ _ (by omega)).mono ?_; rintro e w' ⟨rfl, rfl⟩)
    go_ret
    exact ⟨rfl, Below.refl _ _⟩
  by_cases h1 : 0 ≤ numL s.data.toList 9
  · rw [show ageV s.data.toList = numL s.data.toList 9 by unfold ageV; rw [if_neg h0, if_pos h1], ← n1]
    rw [← n1] at h1
    clear n1 h0 hlen
    go_enter Tryd.func23, Tryd.ntmps23
    go_wp2_with (go_at_call 36; refine (specNum _ _ _ (by omega)).mono ?_; rintro e w' ⟨rfl, rfl⟩)
    go_ret
    exact ⟨rfl, Below.refl _ _⟩
  · obtain ⟨T, hT⟩ : ∃ T, ageL (s.size + 1) s.data.toList 0 = T := ⟨_, rfl⟩
    rw [show ageV s.data.toList = T by unfold ageV; rw [if_neg h0, if_neg h1, hlen, hT]]
    have HT := Lib.hid hT
    have he : s.toList.isEmpty = false := by
      rw [Lib.toList_data]
      cases hq : s.data.toList with
      | nil => exact absurd hq h0
      | cons a t => rfl
    have h1' : numOf s 9 < 0 := by rw [n1]; omega
    have CD := Lib.hid (fun (i : Nat) W (hi : i ≤ 4611686018427387904) => specDigits s i W hsm hi)
    clear n1 h0 hlen h1 hT
    go_enter Tryd.func23, Tryd.ntmps23
    go_wp2_with (go_at_call 36; refine (specNum _ _ _ (by omega)).mono ?_; rintro e w' ⟨rfl, rfl⟩)
    go_loopw [4, 5, 6] (fun xv iv _ wr => ∃ (x : Int) (i f : Nat), xv = .int .i64 x ∧ iv = .int .i64 i ∧ i ≤ s.size ∧ 0 ≤ x ∧ x ≤ 253402300799 ∧ s.size - i < f ∧ Hid (ageL f (s.data.toList.drop i) x = T) ∧ Below w.heap.size w wr) (fun _ iv _ _ => s.size - (intOf iv).toNat)
    case atStart => exact ⟨0, 0, s.size + 1, rfl, rfl, by omega, by omega, by omega, by omega, HT, Below.refl _ _⟩
    case round =>
      obtain ⟨x, i, f, rfl, rfl, hi, hx0, hx1, hf, HA, hb⟩ := hrel
      obtain ⟨f, rfl⟩ : ∃ g, f = g + 1 := ⟨f - 1, by omega⟩
      by_cases hlt : i < s.size
      · have hne : s.data.toList.drop i ≠ [] := by
          intro e; have := congrArg List.length e; simp at this; omega
        have HNE := Lib.hid hne
        obtain ⟨n, hn⟩ : ∃ n, lead (s.data.toList.drop i) = n := ⟨_, rfl⟩
        have hnl : n ≤ s.size - i := by have := lead_le (s.data.toList.drop i); rw [hn] at this; simpa using this
        have hdd : (s.data.toList.drop i).drop n = s.data.toList.drop (i + n) := by rw [List.drop_drop]
        have HN := Lib.hid hn
        have HDD := Lib.hid hdd
        clear hne hn hdd
        have CDi := Lib.hid (fun W => CD.out i W (by omega))
        rw [HN.out] at CDi
        by_cases g1 : n < 1
        · have HB := Lib.hid (ageL_bad (f := f) (x := x) HNE.out (by rw [HN.out]; omega))
          go_wp2_with (go_at_call 35; refine (CDi.out _).mono ?_; rintro e w' ⟨rfl, rfl⟩)
          go_ret
          exact ⟨ret_int (by rw [← HA.out, HB.out]), hb⟩
        by_cases g2 : 9 < n
        · have HB := Lib.hid (ageL_bad (f := f) (x := x) HNE.out (by rw [HN.out]; omega))
          go_wp2_with (go_at_call 35; refine (CDi.out _).mono ?_; rintro e w' ⟨rfl, rfl⟩)
          go_ret
          exact ⟨ret_int (by rw [← HA.out, HB.out]), hb⟩
        by_cases g3 : i + n < s.size
        rotate_left
        · have HB := Lib.hid (ageL_bad (f := f) (x := x) HNE.out (by rw [HN.out, HDD.out, unit_off s _ (by omega)]; simp))
          have g3' : ¬ ((i : Int) + (n : Int) < s.size) := by omega
          go_wp2_with (go_at_call 35; refine (CDi.out _).mono ?_; rintro e w' ⟨rfl, rfl⟩)
          go_ret
          exact ⟨ret_int (by rw [← HA.out, HB.out]), hb⟩
        have g3' : (i : Int) + (n : Int) < s.size := by omega
        have HU := Lib.hid (unit_at s (i + n) g3)
        have CU := Lib.hid (fun W => specUnit (s[i + n]) W)
        obtain ⟨u, hu⟩ : ∃ u, unitB s[i + n] = u := ⟨_, rfl⟩
        rw [hu] at HU CU
        have hub := unitB_bd s[i + n]
        rw [hu] at hub
        clear hu
        by_cases g4 : u = 0
        · have HB := Lib.hid (ageL_bad (f := f) (x := x) HNE.out (by rw [HN.out, HDD.out, HU.out, g4]; simp))
          subst g4
          go_wp2_with (first | (go_at_call 35; refine (CDi.out _).mono ?_; rintro e w' ⟨rfl, rfl⟩) | (go_at_call 48; refine (CU.out _).mono ?_; rintro e w' ⟨rfl, rfl⟩))
          go_ret
          exact ⟨ret_int (by rw [← HA.out, HB.out]), hb⟩
        have hcond : (1 ≤ lead (s.data.toList.drop i) ∧ lead (s.data.toList.drop i) ≤ 9) ∧ unitV ((s.data.toList.drop i).drop (lead (s.data.toList.drop i))) ≠ 0 := by
          rw [HN.out, HDD.out, HU.out]; omega
        have hq := num_lead s i hcond.1
        have hqb := dnum_lead hcond.1.2
        rw [HN.out] at hq hqb
        have HST := Lib.hid (ageL_step (f := f) (x := x) HNE.out hcond)
        have HGR := Lib.hid (ageL_great (f := f) (x := x) HNE.out hcond)
        rw [HN.out, HDD.out, HU.out] at HST HGR
        have hq0 : (0 : Int) ≤ (dnum ((s.data.toList.drop i).take n) : Int) := by omega
        generalize (dnum ((s.data.toList.drop i).take n) : Int) = q at hq hqb hq0 HST HGR
        obtain ⟨hm0, hm1⟩ := mul_bd hq0 hqb hub.1 hub.2
        rw [List.drop_drop, show i + (n + 1) = i + n + 1 by omega] at HST
        have CNq := Lib.hid (show ∀ W m, Calls Tryd.prog 36 #[.string (s.extract i (i + n)), .int .i64 9] (World.drewN W m) fun e w'' => e = .returned (.int .i64 q) ∧ ∃ k, w'' = W.drewN k from
          fun W m => (specNum (s.extract i (i + n)) 9 _ (by omega)).mono fun _ _ ⟨he, hw⟩ => ⟨hq ▸ he, m, hw.symm⟩)
        have CUq := Lib.hid (show ∀ W m, Calls Tryd.prog 48 #[.int .u8 s[i + n].toNat] (World.drewN W m) fun e w'' => e = .returned (.int .i64 u) ∧ ∃ k, w'' = W.drewN k from
          fun W m => (CU.out _).mono fun _ _ ⟨he, hw⟩ => ⟨he, m, hw.symm⟩)
        have hsl : ∀ W : World, (Instr.slice 9 (.string s) (some (.int .i64 (i : Int))) (some (.int .i64 ((i : Int) + (n : Int)))) none).run Tryd.prog W = .ok (.string (s.extract i (i + n))) W := fun W => by
          rw [run_slice_string W 9 s .i64 .i64 _ _ Tryd.underlying9 (by omega) (by omega) (by omega)]
          rw [show ((i : Int)).toNat = i by omega, show ((i : Int) + (n : Int)).toNat = i + n by omega]
        have g4' : (u == 0) = false := by simpa using g4
        obtain ⟨hu0, hu1⟩ := hub
        clear hcond hq
        by_cases g5 : x + q * u ≤ 253402300799
        · go_wp2_with (first | (go_at_call 35; refine (CDi.out _).mono ?_; rintro e w' ⟨rfl, rfl⟩) | (go_at_call 48; refine (CU.out _).mono ?_; rintro e w' ⟨rfl, rfl⟩))
          go_quiet (first | exact CNq.out _ _ | exact CUq.out _ _)
          go_wp2
          go_roundw
          case rel => exact ⟨x + q * u, i + n + 1, f, by go_num, by go_num, by omega, by omega, g5, by omega, Lib.hid (by rw [← HA.out, HST.out g5]), below_drewN hb _⟩
          case measure => simp [intOf]; omega
        · have HB := Lib.hid (HGR.out g5)
          go_wp2_with (first | (go_at_call 35; refine (CDi.out _).mono ?_; rintro e w' ⟨rfl, rfl⟩) | (go_at_call 48; refine (CU.out _).mono ?_; rintro e w' ⟨rfl, rfl⟩))
          go_quiet (first | exact CNq.out _ _ | exact CUq.out _ _)
          go_wp2
          go_ret
          exact ⟨ret_int (by rw [← HA.out, HB.out]), below_drewN hb _⟩
      · obtain rfl : i = s.size := by omega
        have HE := Lib.hid (show ageL (f + 1) (s.data.toList.drop s.size) x = x by rw [List.drop_of_length_le (by simp)]; exact ageL_nil _ _)
        go_wp2
        go_ret
        exact ⟨ret_int (by rw [← HA.out, HE.out]), hb⟩
end Go.Proofs.YtbikcldkaogfmaaDoor
