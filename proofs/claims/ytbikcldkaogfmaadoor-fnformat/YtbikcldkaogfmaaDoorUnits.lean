/- The letters of ages: spec.l03Unit, impl.unitAhead; spec.l03Digits. -/
import Derived.Test.YtbikcldkaogfmaaDoorLead
import Derived.Test.YtbikcldkaogfmaaDoorDecText
import Derived.Test.YtbikcldkaogfmaaDoorLaid3
namespace Go.Proofs.YtbikcldkaogfmaaDoor
open Go.RowKit

/-- The seconds of a letter. -/
def unitB (c : UInt8) : Int := if c = 119 then 604800 else if c = 100 then 86400 else if c = 104 then 3600 else if c = 109 then 60 else if c = 115 then 1 else 0
def unitV (l : List UInt8) : Int := match l.head? with | none => 0 | some c => unitB c
theorem unitB_bd (c : UInt8) : 0 ≤ unitB c ∧ unitB c ≤ 604800 := by
  unfold unitB; repeat' split
  all_goals omega

theorem specUnit (c : UInt8) (w : World) :
    Calls Tryd.prog 48 #[.int .u8 c.toNat] w fun e w' => e = .returned (.int .i64 (unitB c)) ∧ w = w' := by
  have ne : ∀ n : UInt8, c ≠ n → ((c.toNat : Int) == (n.toNat : Int)) = false := fun n h => by
    simp; intro e; exact h (UInt8.toNat_inj.mp (by omega))
  by_cases k1 : c = 119
  · subst k1
    go_enter Tryd.func48, Tryd.ntmps48
    go_wp2
    go_ret
    exact ⟨rfl, rfl⟩
  by_cases k2 : c = 100
  · subst k2
    go_enter Tryd.func48, Tryd.ntmps48
    go_wp2
    go_ret
    exact ⟨rfl, rfl⟩
  by_cases k3 : c = 104
  · subst k3
    go_enter Tryd.func48, Tryd.ntmps48
    go_wp2
    go_ret
    exact ⟨rfl, rfl⟩
  by_cases k4 : c = 109
  · subst k4
    go_enter Tryd.func48, Tryd.ntmps48
    go_wp2
    go_ret
    exact ⟨rfl, rfl⟩
  by_cases k5 : c = 115
  · subst k5
    go_enter Tryd.func48, Tryd.ntmps48
    go_wp2
    go_ret
    exact ⟨rfl, rfl⟩
  have n1 : ((c.toNat : Int) == 119) = false := ne 119 k1
  have n2 : ((c.toNat : Int) == 100) = false := ne 100 k2
  have n3 : ((c.toNat : Int) == 104) = false := ne 104 k3
  have n4 : ((c.toNat : Int) == 109) = false := ne 109 k4
  have n5 : ((c.toNat : Int) == 115) = false := ne 115 k5
  rw [show unitB c = 0 by unfold unitB; rw [if_neg k1, if_neg k2, if_neg k3, if_neg k4, if_neg k5]]
  clear ne
  go_enter Tryd.func48, Tryd.ntmps48
  go_wp2
  go_ret
  exact ⟨rfl, rfl⟩

theorem specDigits (s : ByteArray) (i : Nat) (w : World) (hs : s.size ≤ maxLen) (hi : i ≤ 4611686018427387904) :
    Calls Tryd.prog 35 #[.string s, .int .i64 i] w fun e w' => e = .returned (.int .i64 (lead (s.data.toList.drop i))) ∧ w = w' := by
  unfold maxLen at hs
  have hle : lead (s.data.toList.drop i) ≤ s.size - i := by have := lead_le (s.data.toList.drop i); simpa using this
  go_enter Tryd.func35, Tryd.ntmps35
  go_wp2
  go_loop [5] (fun n => ∃ k : Nat, k ≤ lead (s.data.toList.drop i) ∧ n = .int .i64 k) (fun n => s.size - (intOf n).toNat)
  case atStart => exact ⟨0, Nat.zero_le _, rfl⟩
  case round =>
    obtain ⟨k, hk, rfl⟩ := hrel
    by_cases h1 : i + k < s.size
    · have hat : (s.data.toList.drop i)[k]? = some s[i + k] := by rw [List.getElem?_drop]; exact byte_at s _ h1
      have h1i : (i : Int) + (k : Int) < s.size := by omega
      by_cases h2 : k < lead (s.data.toList.drop i)
      · have hd := lead_at _ _ _ hat h2
        clear hat
        go_wp2_with (go_at_call 64; refine (specDigit _ _).mono ?_; rintro e w' ⟨rfl, rfl⟩)
        go_round
        case rel => exact ⟨k + 1, by omega, by go_num⟩
        case measure => simp [intOf]; omega
      · obtain rfl : k = lead (s.data.toList.drop i) := by omega
        have hd := lead_end _ _ hat
        clear hat
        go_wp2_with (go_at_call 64; refine (specDigit _ _).mono ?_; rintro e w' ⟨rfl, rfl⟩)
        go_ret
        exact ⟨rfl, rfl⟩
    · have h1i : ¬ ((i : Int) + (k : Int) < s.size) := by omega
      have hk2 : k = lead (s.data.toList.drop i) := by omega
      go_wp2
      go_ret
      exact ⟨ret_int (by first | rfl | rw [hk2]), rfl⟩

theorem unit_hit {l : List UInt8} {x : UInt8} {z : Int} (h : l.head? = some x) (hx : unitB x = z) : unitV l = z := by unfold unitV; rw [h]; exact hx
theorem unit_none {l : List UInt8} (h : ∀ x : UInt8, x = 119 ∨ x = 100 ∨ x = 104 ∨ x = 109 ∨ x = 115 → l.head? ≠ some x) : unitV l = 0 := by
  unfold unitV
  cases hq : l.head? with
  | none => rfl
  | some c =>
    have n : ∀ x : UInt8, x = 119 ∨ x = 100 ∨ x = 104 ∨ x = 109 ∨ x = 115 → c ≠ x := fun x hx e => h x hx (by rw [hq, e])
    simp only
    unfold unitB
    rw [if_neg (n 119 (by simp)), if_neg (n 100 (by simp)), if_neg (n 104 (by simp)), if_neg (n 109 (by simp)), if_neg (n 115 (by simp))]
theorem preIn (s p : ByteArray) (w : World) (hp : p.size = 1) (hs : s.size ≤ maxLen) :
    Calls Tryd.prog 81 #[.string s, .string p] w fun e w' => e = .returned (.bool (decide (1 ≤ s.size) && ((s.extract 0 1).toList == p.toList))) ∧ w' = w := by
  unfold maxLen at hs
  by_cases h : 1 ≤ s.size
  · rw [show (decide (1 ≤ s.size) && ((s.extract 0 1).toList == p.toList)) = ((s.extract 0 1).toList == p.toList) by simp [h]]
    have h2 : (1 : Int) ≤ s.size := by omega
    go_enter Tryd.func81, Tryd.ntmps81
    go_wp2
    go_ret
    exact ⟨rfl, rfl⟩
  · rw [show (decide (1 ≤ s.size) && ((s.extract 0 1).toList == p.toList)) = false by simp [h]]
    have h2 : ¬ (1 : Int) ≤ s.size := by omega
    go_enter Tryd.func81, Tryd.ntmps81
    go_wp2
    go_ret
    exact ⟨rfl, rfl⟩
theorem pre_is (s : ByteArray) (x : UInt8) : (decide (1 ≤ s.size) && ((s.extract 0 1).toList == (⟨#[x]⟩ : ByteArray).toList)) = decide (s.data.toList.head? = some x) := by
  have hl : s.data.toList.length = s.size := by simp
  rw [Lib.toList_data, Lib.toList_data, Lib.extract_data]
  cases hq : s.data.toList with
  | nil => rw [hq] at hl; simp at hl; simp [← hl]
  | cons a l => rw [hq] at hl; simp at hl; simp [← hl]; rfl
theorem preOne (s : ByteArray) (x : UInt8) (w : World) (hs : s.size ≤ maxLen) :
    Calls Tryd.prog 75 #[.string s, .string ⟨#[x]⟩] w fun e w' => e = .returned (.bool (decide (s.data.toList.head? = some x))) ∧ w' = w := by
  rw [← pre_is]
  have CI := Lib.hid (fun W => preIn s ⟨#[x]⟩ W rfl hs)
  generalize (decide (1 ≤ s.size) && ((s.extract 0 1).toList == (⟨#[x]⟩ : ByteArray).toList)) = q at CI ⊢
  go_enter Tryd.func75, Tryd.ntmps75
  go_wp2_with (go_at_call 81; refine (CI.out _).mono ?_; rintro e w' ⟨rfl, rfl⟩)
  go_ret
  exact ⟨rfl, rfl⟩

theorem unit_at0 (w : World) : (Instr.index 72 (.agg #[.string ⟨#[119]⟩, .int .i64 604800, .string ⟨#[100]⟩, .int .i64 86400, .string ⟨#[104]⟩, .int .i64 3600, .string ⟨#[109]⟩, .int .i64 60, .string ⟨#[115]⟩, .int .i64 1]) (.int .i64 0)).run Tryd.prog w = .ok (.agg #[.string ⟨#[119]⟩, .int .i64 604800]) w := by kernel_rfl
theorem unit_at1 (w : World) : (Instr.index 72 (.agg #[.string ⟨#[119]⟩, .int .i64 604800, .string ⟨#[100]⟩, .int .i64 86400, .string ⟨#[104]⟩, .int .i64 3600, .string ⟨#[109]⟩, .int .i64 60, .string ⟨#[115]⟩, .int .i64 1]) (.int .i64 1)).run Tryd.prog w = .ok (.agg #[.string ⟨#[100]⟩, .int .i64 86400]) w := by kernel_rfl
theorem unit_at2 (w : World) : (Instr.index 72 (.agg #[.string ⟨#[119]⟩, .int .i64 604800, .string ⟨#[100]⟩, .int .i64 86400, .string ⟨#[104]⟩, .int .i64 3600, .string ⟨#[109]⟩, .int .i64 60, .string ⟨#[115]⟩, .int .i64 1]) (.int .i64 2)).run Tryd.prog w = .ok (.agg #[.string ⟨#[104]⟩, .int .i64 3600]) w := by kernel_rfl
theorem unit_at3 (w : World) : (Instr.index 72 (.agg #[.string ⟨#[119]⟩, .int .i64 604800, .string ⟨#[100]⟩, .int .i64 86400, .string ⟨#[104]⟩, .int .i64 3600, .string ⟨#[109]⟩, .int .i64 60, .string ⟨#[115]⟩, .int .i64 1]) (.int .i64 3)).run Tryd.prog w = .ok (.agg #[.string ⟨#[109]⟩, .int .i64 60]) w := by kernel_rfl
theorem unit_at4 (w : World) : (Instr.index 72 (.agg #[.string ⟨#[119]⟩, .int .i64 604800, .string ⟨#[100]⟩, .int .i64 86400, .string ⟨#[104]⟩, .int .i64 3600, .string ⟨#[109]⟩, .int .i64 60, .string ⟨#[115]⟩, .int .i64 1]) (.int .i64 4)).run Tryd.prog w = .ok (.agg #[.string ⟨#[115]⟩, .int .i64 1]) w := by kernel_rfl

def letterAt (k : Nat) : UInt8 := [119, 100, 104, 109, 115].getD k 0
set_option maxRecDepth 100000 in
set_option maxHeartbeats 4000000 in
theorem implUnitAhead (s : ByteArray) (w : World) (hT : TabsU w) (hs : s.size ≤ maxLen) :
    Calls Tryd.prog 50 #[.string s] w fun e w' => e = .returned (.int .i64 (unitV s.data.toList)) ∧ Below w.heap.size w w' := by
  have c0 : w.cell? ⟨0, 0, none⟩ = some (.string ⟨#[119]⟩) := hT.cell 0
  have c1 : w.cell? ⟨0, 1, none⟩ = some (.int .i64 604800) := hT.cell 1
  have c2 : w.cell? ⟨0, 2, none⟩ = some (.string ⟨#[100]⟩) := hT.cell 2
  have c3 : w.cell? ⟨0, 3, none⟩ = some (.int .i64 86400) := hT.cell 3
  have c4 : w.cell? ⟨0, 4, none⟩ = some (.string ⟨#[104]⟩) := hT.cell 4
  have c5 : w.cell? ⟨0, 5, none⟩ = some (.int .i64 3600) := hT.cell 5
  have c6 : w.cell? ⟨0, 6, none⟩ = some (.string ⟨#[109]⟩) := hT.cell 6
  have c7 : w.cell? ⟨0, 7, none⟩ = some (.int .i64 60) := hT.cell 7
  have c8 : w.cell? ⟨0, 8, none⟩ = some (.string ⟨#[115]⟩) := hT.cell 8
  have c9 : w.cell? ⟨0, 9, none⟩ = some (.int .i64 1) := hT.cell 9
  have CP := Lib.hid (fun x W => preOne s x W hs)
  clear hT hs
  go_enter Tryd.func50, Tryd.ntmps50
  go_wp2
  clear c0 c1 c2 c3 c4 c5 c6 c7 c8 c9
  go_loopw [4, 6] (fun _ i wr => ∃ k : Nat, k ≤ 5 ∧ i = .int .i64 k ∧ Hid (∀ j, j < k → s.data.toList.head? ≠ some (letterAt j)) ∧ Below w.heap.size w wr) (fun _ i _ => 5 - (intOf i).toNat)
  case atStart => exact ⟨0, Nat.zero_le _, rfl, Lib.hid (fun j hj => absurd hj (Nat.not_lt_zero _)), Below.refl _ _⟩
  case round =>
    obtain ⟨k, hk, rfl, HN, hb⟩ := hrel
    have hbs := hb.size
    rcases (by omega : k = 0 ∨ k = 1 ∨ k = 2 ∨ k = 3 ∨ k = 4 ∨ k = 5) with rfl | rfl | rfl | rfl | rfl | rfl
    rotate_right
    · go_wp2
      go_ret
      refine ⟨ret_int (unit_none ?_).symm, hb⟩
      rintro x (rfl | rfl | rfl | rfl | rfl)
      · exact HN.out 0 (by omega)
      · exact HN.out 1 (by omega)
      · exact HN.out 2 (by omega)
      · exact HN.out 3 (by omega)
      · exact HN.out 4 (by omega)
    · have hat := unit_at0
      by_cases hx : s.data.toList.head? = some 119
      · have HX := Lib.hid hx
        have hd : decide (s.data.toList.head? = some 119) = true := decide_eq_true hx
        clear hx
        go_wp2_with (go_at_call 75; refine (CP.out _ _).mono ?_; rintro e w' ⟨rfl, rfl⟩; rw [hd])
        go_ret
        exact ⟨ret_int (unit_hit HX.out rfl).symm, hb.alloc hbs _⟩
      · have HX := Lib.hid hx
        have hd : decide (s.data.toList.head? = some 119) = false := decide_eq_false hx
        clear hx
        go_wp2_with (go_at_call 75; refine (CP.out _ _).mono ?_; rintro e w' ⟨rfl, rfl⟩; rw [hd])
        go_roundw
        case rel => exact ⟨1, by omega, rfl, Lib.hid (fun j hj => by rcases Nat.lt_succ_iff_lt_or_eq.1 hj with h | rfl; exact HN.out j h; exact HX.out), hb.alloc hbs _⟩
        case measure => simp [intOf]
    · have hat := unit_at1
      by_cases hx : s.data.toList.head? = some 100
      · have HX := Lib.hid hx
        have hd : decide (s.data.toList.head? = some 100) = true := decide_eq_true hx
        clear hx
        go_wp2_with (go_at_call 75; refine (CP.out _ _).mono ?_; rintro e w' ⟨rfl, rfl⟩; rw [hd])
        go_ret
        exact ⟨ret_int (unit_hit HX.out rfl).symm, hb.alloc hbs _⟩
      · have HX := Lib.hid hx
        have hd : decide (s.data.toList.head? = some 100) = false := decide_eq_false hx
        clear hx
        go_wp2_with (go_at_call 75; refine (CP.out _ _).mono ?_; rintro e w' ⟨rfl, rfl⟩; rw [hd])
        go_roundw
        case rel => exact ⟨2, by omega, rfl, Lib.hid (fun j hj => by rcases Nat.lt_succ_iff_lt_or_eq.1 hj with h | rfl; exact HN.out j h; exact HX.out), hb.alloc hbs _⟩
        case measure => simp [intOf]
    · have hat := unit_at2
      by_cases hx : s.data.toList.head? = some 104
      · have HX := Lib.hid hx
        have hd : decide (s.data.toList.head? = some 104) = true := decide_eq_true hx
        clear hx
        go_wp2_with (go_at_call 75; refine (CP.out _ _).mono ?_; rintro e w' ⟨rfl, rfl⟩; rw [hd])
        go_ret
        exact ⟨ret_int (unit_hit HX.out rfl).symm, hb.alloc hbs _⟩
      · have HX := Lib.hid hx
        have hd : decide (s.data.toList.head? = some 104) = false := decide_eq_false hx
        clear hx
        go_wp2_with (go_at_call 75; refine (CP.out _ _).mono ?_; rintro e w' ⟨rfl, rfl⟩; rw [hd])
        go_roundw
        case rel => exact ⟨3, by omega, rfl, Lib.hid (fun j hj => by rcases Nat.lt_succ_iff_lt_or_eq.1 hj with h | rfl; exact HN.out j h; exact HX.out), hb.alloc hbs _⟩
        case measure => simp [intOf]
    · have hat := unit_at3
      by_cases hx : s.data.toList.head? = some 109
      · have HX := Lib.hid hx
        have hd : decide (s.data.toList.head? = some 109) = true := decide_eq_true hx
        clear hx
        go_wp2_with (go_at_call 75; refine (CP.out _ _).mono ?_; rintro e w' ⟨rfl, rfl⟩; rw [hd])
        go_ret
        exact ⟨ret_int (unit_hit HX.out rfl).symm, hb.alloc hbs _⟩
      · have HX := Lib.hid hx
        have hd : decide (s.data.toList.head? = some 109) = false := decide_eq_false hx
        clear hx
        go_wp2_with (go_at_call 75; refine (CP.out _ _).mono ?_; rintro e w' ⟨rfl, rfl⟩; rw [hd])
        go_roundw
        case rel => exact ⟨4, by omega, rfl, Lib.hid (fun j hj => by rcases Nat.lt_succ_iff_lt_or_eq.1 hj with h | rfl; exact HN.out j h; exact HX.out), hb.alloc hbs _⟩
        case measure => simp [intOf]
    · have hat := unit_at4
      by_cases hx : s.data.toList.head? = some 115
      · have HX := Lib.hid hx
        have hd : decide (s.data.toList.head? = some 115) = true := decide_eq_true hx
        clear hx
        go_wp2_with (go_at_call 75; refine (CP.out _ _).mono ?_; rintro e w' ⟨rfl, rfl⟩; rw [hd])
        go_ret
        exact ⟨ret_int (unit_hit HX.out rfl).symm, hb.alloc hbs _⟩
      · have HX := Lib.hid hx
        have hd : decide (s.data.toList.head? = some 115) = false := decide_eq_false hx
        clear hx
        go_wp2_with (go_at_call 75; refine (CP.out _ _).mono ?_; rintro e w' ⟨rfl, rfl⟩; rw [hd])
        go_roundw
        case rel => exact ⟨5, by omega, rfl, Lib.hid (fun j hj => by rcases Nat.lt_succ_iff_lt_or_eq.1 hj with h | rfl; exact HN.out j h; exact HX.out), hb.alloc hbs _⟩
        case measure => simp [intOf]
end Go.Proofs.YtbikcldkaogfmaaDoor
