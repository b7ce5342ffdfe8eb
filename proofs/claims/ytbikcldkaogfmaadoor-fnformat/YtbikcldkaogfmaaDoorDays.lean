/- Contracts of the spec's functions on days: l02Leap, MonthDays, DateOk, l02Years, l02Time, DateOf, TimeOf, Weekday. -/
import Derived.Test.YtbikcldkaogfmaaDoorCal
import Derived.Test.YtbikcldkaogfmaaDoorText1
import Derived.Lib.QuietBelow
namespace Go.Proofs.YtbikcldkaogfmaaDoor
open Go.RowKit

theorem beq_mod (y k : Int) : (y % k == 0) = decide (y % k = 0) := by
  by_cases h : y % k = 0 <;> simp [h]

theorem specLeap (y : Int) (w : World) (h1 : 1 ≤ y) (h2 : y ≤ 9999) :
    Calls Tryd.prog 77 #[.int .i64 y] w fun e w' => e = .returned (.bool (leapB y)) ∧ w = w' := by
  by_cases a4 : y % 4 = 0
  · by_cases a100 : y % 100 = 0
    · by_cases a400 : y % 400 = 0
      · rw [leapB_t.2 (by omega)]
        have b : (y % 400 == 0) = true := by simpa using a400
        clear a400
        go_enter Tryd.func77, Tryd.ntmps77
        go_wp2
        go_ret
        exact ⟨rfl, rfl⟩
      · rw [leapB_f.2 (by omega)]
        have b : (y % 400 == 0) = false := by simpa using a400
        clear a400
        go_enter Tryd.func77, Tryd.ntmps77
        go_wp2
        go_ret
        exact ⟨rfl, rfl⟩
    · rw [leapB_t.2 (by omega)]
      have b : (y % 100 != 0) = true := by simpa using a100
      clear a100
      go_enter Tryd.func77, Tryd.ntmps77
      go_wp2
      go_ret
      exact ⟨rfl, rfl⟩
  · rw [leapB_f.2 (by omega)]
    have b4 : (y % 4 == 0) = false := by simpa using a4
    have b400 : (y % 400 == 0) = false := by simp; omega
    clear a4
    go_enter Tryd.func77, Tryd.ntmps77
    go_wp2
    go_ret
    exact ⟨rfl, rfl⟩

set_option maxRecDepth 100000 in
set_option maxHeartbeats 1000000 in
theorem specMonthDays (y m : Int) (w : World) :
    Calls Tryd.prog 68 #[.int .i64 y, .int .i64 m] w fun e w' => e = .returned (.int .i64 (mdays y m)) ∧ Below w.heap.size w w' := by
  by_cases hy : 1 ≤ y ∧ y ≤ 9999
  · by_cases hm : 1 ≤ m ∧ m ≤ 12
    · have iy : inB y 1 9999 = true := inB_t hy.1 hy.2
      have im : inB m 1 12 = true := inB_t hm.1 hm.2
      rw [mdays_in hy.1 hy.2 hm.1 hm.2]
      obtain ⟨hy1, hy2⟩ := hy
      by_cases h2 : m = 2
      · subst h2
        clear hm
        cases hl : leapB y
        · rw [show mlen y 2 = 28 by unfold mlen; rw [if_pos rfl, hl]; rfl]
          go_enter Tryd.func68, Tryd.ntmps68
          go_wp2_with (first | (go_at_call 65; refine (specIn _ _ _ _).mono ?_; rintro e w' ⟨rfl, rfl⟩) | (go_at_call 77; refine (specLeap _ _ hy1 hy2).mono ?_; rintro e w' ⟨rfl, rfl⟩))
          go_ret
          exact ⟨rfl, (Below.refl _ _).alloc (Nat.le_refl _) _⟩
        · rw [show mlen y 2 = 29 by unfold mlen; rw [if_pos rfl, hl]; rfl]
          go_enter Tryd.func68, Tryd.ntmps68
          go_wp2_with (first | (go_at_call 65; refine (specIn _ _ _ _).mono ?_; rintro e w' ⟨rfl, rfl⟩) | (go_at_call 77; refine (specLeap _ _ hy1 hy2).mono ?_; rintro e w' ⟨rfl, rfl⟩))
          go_ret
          exact ⟨rfl, Below.refl _ _⟩
      · rcases (by omega : m = 1 ∨ m = 3 ∨ m = 4 ∨ m = 5 ∨ m = 6 ∨ m = 7 ∨ m = 8 ∨ m = 9 ∨ m = 10 ∨ m = 11 ∨ m = 12) with rfl | rfl | rfl | rfl | rfl | rfl | rfl | rfl | rfl | rfl | rfl
        all_goals
          clear hm h2
          first
          | rw [show mlen y _ = 31 from rfl]
          | rw [show mlen y _ = 30 from rfl]
          go_enter Tryd.func68, Tryd.ntmps68
          go_wp2_with (first | (go_at_call 65; refine (specIn _ _ _ _).mono ?_; rintro e w' ⟨rfl, rfl⟩))
          go_ret
          exact ⟨rfl, (Below.refl _ _).alloc (Nat.le_refl _) _⟩
    · have iy : inB y 1 9999 = true := inB_t hy.1 hy.2
      have im : inB m 1 12 = false := inB_f hm
      rw [mdays_out (by omega)]
      clear hy hm
      go_enter Tryd.func68, Tryd.ntmps68
      go_wp2_with (first | (go_at_call 65; refine (specIn _ _ _ _).mono ?_; rintro e w' ⟨rfl, rfl⟩))
      go_ret
      exact ⟨rfl, Below.refl _ _⟩
  · have iy : inB y 1 9999 = false := inB_f hy
    rw [mdays_out (by omega)]
    clear hy
    go_enter Tryd.func68, Tryd.ntmps68
    go_wp2_with (first | (go_at_call 65; refine (specIn _ _ _ _).mono ?_; rintro e w' ⟨rfl, rfl⟩))
    go_ret
    exact ⟨rfl, Below.refl _ _⟩

def dateOkB (y mo d h mi s : Int) : Bool := inB y 1970 9999 && inB d 1 (mdays y mo) && inB h 0 23 && inB mi 0 59 && inB s 0 59
theorem inB_iff {x a b : Int} : inB x a b = true ↔ a ≤ x ∧ x ≤ b := by simp [inB]
theorem dateOk_iff (y mo d h mi s : Int) : dateOkB y mo d h mi s = true ↔ (1 ≤ mo ∧ mo ≤ 12) ∧ (Dt.mk y mo.toNat d h mi s).Ok := by
  unfold dateOkB
  simp only [Bool.and_eq_true, inB_iff]
  constructor
  · rintro ⟨⟨⟨⟨h1, h2⟩, h3⟩, h4⟩, h5⟩
    have hm : 1 ≤ mo ∧ mo ≤ 12 := by
      by_cases hm : 1 ≤ mo ∧ mo ≤ 12
      · exact hm
      · rw [mdays_out (by omega)] at h2; omega
    rw [mdays_in (by omega) (by omega) hm.1 hm.2] at h2
    refine ⟨hm, ⟨h1.1, h1.2, by simp only; omega, by simp only; omega, h2.1, ?_, h3.1, h3.2, h4.1, h4.2, h5.1, h5.2⟩⟩
    simp only
    rw [show ((mo.toNat : Nat) : Int) = mo by omega]
    exact h2.2
  · rintro ⟨hm, ok⟩
    have := ok.y1; have := ok.y2
    have hd := ok.d2
    simp only at *
    rw [show ((mo.toNat : Nat) : Int) = mo by omega] at hd
    rw [mdays_in (by omega) (by omega) hm.1 hm.2]
    exact ⟨⟨⟨⟨⟨ok.y1, ok.y2⟩, ok.d1, hd⟩, ok.h1, ok.h2⟩, ok.i1, ok.i2⟩, ok.s1, ok.s2⟩

/-- A date as a value. -/
def dateA (y mo d h mi s : Int) : Array Value := #[.int .i64 y, .int .i64 mo, .int .i64 d, .int .i64 h, .int .i64 mi, .int .i64 s]
set_option maxRecDepth 100000 in
set_option maxHeartbeats 1000000 in
theorem specDateOk (y mo d h mi s : Int) (w : World) :
    Calls Tryd.prog 66 #[.agg #[.int .i64 y, .int .i64 mo, .int .i64 d, .int .i64 h, .int .i64 mi, .int .i64 s]] w fun e w' => e = .returned (.bool (dateOkB y mo d h mi s)) ∧ Below w.heap.size w w' := by
  obtain ⟨W, hW⟩ : ∃ W, W = w.alloc (.cells #[.int .i64 y, .int .i64 mo, .int .i64 d, .int .i64 h, .int .i64 mi, .int .i64 s] 43) := ⟨_, rfl⟩
  have hc : ∀ j, W.cell? ⟨w.heap.size, j, none⟩ = (#[.int .i64 y, .int .i64 mo, .int .i64 d, .int .i64 h, .int .i64 mi, .int .i64 s] : Array Value)[j]? := fun j => by rw [hW]; exact World.cell?_alloc_at _ _ _ j rfl
  have c0 : ∀ n os, (Sort.grow (redrawn W n) os).cell? ⟨w.heap.size, 0, none⟩ = some (.int .i64 y) := fun n os => cell_regrown (hc 0) n os
  have c1 : ∀ n os, (Sort.grow (redrawn W n) os).cell? ⟨w.heap.size, 1, none⟩ = some (.int .i64 mo) := fun n os => cell_regrown (hc 1) n os
  have c2 : ∀ n os, (Sort.grow (redrawn W n) os).cell? ⟨w.heap.size, 2, none⟩ = some (.int .i64 d) := fun n os => cell_regrown (hc 2) n os
  have c3 : ∀ n os, (Sort.grow (redrawn W n) os).cell? ⟨w.heap.size, 3, none⟩ = some (.int .i64 h) := fun n os => cell_regrown (hc 3) n os
  have c4 : ∀ n os, (Sort.grow (redrawn W n) os).cell? ⟨w.heap.size, 4, none⟩ = some (.int .i64 mi) := fun n os => cell_regrown (hc 4) n os
  have c5 : ∀ n os, (Sort.grow (redrawn W n) os).cell? ⟨w.heap.size, 5, none⟩ = some (.int .i64 s) := fun n os => cell_regrown (hc 5) n os
  have CI := Lib.hid (show ∀ x a b n os, Calls Tryd.prog 65 #[.int .i64 x, .int .i64 a, .int .i64 b] (Sort.grow (redrawn W n) os) fun e w'' => e = .returned (.bool (inB x a b)) ∧ ∃ p : Regrown, w'' = Sort.grow (redrawn W p.d) p.os from
    fun x a b n os => Calls.regrown_of ((specIn x a b _).mono fun _ _ ⟨he, hw⟩ => ⟨he, hw ▸ Below.refl _ _⟩))
  have CM := Lib.hid (show ∀ x m n os, Calls Tryd.prog 68 #[.int .i64 x, .int .i64 m] (Sort.grow (redrawn W n) os) fun e w'' => e = .returned (.int .i64 (mdays x m)) ∧ ∃ p : Regrown, w'' = Sort.grow (redrawn W p.d) p.os from
    fun x m n os => Calls.regrown_of (specMonthDays x m _))
  have HB := Lib.hid (show Below w.heap.size w W by rw [hW]; exact (Below.refl _ _).alloc (Nat.le_refl _) _)
  have HW := Lib.hid hW
  unfold dateOkB
  clear hc hW
  cases h1 : inB y 1970 9999
  · go_enter Tryd.func66, Tryd.ntmps66
    go_wp2
    rw [← HW.out]
    refine wp_region_quiet_below (by kernel_rfl) (by kernel_rfl) ?_
    repeat (quiet_step (first | exact CI.out _ _ _ _ _ | exact CM.out _ _ _ _))
    refine wpQuiet_nil ?_
    intro w2 hw2
    obtain ⟨p, rfl⟩ := hw2
    go_wp2
    go_ret
    exact ⟨rfl, HB.out.trans ((below_regrown W p.d p.os).mono HB.out.size)⟩
  · cases h2 : inB d 1 (mdays y mo)
    · go_enter Tryd.func66, Tryd.ntmps66
      go_wp2
      rw [← HW.out]
      refine wp_region_quiet_below (by kernel_rfl) (by kernel_rfl) ?_
      repeat (quiet_step (first | exact CI.out _ _ _ _ _ | exact CM.out _ _ _ _))
      refine wpQuiet_nil ?_
      intro w2 hw2
      obtain ⟨p, rfl⟩ := hw2
      go_wp2
      go_ret
      exact ⟨rfl, HB.out.trans ((below_regrown W p.d p.os).mono HB.out.size)⟩
    · cases h3 : inB h 0 23
      · go_enter Tryd.func66, Tryd.ntmps66
        go_wp2
        rw [← HW.out]
        refine wp_region_quiet_below (by kernel_rfl) (by kernel_rfl) ?_
        repeat (quiet_step (first | exact CI.out _ _ _ _ _ | exact CM.out _ _ _ _))
        refine wpQuiet_nil ?_
        intro w2 hw2
        obtain ⟨p, rfl⟩ := hw2
        go_wp2
        go_ret
        exact ⟨rfl, HB.out.trans ((below_regrown W p.d p.os).mono HB.out.size)⟩
      · cases h4 : inB mi 0 59
        · go_enter Tryd.func66, Tryd.ntmps66
          go_wp2
          rw [← HW.out]
          refine wp_region_quiet_below (by kernel_rfl) (by kernel_rfl) ?_
          repeat (quiet_step (first | exact CI.out _ _ _ _ _ | exact CM.out _ _ _ _))
          refine wpQuiet_nil ?_
          intro w2 hw2
          obtain ⟨p, rfl⟩ := hw2
          go_wp2
          go_ret
          exact ⟨rfl, HB.out.trans ((below_regrown W p.d p.os).mono HB.out.size)⟩
        · cases h5 : inB s 0 59
          · go_enter Tryd.func66, Tryd.ntmps66
            go_wp2
            rw [← HW.out]
            refine wp_region_quiet_below (by kernel_rfl) (by kernel_rfl) ?_
            repeat (quiet_step (first | exact CI.out _ _ _ _ _ | exact CM.out _ _ _ _))
            refine wpQuiet_nil ?_
            intro w2 hw2
            obtain ⟨p, rfl⟩ := hw2
            go_wp2
            go_ret
            exact ⟨rfl, HB.out.trans ((below_regrown W p.d p.os).mono HB.out.size)⟩
          · go_enter Tryd.func66, Tryd.ntmps66
            go_wp2
            rw [← HW.out]
            refine wp_region_quiet_below (by kernel_rfl) (by kernel_rfl) ?_
            repeat (quiet_step (first | exact CI.out _ _ _ _ _ | exact CM.out _ _ _ _))
            refine wpQuiet_nil ?_
            intro w2 hw2
            obtain ⟨p, rfl⟩ := hw2
            go_wp2
            go_ret
            exact ⟨rfl, HB.out.trans ((below_regrown W p.d p.os).mono HB.out.size)⟩

theorem specYears (y : Int) (w : World) (h1 : 1 ≤ y) (h2 : y ≤ 100000) :
    Calls Tryd.prog 67 #[.int .i64 y] w fun e w' => e = .returned (.int .i64 (ysum y)) ∧ w = w' := by
  go_enter Tryd.func67, Tryd.ntmps67
  go_wp2
  go_ret
  exact ⟨ret_int (by unfold ysum; omega), rfl⟩

def timeB (t : Int) : Bool := inB t 0 253402300799
theorem specTime (t : Int) (w : World) :
    Calls Tryd.prog 47 #[.int .i64 t] w fun e w' => e = .returned (.bool (timeB t)) ∧ w = w' := by
  go_enter Tryd.func47, Tryd.ntmps47
  go_wp2_with (first | (go_at_call 65; refine (specIn _ _ _ _).mono ?_; rintro e w' ⟨rfl, rfl⟩))
  go_ret
  exact ⟨rfl, rfl⟩

end Go.Proofs.YtbikcldkaogfmaaDoor
