/- Contracts of impl.PeriodOf and impl.PeriodStart. -/
import Derived.Test.YthcofpkppienaaaDoorImplDays
namespace Go.Proofs.YthcofpkppienaaaDoor
open Go.RowKit

theorem implPeriodOf_out (kind t : Int) (w : World) (ht : timeB t = false) :
    Calls Tryd.prog 22 #[.int .i64 kind, .int .i64 t] w fun e w' => e = .returned (.int .i64 (-1)) ∧ Below w.heap.size w w' := by
  go_enter Tryd.func22, Tryd.ntmps22
  go_wp2_with (first | (go_at_call 33; refine (implIsTime _ _).mono ?_; rintro e w' ⟨rfl, rfl⟩))
  go_ret
  exact ⟨rfl, Below.refl _ _⟩
set_option maxRecDepth 100000 in
set_option maxHeartbeats 1000000 in
theorem implPeriodOf (kind : Int) (x : Dt) (hx : x.Ok) (w : World) (hT : Tabs w) :
    Calls Tryd.prog 22 #[.int .i64 kind, .int .i64 x.time] w fun e w' => e = .returned (.int .i64 (periodV kind x)) ∧ Below w.heap.size w w' := by
  have ht := timeB_ok hx
  obtain ⟨hb0, hb1⟩ := hx.time_bd
  have hy1 := hx.y1
  have hy2 := hx.y2
  have hm1 := hx.m1
  have hm2 := hx.m2
  have HX := Lib.hid hx
  have HT := Lib.hid hT
  clear hx hT
  by_cases hk : kind = 0 ∨ kind = 1 ∨ kind = 2
  · rcases hk with rfl | rfl | rfl
    all_goals
      go_enter Tryd.func22, Tryd.ntmps22
      go_wp2_with (first | (go_at_call 33; refine (implIsTime _ _).mono ?_; rintro e w' ⟨rfl, rfl⟩))
      go_ret
      exact ⟨rfl, Below.refl _ _⟩
  · by_cases hk3 : kind = 3
    · subst hk3
      clear hk
      rw [show periodV 3 x = 12 * (x.y - 1970) + x.mo - 1 from rfl]
      go_enter Tryd.func22, Tryd.ntmps22
      go_wp2_with (first | (go_at_call 33; refine (implIsTime _ _).mono ?_; rintro e w' ⟨rfl, rfl⟩) | (go_at_call 14; refine (implDateOf x HX.out _ HT.out).mono ?_; rintro e w1 ⟨rfl, hbw⟩))
      go_ret
      exact ⟨ret_int (by omega), hbw.trans (((Below.refl _ _).alloc (Nat.le_refl _) _).mono hbw.size)⟩
    · by_cases hk4 : kind = 4
      · subst hk4
        clear hk hk3
        rw [show periodV 4 x = x.y - 1970 from rfl]
        go_enter Tryd.func22, Tryd.ntmps22
        go_wp2_with (first | (go_at_call 33; refine (implIsTime _ _).mono ?_; rintro e w' ⟨rfl, rfl⟩) | (go_at_call 34; refine (implYearOfDaysX x HX.out _).mono ?_; rintro e w1 ⟨rfl, rfl⟩))
        go_ret
        exact ⟨rfl, Below.refl _ _⟩
      · rw [show periodV kind x = -1 by unfold periodV; rw [if_neg (by omega), if_neg (by omega), if_neg (by omega), if_neg (by omega), if_neg (by omega)]]
        have k0 : (kind == 0) = false := by simp; omega
        have k1 : (kind == 1) = false := by simp; omega
        have k2 : (kind == 2) = false := by simp; omega
        have k3 : (kind == 3) = false := by simp; omega
        have k4 : (kind == 4) = false := by simp; omega
        clear hk hk3 hk4
        go_enter Tryd.func22, Tryd.ntmps22
        go_wp2_with (first | (go_at_call 33; refine (implIsTime _ _).mono ?_; rintro e w' ⟨rfl, rfl⟩))
        go_ret
        exact ⟨rfl, Below.refl _ _⟩

theorem implPeriodStart_out (kind t : Int) (w : World) (ht : timeB t = false) :
    Calls Tryd.prog 23 #[.int .i64 kind, .int .i64 t] w fun e w' => e = .returned (.int .i64 (-1)) ∧ Below w.heap.size w w' := by
  go_enter Tryd.func23, Tryd.ntmps23
  go_wp2_with (first | (go_at_call 33; refine (implIsTime _ _).mono ?_; rintro e w' ⟨rfl, rfl⟩))
  go_ret
  exact ⟨rfl, Below.refl _ _⟩
theorem start_year {x : Dt} : (Dt.mk x.y 1 1 0 0 0).time = ysum x.y * 86400 := by
  simp only [Dt.time, msum_1]; omega
theorem start_week {t : Int} (h0 : 0 ≤ t) (h1 : t ≤ 253402300799) :
    max 0 (t - t % 86400 - weekV t * 86400) = (if (t / 86400 + 4) / 7 = 0 then 0 else 86400 * (7 * ((t / 86400 + 4) / 7) - 4)) ∧ 0 ≤ weekV t ∧ weekV t ≤ 6 := by
  have e : weekV t = (t / 86400 + 4) % 7 := by unfold weekV timeB; rw [inB_t h0 h1]; rfl
  rw [e]
  split <;> omega
set_option maxRecDepth 100000 in
set_option maxHeartbeats 1000000 in
theorem implPeriodStart (kind : Int) (x : Dt) (hx : x.Ok) (w : World) (hT : Tabs w) :
    Calls Tryd.prog 23 #[.int .i64 kind, .int .i64 x.time] w fun e w' => e = .returned (.int .i64 (startV kind x)) ∧ Below w.heap.size w w' := by
  have ht := timeB_ok hx
  obtain ⟨hb0, hb1⟩ := hx.time_bd
  have hy1 := hx.y1
  have hy2 := hx.y2
  have hm1 := hx.m1
  have hm2 := hx.m2
  have HX := Lib.hid hx
  have HT := Lib.hid hT
  have HM := Lib.hid (first_month hx)
  clear hx hT
  by_cases hk : kind = 0 ∨ kind = 1
  · rcases hk with rfl | rfl
    · rw [show startV 0 x = 3600 * (x.time / 3600) from rfl]
      go_enter Tryd.func23, Tryd.ntmps23
      go_wp2_with (first | (go_at_call 33; refine (implIsTime _ _).mono ?_; rintro e w' ⟨rfl, rfl⟩))
      go_ret
      exact ⟨ret_int (by omega), Below.refl _ _⟩
    · rw [show startV 1 x = 86400 * (x.time / 86400) from rfl]
      go_enter Tryd.func23, Tryd.ntmps23
      go_wp2_with (first | (go_at_call 33; refine (implIsTime _ _).mono ?_; rintro e w' ⟨rfl, rfl⟩))
      go_ret
      exact ⟨ret_int (by omega), Below.refl _ _⟩
  · by_cases hk2 : kind = 2
    · subst hk2
      clear hk
      rw [show startV 2 x = (if (x.time / 86400 + 4) / 7 = 0 then 0 else 86400 * (7 * ((x.time / 86400 + 4) / 7) - 4)) from rfl]
      obtain ⟨hs, hw0, hw1⟩ := start_week hb0 hb1
      rw [← hs]
      obtain ⟨k, hk⟩ : ∃ k, weekV x.time = k := ⟨_, rfl⟩
      rw [hk] at hw0 hw1 ⊢
      have HK := Lib.hid hk
      clear hs hk
      go_enter Tryd.func23, Tryd.ntmps23
      go_wp2_with (first | (go_at_call 33; refine (implIsTime _ _).mono ?_; rintro e w' ⟨rfl, rfl⟩) | (go_at_call 41; refine (implWeekday _ _).mono ?_; rintro e w1 ⟨rfl, rfl⟩; rw [HK.out]))
      all_goals
        go_ret
        exact ⟨ret_int (by omega), Below.refl _ _⟩
    · by_cases hk3 : kind = 3
      · subst hk3
        clear hk hk2
        rw [show startV 3 x = (Dt.mk x.y x.mo 1 0 0 0).time from rfl]
        go_enter Tryd.func23, Tryd.ntmps23
        go_wp2_with fail
        refine (implIsTime _ _).mono ?_
        rintro e w' ⟨rfl, rfl⟩
        go_wp2_with fail
        refine (implDateOf x HX.out _ HT.out).mono ?_
        rintro e w1 ⟨rfl, hbw⟩
        have hb2 := hbw.trans (((Below.refl w1.heap.size w1).alloc (Nat.le_refl _) (.cells #[.int .i64 x.y, .int .i64 x.mo, .int .i64 x.d, .int .i64 x.h, .int .i64 x.mi, .int .i64 x.s] 26)).mono hbw.size)
        have HT2 := Lib.hid (HT.out.on hb2)
        have HB2 := Lib.hid hb2
        clear hb2
        go_wp2_with fail
        refine (implTimeOf _ _ _ _ _ _ _ HT2.out).mono ?_
        rintro e w3 ⟨rfl, hbt⟩
        rw [HM.out]
        go_wp2
        go_ret
        exact ⟨rfl, HB2.out.trans (hbt.mono HB2.out.size)⟩
      · by_cases hk4 : kind = 4
        · subst hk4
          clear hk hk2 hk3
          rw [show startV 4 x = ysum x.y * 86400 from start_year]
          have hys0 : 0 ≤ ysum x.y := by have := ysum_lt (show 1969 < x.y by omega); have := ysum_1970; rw [show (1969 : Int) + 1 = 1970 from rfl] at *; omega
          have hys1 : ysum x.y ≤ 2932897 := by have := ysum_lt (show x.y < 10000 by omega); have := ysum_10000; have := ysum_step x.y; have := ylen_bd x.y; omega
          go_enter Tryd.func23, Tryd.ntmps23
          go_wp2_with (first | (go_at_call 33; refine (implIsTime _ _).mono ?_; rintro e w' ⟨rfl, rfl⟩) | (go_at_call 34; refine (implYearOfDaysX x HX.out _).mono ?_; rintro e w1 ⟨rfl, rfl⟩) | (go_at_call 35; refine (implDaysToYear x.y _ (by omega) (by omega)).mono ?_; rintro e w1 ⟨rfl, rfl⟩))
          go_ret
          exact ⟨rfl, Below.refl _ _⟩
        · rw [show startV kind x = -1 by unfold startV; rw [if_neg (by omega), if_neg (by omega), if_neg (by omega), if_neg (by omega), if_neg (by omega)]]
          have k0 : (kind == 0) = false := by simp; omega
          have k1 : (kind == 1) = false := by simp; omega
          have k2 : (kind == 2) = false := by simp; omega
          have k3 : (kind == 3) = false := by simp; omega
          have k4 : (kind == 4) = false := by simp; omega
          clear hk hk2 hk3 hk4
          go_enter Tryd.func23, Tryd.ntmps23
          go_wp2_with (first | (go_at_call 33; refine (implIsTime _ _).mono ?_; rintro e w' ⟨rfl, rfl⟩))
          go_ret
          exact ⟨rfl, Below.refl _ _⟩
end Go.Proofs.YthcofpkppienaaaDoor
