/- Proved: laws.FnDays answers true at every code: at the drawn time impl.Weekday and impl.YearDay tell what spec's tell, and a day behind is the next day of the week, and the next of the year, or the first one; the argument reads as before. No condition. -/
import Derived.Test.YthcofpkppienaaaBig
import Derived.Test.YthcofpkppienaaaDrawDays
import Derived.Test.YthcofpkppienaaaImplYears
namespace Go.Proofs.Ythcofpkppienaaa
open Go.RowKit

theorem weekV_in {t : Int} (h0 : 0 ≤ t) (h1 : t ≤ 253402300799) : weekV t = (t / 86400 + 4) % 7 := by
  unfold weekV timeB; rw [inB_t h0 h1]; rfl
theorem weekV_next {t : Int} (h0 : 0 ≤ t) (h1 : t + 86400 ≤ 253402300799) : weekV (t + 86400) = (weekV t + 1) % 7 := by
  rw [weekV_in h0 (by omega), weekV_in (by omega) h1]; omega
theorem weekV_bd {t : Int} (h0 : 0 ≤ t) (h1 : t ≤ 253402300799) : 0 ≤ weekV t ∧ weekV t ≤ 6 := by
  rw [weekV_in h0 h1]; omega
/-- The day behind a day is the next of its year, or the first of the next one. -/
theorem next_day {x z : Dt} (hx : x.Ok) (hz : z.Ok) (h : z.time = x.time + 86400) :
    msum z.y z.mo + z.d = msum x.y x.mo + x.d + 1 ∨ (msum z.y z.mo + z.d = 1 ∧ 365 ≤ msum x.y x.mo + x.d) := by
  have a1 := (Dt.day hx).1
  have a2 := (Dt.day hz).1
  have b1 := hx.yday
  have b2 := hz.yday
  have c1 := ysum_step x.y
  have c2 := ysum_step z.y
  have d1 := ylen_bd x.y
  rcases (by omega : x.y < z.y ∨ x.y = z.y ∨ z.y < x.y) with e | e | e
  · have := ysum_lt e; omega
  · have e2 : ysum x.y = ysum z.y := by rw [e]
    omega
  · have := ysum_lt e; omega
theorem yday_pos {x : Dt} (hx : x.Ok) : 1 ≤ msum x.y x.mo + x.d ∧ msum x.y x.mo + x.d ≤ 366 := by
  have b1 := hx.yday; have := ylen_bd x.y; omega

set_option maxRecDepth 100000 in
set_option maxHeartbeats 1000000 in
theorem walkFnDays (a : Option Addr) (len cap : Nat) (zs : List Int) (w : World) (hr : IsRow .u8 w a len cap zs) :
    Calls Try.prog 3 #[.slice a len cap] w fun e w' => e = .returned (.bool true) ∧ Below w.heap.size w w' := by
  by_cases hl : len ≤ 1048576
  · go_enter Try.func3, Try.ntmps3
    go_wp2_with fail
    refine (bigF a len cap _ hl).mono ?_
    rintro e w' ⟨rfl, rfl⟩
    go_wp2_with fail
    refine (specDrawWeekday w _ a len cap zs hr (Below.refl _ _) hl).mono ?_
    rintro e W1 ⟨⟨t, ⟨ht0, ht1⟩, rfl⟩, hb1⟩
    by_cases hin : 0 ≤ t ∧ t ≤ 253402300799
    · obtain ⟨hi0, hi1⟩ := hin
      obtain ⟨x, hx, hxt⟩ := dt_some t hi0 hi1
      obtain ⟨k, hk⟩ : ∃ k, weekV t = k := ⟨_, rfl⟩
      have hkb := weekV_bd hi0 hi1
      rw [hk] at hkb
      obtain ⟨hk0, hk1⟩ := hkb
      obtain ⟨q, hq⟩ : ∃ q, msum x.y x.mo + x.d = q := ⟨_, rfl⟩
      have hqb := yday_pos hx
      rw [hq] at hqb
      obtain ⟨hq0, hq1⟩ := hqb
      have CW := Lib.hid (show ∀ w, Calls Try.prog 8 #[.int .i64 t] w fun e w' => e = .returned (.int .i64 k) ∧ w = w' from fun w => hk ▸ implWeekday t w)
      have CSW := Lib.hid (show ∀ w, Calls Try.prog 9 #[.int .i64 t] w fun e w' => e = .returned (.int .i64 k) ∧ w = w' from fun w => hk ▸ specWeekday t w)
      have CY := Lib.hid (show ∀ w, Calls Try.prog 10 #[.int .i64 t] w fun e w' => e = .returned (.int .i64 q) ∧ w = w' from fun w => hq ▸ hxt ▸ implYearDay x hx w)
      have CSY := Lib.hid (show ∀ w, Calls Try.prog 11 #[.int .i64 t] w fun e w' => e = .returned (.int .i64 q) ∧ Below w.heap.size w w' from fun w => hq ▸ hxt ▸ specYearDay x hx w)
      have HX := Lib.hid hx
      have HXT := Lib.hid hxt
      have HK := Lib.hid hk
      have HQ := Lib.hid hq
      have HB1 := Lib.hid hb1
      clear hx hxt hk hq hb1 hr
      by_cases hend : t + 86400 ≤ 253402300799
      · obtain ⟨z, hz, hzt⟩ := dt_some (t + 86400) (by omega) hend
        obtain ⟨r, hrr⟩ : ∃ r, msum z.y z.mo + z.d = r := ⟨_, rfl⟩
        have hrb := yday_pos hz
        rw [hrr] at hrb
        obtain ⟨hr0, hr1⟩ := hrb
        have hn := next_day HX.out hz (by rw [hzt, HXT.out])
        rw [HQ.out, hrr] at hn
        have CW2 := Lib.hid (show ∀ w, Calls Try.prog 8 #[.int .i64 (t + 86400)] w fun e w' => e = .returned (.int .i64 ((k + 1) % 7)) ∧ w = w' from fun w => by
          have h := weekV_next hi0 hend
          rw [HK.out] at h
          exact h ▸ implWeekday (t + 86400) w)
        have CY2 := Lib.hid (show ∀ w, Calls Try.prog 10 #[.int .i64 (t + 86400)] w fun e w' => e = .returned (.int .i64 r) ∧ w = w' from fun w => hrr ▸ hzt ▸ implYearDay z hz w)
        clear hz hzt hrr HX HXT HK HQ
        rcases hn with rfl | ⟨rfl, h365⟩
        · go_wp2_with fail
          refine (CW.out _).mono ?_
          rintro e w' ⟨rfl, rfl⟩
          go_wp2_with fail
          refine (CSW.out _).mono ?_
          rintro e w' ⟨rfl, rfl⟩
          go_wp2_with fail
          refine (CY.out _).mono ?_
          rintro e w' ⟨rfl, rfl⟩
          go_wp2_with fail
          refine (CSY.out _).mono ?_
          rintro e W2 ⟨rfl, hb2⟩
          go_wp2_with fail
          refine (CY.out _).mono ?_
          rintro e w' ⟨rfl, rfl⟩
          go_wp2_with fail
          refine (CY2.out _).mono ?_
          rintro e w' ⟨rfl, rfl⟩
          go_wp2_with fail
          refine (CW2.out _).mono ?_
          rintro e w' ⟨rfl, rfl⟩
          go_wp2
          go_ret
          exact ⟨rfl, HB1.out.trans (hb2.mono HB1.out.size)⟩
        · have hne : ((1 : Int) == q + 1) = false := by simp; omega
          go_wp2_with fail
          refine (CW.out _).mono ?_
          rintro e w' ⟨rfl, rfl⟩
          go_wp2_with fail
          refine (CSW.out _).mono ?_
          rintro e w' ⟨rfl, rfl⟩
          go_wp2_with fail
          refine (CY.out _).mono ?_
          rintro e w' ⟨rfl, rfl⟩
          go_wp2_with fail
          refine (CSY.out _).mono ?_
          rintro e W2 ⟨rfl, hb2⟩
          go_wp2_with fail
          refine (CY.out _).mono ?_
          rintro e w' ⟨rfl, rfl⟩
          go_wp2_with fail
          refine (CY2.out _).mono ?_
          rintro e w' ⟨rfl, rfl⟩
          go_wp2_with fail
          refine (CW2.out _).mono ?_
          rintro e w' ⟨rfl, rfl⟩
          go_wp2
          go_ret
          exact ⟨rfl, HB1.out.trans (hb2.mono HB1.out.size)⟩
      · clear HX HXT HK HQ
        go_wp2_with (first | (go_at_call 8; refine (CW.out _).mono ?_; rintro e w' ⟨rfl, rfl⟩) | (go_at_call 9; refine (CSW.out _).mono ?_; rintro e w' ⟨rfl, rfl⟩) | (go_at_call 10; refine (CY.out _).mono ?_; rintro e w' ⟨rfl, rfl⟩) | (go_at_call 11; refine (CSY.out _).mono ?_; rintro e W2 ⟨rfl, hb2⟩))
        go_ret
        exact ⟨rfl, HB1.out.trans (hb2.mono HB1.out.size)⟩
    · have hto : timeB t = false := inB_f hin
      have HTO := Lib.hid hto
      have hw1 : weekV t = -1 := by unfold weekV; rw [hto]; rfl
      have HW := Lib.hid hw1
      have HB1 := Lib.hid hb1
      have hte : t = -1 ∨ t = 253402300800 := by omega
      clear hin hto hw1 hb1 hr ht0 ht1
      rcases hte with rfl | rfl
      · go_wp2_with (first | (go_at_call 8; refine (implWeekday _ _).mono ?_; rintro e w' ⟨rfl, rfl⟩; rw [HW.out]) | (go_at_call 9; refine (specWeekday _ _).mono ?_; rintro e w' ⟨rfl, rfl⟩; rw [HW.out]) | (go_at_call 10; refine (implYearDay_out _ _ HTO.out).mono ?_; rintro e w' ⟨rfl, rfl⟩) | (go_at_call 11; refine (specYearDay_out _ _ HTO.out).mono ?_; rintro e W2 ⟨rfl, hb2⟩))
        go_ret
        exact ⟨rfl, HB1.out.trans (hb2.mono HB1.out.size)⟩
      · go_wp2_with (first | (go_at_call 8; refine (implWeekday _ _).mono ?_; rintro e w' ⟨rfl, rfl⟩; rw [HW.out]) | (go_at_call 9; refine (specWeekday _ _).mono ?_; rintro e w' ⟨rfl, rfl⟩; rw [HW.out]) | (go_at_call 10; refine (implYearDay_out _ _ HTO.out).mono ?_; rintro e w' ⟨rfl, rfl⟩) | (go_at_call 11; refine (specYearDay_out _ _ HTO.out).mono ?_; rintro e W2 ⟨rfl, hb2⟩))
        go_ret
        exact ⟨rfl, HB1.out.trans (hb2.mono HB1.out.size)⟩
  · go_enter Try.func3, Try.ntmps3
    go_wp2_with (go_at_call 6; refine (bigT a len cap _ hl).mono ?_; rintro e w' ⟨rfl, rfl⟩)
    go_ret
    exact ⟨rfl, Below.refl _ _⟩
end Go.Proofs.Ythcofpkppienaaa
