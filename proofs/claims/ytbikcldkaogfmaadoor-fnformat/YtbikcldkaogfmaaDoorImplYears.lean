/- Contracts of impl's functions on days that read no table: isTime, daysToYear, yearOfDays, Weekday, YearDay. -/
import Derived.Test.YtbikcldkaogfmaaDoorDays4
namespace Go.Proofs.YtbikcldkaogfmaaDoor
open Go.RowKit

theorem implIsTime (t : Int) (w : World) :
    Calls Tryd.prog 40 #[.int .i64 t] w fun e w' => e = .returned (.bool (timeB t)) ∧ w = w' := by
  by_cases h1 : 0 ≤ t
  · by_cases h2 : t ≤ 253402300799
    · rw [show timeB t = true from inB_t h1 h2]
      go_enter Tryd.func40, Tryd.ntmps40
      go_wp2
      go_ret
      exact ⟨rfl, rfl⟩
    · rw [show timeB t = false from inB_f (by omega)]
      go_enter Tryd.func40, Tryd.ntmps40
      go_wp2
      go_ret
      exact ⟨rfl, rfl⟩
  · rw [show timeB t = false from inB_f (by omega)]
    go_enter Tryd.func40, Tryd.ntmps40
    go_wp2
    go_ret
    exact ⟨rfl, rfl⟩

theorem implDaysToYear (y : Int) (w : World) (h1 : 1 ≤ y) (h2 : y ≤ 100000) :
    Calls Tryd.prog 70 #[.int .i64 y] w fun e w' => e = .returned (.int .i64 (ysum y)) ∧ w = w' := by
  go_enter Tryd.func70, Tryd.ntmps70
  go_wp2
  go_ret
  exact ⟨ret_int (by unfold ysum; omega), rfl⟩

/-- A first guess at the year of a day. -/
def guessY (d : Int) : Int := 1970 + d * 400 / 146097
theorem guessY_bd {d : Int} (h0 : 0 ≤ d) (h1 : d ≤ 2932896) : 1970 ≤ guessY d ∧ guessY d ≤ 9999 := by unfold guessY; omega
theorem guessY_lo {d : Int} (h0 : 0 ≤ d) : ysum (guessY d - 1) ≤ d := by unfold ysum guessY; omega
theorem guessY_hi {d : Int} (h0 : 0 ≤ d) : d < ysum (guessY d + 1 + 1) := by unfold ysum guessY; omega

/-- yearOfDays tells the year in which a day lies. -/
theorem implYearOfDays (d y : Int) (w : World) (h0 : 0 ≤ d) (h1 : d ≤ 2932896) (hy1 : ysum y ≤ d) (hy2 : d < ysum (y + 1)) :
    Calls Tryd.prog 69 #[.int .i64 d] w fun e w' => e = .returned (.int .i64 y) ∧ w = w' := by
  obtain ⟨hg0, hg1⟩ := guessY_bd h0 h1
  have HLo := Lib.hid (guessY_lo h0)
  have HHi := Lib.hid (guessY_hi h0)
  have HY1 := Lib.hid hy1
  have HY2 := Lib.hid hy2
  clear hy1 hy2
  obtain ⟨g, hg⟩ : ∃ g, guessY d = g := ⟨_, rfl⟩
  rw [hg] at hg0 hg1 HLo HHi
  have hge : 1970 + d * 400 / 146097 = g := hg
  have HG := Lib.hid hge
  clear hg hge
  by_cases ha : ysum g > d
  · obtain rfl : y = g - 1 := year_one HY1.out HY2.out HLo.out (by rw [show g - 1 + 1 = g by omega]; exact ha)
    clear HLo HHi HY1 HY2
    go_enter Tryd.func69, Tryd.ntmps69
    go_wp2_with fail
    rw [HG.out]
    refine (implDaysToYear _ _ (by omega) (by omega)).mono ?_
    rintro e w' ⟨rfl, rfl⟩
    go_wp2
    go_ret
    exact ⟨rfl, rfl⟩
  · by_cases hb : ysum (g + 1) ≤ d
    · obtain rfl : y = g + 1 := year_one HY1.out HY2.out hb HHi.out
      clear HLo HHi HY1 HY2
      go_enter Tryd.func69, Tryd.ntmps69
      go_wp2_with fail
      rw [HG.out]
      refine (implDaysToYear _ _ (by omega) (by omega)).mono ?_
      rintro e w' ⟨rfl, rfl⟩
      go_wp2_with fail
      refine (implDaysToYear _ _ (by omega) (by omega)).mono ?_
      rintro e w' ⟨rfl, rfl⟩
      go_wp2
      go_ret
      exact ⟨rfl, rfl⟩
    · obtain rfl : y = g := year_one HY1.out HY2.out (by omega) (by omega)
      clear HLo HHi HY1 HY2
      go_enter Tryd.func69, Tryd.ntmps69
      go_wp2_with fail
      rw [HG.out]
      refine (implDaysToYear _ _ (by omega) (by omega)).mono ?_
      rintro e w' ⟨rfl, rfl⟩
      go_wp2_with fail
      refine (implDaysToYear _ _ (by omega) (by omega)).mono ?_
      rintro e w' ⟨rfl, rfl⟩
      go_wp2
      go_ret
      exact ⟨rfl, rfl⟩
/-- .. and so of a right date. -/
theorem implYearOfDaysX (x : Dt) (hx : x.Ok) (w : World) :
    Calls Tryd.prog 69 #[.int .i64 (x.time / 86400)] w fun e w' => e = .returned (.int .i64 x.y) ∧ w = w' := by
  have h1 := hx.time_bd
  have h2 := (Dt.day hx).1
  have h3 := hx.yday
  have h4 := ysum_step x.y
  exact implYearOfDays _ _ _ (by omega) (by omega) (by omega) (by omega)

def weekV (t : Int) : Int := if timeB t then (t / 86400 + 4) % 7 else -1

theorem implYearDay_out (t : Int) (w : World) (ht : timeB t = false) :
    Calls Tryd.prog 42 #[.int .i64 t] w fun e w' => e = .returned (.int .i64 0) ∧ w = w' := by
  go_enter Tryd.func42, Tryd.ntmps42
  go_wp2_with (first | (go_at_call 40; refine (implIsTime _ _).mono ?_; rintro e w' ⟨rfl, rfl⟩))
  go_ret
  exact ⟨rfl, rfl⟩
theorem implYearDay (x : Dt) (hx : x.Ok) (w : World) :
    Calls Tryd.prog 42 #[.int .i64 x.time] w fun e w' => e = .returned (.int .i64 (msum x.y x.mo + x.d)) ∧ w = w' := by
  have ht := timeB_ok hx
  obtain ⟨hb0, hb1⟩ := hx.time_bd
  have HD := Lib.hid (Dt.day hx).1
  have HY := Lib.hid hx.yday
  have hy1 := hx.y1
  have hy2 := hx.y2
  have hl := ylen_bd x.y
  have HX := Lib.hid hx
  clear hx
  obtain ⟨ys, hys⟩ : ∃ ys, ysum x.y = ys := ⟨_, rfl⟩
  have HS := Lib.hid hys
  have hr0 : 0 ≤ x.time / 86400 - ys := by have := HD.out; have := HY.out; omega
  have hr1 : x.time / 86400 - ys ≤ 366 := by have := HD.out; have := HY.out; omega
  clear hys
  go_enter Tryd.func42, Tryd.ntmps42
  go_wp2_with fail
  refine (implIsTime _ _).mono ?_
  rintro e w' ⟨rfl, rfl⟩
  go_wp2_with fail
  refine (implYearOfDaysX x HX.out _).mono ?_
  rintro e w1 ⟨rfl, rfl⟩
  go_wp2_with fail
  refine (implDaysToYear x.y _ (by omega) (by omega)).mono ?_
  rintro e w' ⟨rfl, rfl⟩
  rw [HS.out]
  go_wp2
  go_ret
  exact ⟨ret_int (by have := HD.out; have := HS.out; omega), rfl⟩
end Go.Proofs.YtbikcldkaogfmaaDoor
