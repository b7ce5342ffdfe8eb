/- Contracts of spec.DateOf by the date, and of spec.YearDay, spec.PeriodOf and spec.PeriodStart. -/
import Derived.Test.YtbikcldkaogfmaaDoorDays3
namespace Go.Proofs.YtbikcldkaogfmaaDoor
open Go.RowKit

theorem year_some (days : Int) (h0 : 0 ≤ days) : ∀ n : Nat, days < ysum (1970 + n) → ∃ y : Int, 1970 ≤ y ∧ y < 1970 + n ∧ ysum y ≤ days ∧ days < ysum (y + 1)
  | 0, h => by rw [show (1970 : Int) + (0 : Nat) = 1970 from rfl, ysum_1970] at h; omega
  | n + 1, h => by
    by_cases h2 : days < ysum (1970 + n)
    · obtain ⟨y, h3, h4, h5⟩ := year_some days h0 n h2
      exact ⟨y, h3, by omega, h5⟩
    · exact ⟨1970 + n, by omega, by omega, by omega, by rw [show (1970 : Int) + n + 1 = 1970 + ((n + 1 : Nat) : Int) by omega]; exact h⟩
theorem month_some (y r : Int) (h0 : 0 ≤ r) : ∀ n : Nat, r < msum y (n + 1) → ∃ m : Nat, 1 ≤ m ∧ m ≤ n ∧ msum y m ≤ r ∧ r < msum y (m + 1)
  | 0, h => by rw [show msum y (0 + 1) = 0 from rfl] at h; omega
  | n + 1, h => by
    by_cases h2 : r < msum y (n + 1)
    · obtain ⟨m, h3, h4, h5⟩ := month_some y r h0 n h2
      exact ⟨m, h3, by omega, h5⟩
    · exact ⟨n + 1, by omega, by omega, by omega, h⟩
/-- Each time has a right date. -/
theorem dt_some (t : Int) (h0 : 0 ≤ t) (h1 : t ≤ 253402300799) : ∃ x : Dt, x.Ok ∧ x.time = t := by
  obtain ⟨y, hy1, hy2, hy3, hy4⟩ := year_some (t / 86400) (by omega) 8030 (by rw [show (1970 : Int) + ((8030 : Nat) : Int) = 10000 from rfl, ysum_10000]; omega)
  obtain ⟨m, hm1, hm2, hm3, hm4⟩ := month_some y (t / 86400 - ysum y) (by omega) 12 (by rw [show 12 + 1 = 13 from rfl, msum_13]; have := ysum_step y; omega)
  have hst := msum_step y m hm1
  refine ⟨⟨y, m, t / 86400 - ysum y - msum y m + 1, t % 86400 / 3600, t % 86400 / 60 % 60, t % 86400 % 60⟩, ⟨hy1, by simp only; omega, hm1, hm2, by simp only; omega, by simp only; omega, by simp only; omega, by simp only; omega, by simp only; omega, by simp only; omega, by simp only; omega, by simp only; omega⟩, ?_⟩
  simp only [Dt.time]
  omega
theorem timeB_ok {x : Dt} (h : x.Ok) : timeB x.time = true := inB_t h.time_bd.1 h.time_bd.2
/-- A date as a value. -/
def Dt.val (x : Dt) : Value := .agg #[.int .i64 x.y, .int .i64 x.mo, .int .i64 x.d, .int .i64 x.h, .int .i64 x.mi, .int .i64 x.s]

theorem specDateOfX (x : Dt) (hx : x.Ok) (w : World) :
    Calls Tryd.prog 61 #[.int .i64 x.time] w fun e w' => e = .returned (.agg #[.int .i64 x.y, .int .i64 x.mo, .int .i64 x.d, .int .i64 x.h, .int .i64 x.mi, .int .i64 x.s]) ∧ Below w.heap.size w w' := by
  refine (specDateOf x.time w (timeB_ok hx)).mono ?_
  rintro e w' ⟨z, ⟨hz, ht, rfl⟩, hb⟩
  obtain rfl := Dt.one hz hx ht
  exact ⟨rfl, hb⟩

theorem date_field (y mo d h mi s : Int) (w : World) : (Instr.field 43 (.agg #[.int .i64 y, .int .i64 mo, .int .i64 d, .int .i64 h, .int .i64 mi, .int .i64 s]) 0).run Tryd.prog w = .ok (.int .i64 y) w := by kernel_rfl
theorem specYearDay_out (t : Int) (w : World) (ht : timeB t = false) :
    Calls Tryd.prog 63 #[.int .i64 t] w fun e w' => e = .returned (.int .i64 0) ∧ Below w.heap.size w w' := by
  go_enter Tryd.func63, Tryd.ntmps63
  go_wp2_with (first | (go_at_call 47; refine (specTime _ _).mono ?_; rintro e w' ⟨rfl, rfl⟩))
  go_ret
  exact ⟨rfl, Below.refl _ _⟩
theorem specYearDay (x : Dt) (hx : x.Ok) (w : World) :
    Calls Tryd.prog 63 #[.int .i64 x.time] w fun e w' => e = .returned (.int .i64 (msum x.y x.mo + x.d)) ∧ Below w.heap.size w w' := by
  have ht := timeB_ok hx
  obtain ⟨hb0, hb1⟩ := hx.time_bd
  have HD := Lib.hid (Dt.day hx).1
  have HY := Lib.hid hx.yday
  have hy1 := hx.y1
  have hy2 := hx.y2
  have hl := ylen_bd x.y
  have HX := Lib.hid hx
  clear hx
  obtain ⟨ys, hys⟩ : ∃ ys, ysum x.y = ys := ⟨_, rfl⟩
  have HS := Lib.hid hys
  have hr0 : 0 ≤ x.time / 86400 - ys := by have := HD.out; have := HY.out; omega
  have hr1 : x.time / 86400 - ys ≤ 366 := by have := HD.out; have := HY.out; omega
  clear hys
  have hf : ∀ w, (Instr.field 43 (.agg #[.int .i64 x.y, .int .i64 x.mo, .int .i64 x.d, .int .i64 x.h, .int .i64 x.mi, .int .i64 x.s]) 0).run Tryd.prog w = .ok (.int .i64 x.y) w := fun w => date_field _ _ _ _ _ _ w
  go_enter Tryd.func63, Tryd.ntmps63
  go_wp2_with fail
  refine (specTime _ _).mono ?_
  rintro e w' ⟨rfl, rfl⟩
  go_wp2_with fail
  refine (specDateOfX x HX.out _).mono ?_
  rintro e w1 ⟨rfl, hbw⟩
  go_wp2_with fail
  refine (specYears x.y _ (by omega) (by omega)).mono ?_
  rintro e w' ⟨rfl, rfl⟩
  rw [HS.out]
  go_wp2
  go_ret
  exact ⟨ret_int (by have := HD.out; have := HS.out; omega), hbw⟩

/-- Which period it is. -/
def periodV (kind : Int) (x : Dt) : Int :=
  if kind = 0 then x.time / 3600 else if kind = 1 then x.time / 86400 else if kind = 2 then (x.time / 86400 + 4) / 7
  else if kind = 3 then 12 * (x.y - 1970) + x.mo - 1 else if kind = 4 then x.y - 1970 else -1


/-- When the period begins. -/
def startV (kind : Int) (x : Dt) : Int :=
  if kind = 0 then 3600 * (x.time / 3600) else if kind = 1 then 86400 * (x.time / 86400)
  else if kind = 2 then (if (x.time / 86400 + 4) / 7 = 0 then 0 else 86400 * (7 * ((x.time / 86400 + 4) / 7) - 4))
  else if kind = 3 then (Dt.mk x.y x.mo 1 0 0 0).time else if kind = 4 then (Dt.mk x.y 1 1 0 0 0).time else -1
theorem first_month {x : Dt} (h : x.Ok) : timeV x.y x.mo 1 0 0 0 = (Dt.mk x.y x.mo 1 0 0 0).time := by
  have h1 := h.y1; have h2 := h.y2; have h3 := h.m1; have h4 := h.m2
  have h5 := mlen_bd x.y x.mo
  have e : dateOkB x.y x.mo 1 0 0 0 = true := by
    rw [dateOk_iff]
    refine ⟨by omega, h1, h2, by simp only; omega, by simp only; omega, by simp only; omega, ?_, by simp only; omega, by simp only; omega, by simp only; omega, by simp only; omega, by simp only; omega, by simp only; omega⟩
    simp only [Int.toNat_natCast]
    omega
  unfold timeV
  rw [e, if_pos rfl, Int.toNat_natCast]
theorem first_year {x : Dt} (h : x.Ok) : timeV x.y 1 1 0 0 0 = (Dt.mk x.y 1 1 0 0 0).time := by
  have h1 := h.y1; have h2 := h.y2
  have h5 := mlen_bd x.y 1
  have e : dateOkB x.y 1 1 0 0 0 = true := by
    rw [dateOk_iff]
    refine ⟨by omega, h1, h2, by simp only; omega, by simp only; omega, by simp only; omega, ?_, by simp only; omega, by simp only; omega, by simp only; omega, by simp only; omega, by simp only; omega, by simp only; omega⟩
    simp only
    rw [show ((Int.toNat 1 : Nat) : Int) = 1 from rfl]
    omega
  unfold timeV
  rw [e, if_pos rfl]
  rfl

end Go.Proofs.YtbikcldkaogfmaaDoor
