/- Plain facts on the calendar: what the year's and the month's days sum to, and that a day has one date. No model in this text. -/
import Derived.Test.YtbikcldkaogfmaaDoorBase
namespace Go.Proofs.YtbikcldkaogfmaaDoor

/-- Whether a year has a February 29. -/
def leapB (y : Int) : Bool := (decide (y % 4 = 0) && decide (y % 100 ≠ 0)) || decide (y % 400 = 0)
theorem leapB_t {y : Int} : leapB y = true ↔ (y % 4 = 0 ∧ y % 100 ≠ 0) ∨ y % 400 = 0 := by simp [leapB]
theorem leapB_f {y : Int} : leapB y = false ↔ ¬ ((y % 4 = 0 ∧ y % 100 ≠ 0) ∨ y % 400 = 0) := by
  rw [← leapB_t]; simp
/-- The days of a month of 1 .. 12. -/
def mlen (y m : Int) : Int :=
  if m = 2 then (if leapB y then 29 else 28) else if m = 4 ∨ m = 6 ∨ m = 9 ∨ m = 11 then 30 else 31
/-- MonthDays. -/
def mdays (y m : Int) : Int := if (1 ≤ y ∧ y ≤ 9999) ∧ (1 ≤ m ∧ m ≤ 12) then mlen y m else 0
theorem mdays_in {y m : Int} (h1 : 1 ≤ y) (h2 : y ≤ 9999) (h3 : 1 ≤ m) (h4 : m ≤ 12) : mdays y m = mlen y m := by unfold mdays; rw [if_pos ⟨⟨h1, h2⟩, h3, h4⟩]
theorem mdays_out {y m : Int} (h : ¬ ((1 ≤ y ∧ y ≤ 9999) ∧ (1 ≤ m ∧ m ≤ 12))) : mdays y m = 0 := by unfold mdays; rw [if_neg h]
theorem mlen_bd (y m : Int) : 28 ≤ mlen y m ∧ mlen y m ≤ 31 := by unfold mlen; split <;> (try split) <;> omega
theorem mdays_bd (y m : Int) : 0 ≤ mdays y m ∧ mdays y m ≤ 31 := by have := mlen_bd y m; unfold mdays; split <;> omega

/-- The days from 1970 on till a year begins. -/
def ysum (y : Int) : Int := 365 * (y - 1970) + (y - 1) / 4 - (y - 1) / 100 + (y - 1) / 400 - 477
def ylen (y : Int) : Int := if leapB y then 366 else 365
theorem ylen_bd (y : Int) : 365 ≤ ylen y ∧ ylen y ≤ 366 := by unfold ylen; split <;> omega
theorem ysum_step (y : Int) : ysum (y + 1) = ysum y + ylen y := by
  unfold ylen
  split
  · rename_i h
    rw [leapB_t] at h
    unfold ysum; omega
  · rename_i h
    have h2 : leapB y = false := by simpa using h
    rw [leapB_f] at h2
    unfold ysum; omega
theorem ysum_1970 : ysum 1970 = 0 := by decide
theorem ysum_10000 : ysum 10000 = 2932897 := by decide
theorem ysum_mono : ∀ (k : Nat) (y : Int), ysum y + 365 * k ≤ ysum (y + k)
  | 0, y => by simp
  | k + 1, y => by
    have h := ysum_mono k y
    have h2 := ysum_step (y + k)
    have h3 := ylen_bd (y + k)
    have e : y + ((k + 1 : Nat) : Int) = y + k + 1 := by omega
    rw [e]; omega
theorem ysum_lt {y z : Int} (h : y < z) : ysum (y + 1) ≤ ysum z := by
  obtain ⟨k, hk⟩ : ∃ k : Nat, z = y + 1 + k := ⟨(z - y - 1).toNat, by omega⟩
  have := ysum_mono k (y + 1)
  rw [hk]; omega
theorem ysum_start (d : Int) (h : 0 ≤ d) : ysum (1970 + d / 366) ≤ d := by unfold ysum; omega
/-- A day lies in one year. -/
theorem year_one {d y z : Int} (h1 : ysum y ≤ d) (h2 : d < ysum (y + 1)) (h3 : ysum z ≤ d) (h4 : d < ysum (z + 1)) : y = z := by
  rcases (by omega : y < z ∨ y = z ∨ z < y) with h | h | h
  · have := ysum_lt h; omega
  · exact h
  · have := ysum_lt h; omega

/-- The days of a year ahead of a month. -/
def msum (y : Int) : Nat → Int
  | 0 => 0
  | 1 => 0
  | k + 2 => msum y (k + 1) + mlen y (k + 1 : Nat)
theorem msum_step (y : Int) (k : Nat) (h : 1 ≤ k) : msum y (k + 1) = msum y k + mlen y (k : Nat) := by
  match k, h with
  | k + 1, _ => rfl
theorem msum_mono (y : Int) : ∀ (j k : Nat), 1 ≤ k → msum y k + 28 * j ≤ msum y (k + j)
  | 0, k, _ => by simp
  | j + 1, k, h => by
    have h1 := msum_mono y j k h
    have h2 := msum_step y (k + j) (by omega)
    have h3 := mlen_bd y ((k + j : Nat) : Int)
    have e : k + (j + 1) = k + j + 1 := by omega
    rw [e]; omega
theorem msum_lt (y : Int) {j k : Nat} (h1 : 1 ≤ j) (h : j < k) : msum y (j + 1) ≤ msum y k := by
  obtain ⟨i, rfl⟩ : ∃ i, k = j + 1 + i := ⟨k - j - 1, by omega⟩
  have := msum_mono y i (j + 1) (by omega)
  omega
theorem msum_13 (y : Int) : msum y 13 = ylen y := by
  unfold ylen
  cases h : leapB y <;> simp [msum, mlen, h]
theorem msum_1 (y : Int) : msum y 1 = 0 := rfl
theorem month_one {y r : Int} {j k : Nat} (hj : 1 ≤ j) (hk : 1 ≤ k) (h1 : msum y j ≤ r) (h2 : r < msum y (j + 1)) (h3 : msum y k ≤ r) (h4 : r < msum y (k + 1)) : j = k := by
  rcases (by omega : j < k ∨ j = k ∨ k < j) with h | h | h
  · have := msum_lt y hj h; omega
  · exact h
  · have := msum_lt y hk h; omega

/-- A date, by its fields. -/
structure Dt where
  y : Int
  mo : Nat
  d : Int
  h : Int
  mi : Int
  s : Int
/-- The time of a date, right or not. -/
def Dt.time (x : Dt) : Int := 86400 * (ysum x.y + msum x.y x.mo + x.d - 1) + 3600 * x.h + 60 * x.mi + x.s
/-- Whether the fields are right. -/
structure Dt.Ok (x : Dt) : Prop where
  y1 : 1970 ≤ x.y
  y2 : x.y ≤ 9999
  m1 : 1 ≤ x.mo
  m2 : x.mo ≤ 12
  d1 : 1 ≤ x.d
  d2 : x.d ≤ mlen x.y x.mo
  h1 : 0 ≤ x.h
  h2 : x.h ≤ 23
  i1 : 0 ≤ x.mi
  i2 : x.mi ≤ 59
  s1 : 0 ≤ x.s
  s2 : x.s ≤ 59
/-- The day of the year of a right date, from nought on. -/
theorem Dt.Ok.yday {x : Dt} (h : x.Ok) : 0 ≤ msum x.y x.mo + x.d - 1 ∧ msum x.y x.mo + x.d - 1 < ylen x.y := by
  have h1 := msum_mono x.y (x.mo - 1) 1 (by omega)
  have h2 := msum_step x.y x.mo h.m1
  have h3 := h.m1
  have h4 := h.m2
  have e : 1 + (x.mo - 1) = x.mo := by omega
  rw [e, msum_1] at h1
  have h5 : msum x.y (x.mo + 1) ≤ msum x.y 13 := by
    have := msum_mono x.y (13 - (x.mo + 1)) (x.mo + 1) (by omega)
    rw [show x.mo + 1 + (13 - (x.mo + 1)) = 13 by omega] at this
    omega
  rw [msum_13] at h5
  have := h.d1
  have := h.d2
  omega
theorem Dt.Ok.time_bd {x : Dt} (h : x.Ok) : 0 ≤ x.time ∧ x.time ≤ 253402300799 := by
  have h1 := h.yday
  have h2 := ysum_step x.y
  have h3 : ysum (x.y + 1) ≤ ysum 10000 := by have := h.y2; exact ysum_lt (by omega)
  have h4 : ysum 1970 ≤ ysum x.y := by
    have := h.y1
    rcases (by omega : x.y = 1970 ∨ 1970 < x.y) with e | e
    · rw [e]; exact Int.le_refl _
    · have := ysum_lt e; have := ysum_step 1970; have := ylen_bd 1970; omega
  rw [ysum_10000] at h3
  rw [ysum_1970] at h4
  have := h.h1; have := h.h2; have := h.i1; have := h.i2; have := h.s1; have := h.s2
  unfold Dt.time
  omega
/-- A right date is told by its time. -/
theorem Dt.one {x z : Dt} (hx : x.Ok) (hz : z.Ok) (h : x.time = z.time) : x = z := by
  have x1 := hx.yday
  have z1 := hz.yday
  have x2 := ysum_step x.y
  have z2 := ysum_step z.y
  unfold Dt.time at h
  have := hx.h1; have := hx.h2; have := hx.i1; have := hx.i2; have := hx.s1; have := hx.s2
  have := hz.h1; have := hz.h2; have := hz.i1; have := hz.i2; have := hz.s1; have := hz.s2
  have hd : ysum x.y + msum x.y x.mo + x.d = ysum z.y + msum z.y z.mo + z.d := by omega
  have es : x.s = z.s := by omega
  have ei : x.mi = z.mi := by omega
  have eh : x.h = z.h := by omega
  have ey : x.y = z.y := year_one (d := ysum x.y + msum x.y x.mo + x.d - 1) (by omega) (by omega) (by omega) (by omega)
  obtain ⟨xy, xm, xd, xh, xi, xs⟩ := x
  obtain ⟨zy, zm, zd, zh, zi, zs⟩ := z
  simp only at *
  subst ey es ei eh
  have xs1 := msum_step xy xm hx.m1
  have zs1 := msum_step xy zm hz.m1
  have a1 := hx.d1; have a2 := hx.d2; have b1 := hz.d1; have b2 := hz.d2
  simp only at a1 a2 b1 b2
  obtain rfl := month_one (y := xy) (r := msum xy xm + xd - 1) (j := xm) (k := zm) hx.m1 hz.m1 (by omega) (by omega) (by omega) (by omega)
  obtain rfl : xd = zd := by omega
  rfl
/-- What a date of a time is. -/
theorem Dt.day {x : Dt} (h : x.Ok) : x.time / 86400 = ysum x.y + msum x.y x.mo + x.d - 1 ∧ x.time % 86400 = 3600 * x.h + 60 * x.mi + x.s := by
  have := h.h1; have := h.h2; have := h.i1; have := h.i2; have := h.s1; have := h.s2
  unfold Dt.time
  omega
end Go.Proofs.YtbikcldkaogfmaaDoor
