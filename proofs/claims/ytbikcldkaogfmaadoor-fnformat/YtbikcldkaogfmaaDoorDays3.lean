/- Contracts of spec.TimeOf and spec.YearDay. -/
import Derived.Test.YtbikcldkaogfmaaDoorDays2
namespace Go.Proofs.YtbikcldkaogfmaaDoor
open Go.RowKit

def timeV (y mo d h mi s : Int) : Int := if dateOkB y mo d h mi s then (Dt.mk y mo.toNat d h mi s).time else -1

theorem date_cell {w W : World} {y mo d h mi s : Int} (hb : Below (w.heap.size + 1) (w.alloc (.cells #[.int .i64 y, .int .i64 mo, .int .i64 d, .int .i64 h, .int .i64 mi, .int .i64 s] 43)) W) (j : Nat) :
    W.cell? ⟨w.heap.size, j, none⟩ = (#[.int .i64 y, .int .i64 mo, .int .i64 d, .int .i64 h, .int .i64 mi, .int .i64 s] : Array Value)[j]? :=
  (hb.cell (p := ⟨w.heap.size, j, none⟩) (Nat.lt_succ_self _)).trans (World.cell?_alloc_at _ _ _ j rfl)
theorem msum_nonneg (y : Int) (m : Nat) (h : 1 ≤ m) : 0 ≤ msum y m := by
  have := msum_mono y (m - 1) 1 (by omega)
  rw [show 1 + (m - 1) = m by omega, msum_1] at this
  omega
theorem msum_le (y : Int) (m : Nat) (h : 1 ≤ m) (h2 : m ≤ 12) : msum y m ≤ 366 := by
  have := msum_mono y (13 - m) m h
  rw [show m + (13 - m) = 13 by omega, msum_13] at this
  have := ylen_bd y
  omega

set_option maxRecDepth 100000 in
set_option maxHeartbeats 1000000 in
theorem specTimeOf (y mo d h mi s : Int) (w : World) :
    Calls Tryd.prog 39 #[.agg #[.int .i64 y, .int .i64 mo, .int .i64 d, .int .i64 h, .int .i64 mi, .int .i64 s]] w fun e w' => e = .returned (.int .i64 (timeV y mo d h mi s)) ∧ Below w.heap.size w w' := by
  cases hok : dateOkB y mo d h mi s
  · rw [show timeV y mo d h mi s = -1 by unfold timeV; rw [hok]; rfl]
    go_enter Tryd.func39, Tryd.ntmps39
    go_wp2_with (go_at_call 66; refine (specDateOk _ _ _ _ _ _ _).mono ?_; rintro e W1 ⟨rfl, hb1⟩)
    go_ret
    exact ⟨rfl, ((Below.refl _ _).alloc (Nat.le_refl _) _).trans (hb1.mono (by simp))⟩
  · rw [show timeV y mo d h mi s = (Dt.mk y mo.toNat d h mi s).time by unfold timeV; rw [hok]; rfl]
    obtain ⟨⟨hm1, hm2⟩, ok⟩ := (dateOk_iff y mo d h mi s).1 hok
    have h1 := ok.y1; have h2 := ok.y2; have h3 := ok.d1; have h4 := ok.d2; have h5 := ok.h1; have h6 := ok.h2; have h7 := ok.i1; have h8 := ok.i2; have h9 := ok.s1; have h10 := ok.s2
    simp only at h1 h2 h3 h4 h5 h6 h7 h8 h9 h10
    have h11 := (mlen_bd y ((mo.toNat : Nat) : Int)).2
    have hd31 : d ≤ 31 := by omega
    have hys0 : 0 ≤ ysum y := by have := ysum_lt (show 1969 < y by omega); have := ysum_1970; rw [show (1969 : Int) + 1 = 1970 from rfl] at *; omega
    have hys1 : ysum y ≤ 2932897 := by have := ysum_lt (show y < 10000 by omega); have := ysum_10000; have := ysum_step y; have := ylen_bd y; omega
    clear h11 h4 ok
    go_enter Tryd.func39, Tryd.ntmps39
    go_wp2_with (go_at_call 66; refine (specDateOk _ _ _ _ _ _ _).mono ?_; rintro e W1 ⟨rfl, hb1⟩)
    have hB : Below (w.heap.size + 1) (w.alloc (.cells #[.int .i64 y, .int .i64 mo, .int .i64 d, .int .i64 h, .int .i64 mi, .int .i64 s] 43)) W1 := hb1.mono (by simp)
    have c0 : ∀ n os, (Sort.grow (redrawn W1 n) os).cell? ⟨w.heap.size, 0, none⟩ = some (.int .i64 y) := fun n os => cell_regrown (date_cell hB 0) n os
    have c2 : ∀ n os, (Sort.grow (redrawn W1 n) os).cell? ⟨w.heap.size, 2, none⟩ = some (.int .i64 d) := fun n os => cell_regrown (date_cell hB 2) n os
    have CY := Lib.hid (show ∀ n os, Calls Tryd.prog 67 #[.int .i64 y] (Sort.grow (redrawn W1 n) os) fun e w'' => e = .returned (.int .i64 (ysum y)) ∧ ∃ p : Regrown, w'' = Sort.grow (redrawn W1 p.d) p.os from
      fun n os => Calls.regrown_of ((specYears y _ (by omega) (by omega)).mono fun _ _ ⟨he, hw⟩ => ⟨he, hw ▸ Below.refl _ _⟩))
    have HB := Lib.hid hB
    clear hB hb1
    refine wp_region_quiet_below (by kernel_rfl) (by kernel_rfl) ?_
    repeat (quiet_step (exact CY.out _ _))
    refine wpQuiet_nil ?_
    intro w2 hw2
    obtain ⟨p, rfl⟩ := hw2
    have hB2 := HB.out.trans ((below_regrown W1 p.d p.os).mono (by have := HB.out.size; simp at this; omega))
    generalize Sort.grow (redrawn W1 p.d) p.os = W2 at hB2 ⊢
    clear c0 c2 CY HB
    go_wp2
    go_loopw [3, 4] (fun dv mv wr => ∃ m : Nat, dv = .int .i64 (ysum y + d - 1 + msum y m) ∧ mv = .int .i64 m ∧ 1 ≤ m ∧ (m : Int) ≤ mo ∧ Below (w.heap.size + 1) (w.alloc (.cells #[.int .i64 y, .int .i64 mo, .int .i64 d, .int .i64 h, .int .i64 mi, .int .i64 s] 43)) wr) (fun _ mv _ => (13 - intOf mv).toNat)
    case atStart => exact ⟨1, by rw [msum_1, IntKind.wrap_i64, IntKind.wrap_i64]; congr 1; omega, rfl, by omega, by omega, hB2⟩
    case round =>
      clear hB2
      obtain ⟨m, rfl, rfl, hk1, hk2, hbw⟩ := hrel
      have c0 := date_cell hbw 0
      have c1 := date_cell hbw 1
      have c3 := date_cell hbw 3
      have c4 := date_cell hbw 4
      have c5 := date_cell hbw 5
      simp at c0 c1 c3 c4 c5
      have hms0 := msum_nonneg y m hk1
      have hms1 := msum_le y m hk1 (by omega)
      have hs : w.heap.size + 1 ≤ wr.heap.size := by have := hbw.size; simp at this; omega
      have HB := Lib.hid hbw
      have HST := Lib.hid (msum_step y m hk1)
      have HMD := Lib.hid (mdays_in (y := y) (m := m) (by omega) h2 (by omega) (by omega))
      have hml := mlen_bd y m
      obtain ⟨hml0, hml1⟩ := hml
      clear hbw
      by_cases hlt : (m : Int) < mo
      · go_wp2_with (go_at_call 68; refine (specMonthDays _ _ _).mono ?_; rintro e W3 ⟨rfl, hb3⟩; rw [HMD.out])
        go_roundw
        case rel => exact ⟨m + 1, by have := HST.out; go_num, by go_num, by omega, by omega, HB.out.trans (hb3.mono hs)⟩
        case measure => simp [intOf]; omega
      · obtain rfl : (m : Int) = mo := by omega
        go_wp2
        go_ret
        refine ⟨ret_int ?_, ((Below.refl w.heap.size w).alloc (Nat.le_refl _) _).trans (HB.out.mono (Nat.le_succ _))⟩
        simp only [Dt.time]
        omega
end Go.Proofs.YtbikcldkaogfmaaDoor
