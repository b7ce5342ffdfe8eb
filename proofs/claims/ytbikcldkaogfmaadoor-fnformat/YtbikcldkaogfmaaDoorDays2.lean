/- The contract of spec.DateOf: the one right date of a time. -/
import Derived.Test.YtbikcldkaogfmaaDoorDays
namespace Go.Proofs.YtbikcldkaogfmaaDoor
open Go.RowKit

def zeroD : Array Value := #[.int .i64 0, .int .i64 0, .int .i64 0, .int .i64 0, .int .i64 0, .int .i64 0]
theorem zero_date (w : World) : (zeroValue 43).run Tryd.prog w = .ok (.agg zeroD) w := by kernel_rfl

theorem cell_six {W : World} {p : Nat} {cs : Array Value} {t : TypeId} (h : W.heap[p]? = some (.cells cs t (0, 0))) (hs : cs.size = 6) (j : Nat) (hj : j < 6) : (∃ v, W.cell? ⟨p, j, none⟩ = some v) ∧ W.frozen? ⟨p, j, none⟩ = false := by
  refine ⟨⟨cs[j]'(by omega), ?_⟩, frozen_of_row W p j cs t h⟩
  simp [World.cell?, h, hs, hj]

theorem year_end {y days : Int} (h : days ≤ 2932896) (hy : y ≤ 9999) (h2 : ysum (y + 1) ≤ days) : y + 1 ≤ 9999 := by
  rcases (by omega : y + 1 ≤ 9999 ∨ y + 1 = 10000) with e | e
  · exact e
  · rw [e, ysum_10000] at h2; omega
theorem month_end {y r : Int} {m : Nat} (h1 : 1 ≤ m) (hm : m ≤ 12) (hr : r < ylen y) (h2 : msum y m + mlen y m ≤ r) : m + 1 ≤ 12 := by
  rcases (by omega : m + 1 ≤ 12 ∨ m = 12) with e | e
  · exact e
  · subst e
    have : msum y 13 = msum y 12 + mlen y ((12 : Nat) : Int) := msum_step y 12 (by omega)
    have := msum_13 y
    omega

set_option maxRecDepth 100000 in
set_option maxHeartbeats 1000000 in
theorem specDateOf_out (t : Int) (w : World) (ht : timeB t = false) :
    Calls Tryd.prog 61 #[.int .i64 t] w fun e w' => e = .returned (.agg zeroD) ∧ Below w.heap.size w w' := by
  go_enter Tryd.func61, Tryd.ntmps61
  go_wp2_with (first | (go_at_call 47; refine (specTime _ _).mono ?_; rintro e w' ⟨rfl, rfl⟩))
  refine bodyPost_ret (v := .agg zeroD) (by simp [results, Tryd.results61, go_sem, zeroD]) rfl ⟨rfl, ?_⟩
  exact ((Below.refl _ _).alloc (Nat.le_refl _) _)

set_option maxRecDepth 100000 in
set_option maxHeartbeats 1000000 in
theorem specDateOf (t : Int) (w : World) (ht : timeB t = true) :
    Calls Tryd.prog 61 #[.int .i64 t] w fun e w' => ∃ x : Dt, (x.Ok ∧ x.time = t ∧ e = .returned (.agg #[.int .i64 x.y, .int .i64 x.mo, .int .i64 x.d, .int .i64 x.h, .int .i64 x.mi, .int .i64 x.s])) ∧ Below w.heap.size w w' := by
  have hb := inB_iff.1 ht
  obtain ⟨h0, h1⟩ := hb
  have hd0 : 0 ≤ (t / 86400) := by omega
  have hd1 : (t / 86400) ≤ 2932896 := by omega
  have HS := Lib.hid (ysum_start (t / 86400) hd0)
  go_enter Tryd.func61, Tryd.ntmps61
  go_wp2_with (first | (go_at_call 47; refine (specTime _ _).mono ?_; rintro e w' ⟨rfl, rfl⟩))
  go_loopw [5] (fun yv wr => ∃ (y : Int) (cs : Array Value), yv = .int .i64 y ∧ 1970 ≤ y ∧ y ≤ 9999 ∧ ysum y ≤ (t / 86400) ∧ wr = w.alloc (.cells cs 43) ∧ cs.size = 6) (fun yv _ => (10000 - intOf yv).toNat)
  case atStart => exact ⟨1970 + t / 86400 / 366, _, rfl, by omega, by omega, HS.out, rfl, by simp⟩
  case round =>
    obtain ⟨y, cs, rfl, hy0, hy1, hys, rfl, hcs⟩ := hrel
    have HY := Lib.hid hys
    by_cases hn : ysum (y + 1) ≤ (t / 86400)
    · have HE := Lib.hid (year_end hd1 hy1 hn)
      have HN := Lib.hid hn
      go_wp2_with (go_at_call 67; refine (specYears _ _ (by omega) (by omega)).mono ?_; rintro e w' ⟨rfl, rfl⟩)
      go_roundw
      case rel => exact ⟨y + 1, cs, by go_num, by omega, HE.out, HN.out, rfl, hcs⟩
      case measure => have := HE.out; simp [intOf]; omega
    · obtain ⟨r, hr⟩ : ∃ r, (t / 86400) - ysum y = r := ⟨_, rfl⟩
      have HR := Lib.hid hr
      have hr0 : 0 ≤ r := by omega
      have hr1 : r ≤ 2932896 := by have := ysum_lt (show 1969 < y by omega); have := ysum_1970; rw [show (1969 : Int) + 1 = 1970 from rfl] at *; omega
      have HL := Lib.hid (show r < ylen y by have := ysum_step y; omega)
      have hys0 : 0 ≤ ysum y := by have := ysum_lt (show 1969 < y by omega); have := ysum_1970; rw [show (1969 : Int) + 1 = 1970 from rfl] at *; omega
      have hys1 : ysum y ≤ 2932896 := by omega
      have HNN := Lib.hid hn
      go_wp2_with (go_at_call 67; refine (specYears _ _ (by omega) (by omega)).mono ?_; rintro e w' ⟨rfl, rfl⟩)
      go_loopw [3, 6] (fun rv mv wr => ∃ (m : Nat), rv = .int .i64 (r - msum y m) ∧ mv = .int .i64 m ∧ 1 ≤ m ∧ m ≤ 12 ∧ msum y m ≤ r ∧ Below (w.heap.size + 1) (w.alloc (.cells cs 43)) wr) (fun _ mv _ => (13 - intOf mv).toNat)
      case atStart => exact ⟨1, by rw [msum_1]; go_num, rfl, by omega, by omega, by rw [msum_1]; exact hr0, Below.refl _ _⟩
      case round =>
        obtain ⟨m, rfl, rfl, hm1, hm2, hms, hbw⟩ := hrel
        have hmd := mdays_in (y := y) (m := m) (by omega) hy1 (by omega) (by omega)
        have hml := mlen_bd y m
        obtain ⟨q, hq⟩ : ∃ q, r - msum y m = q := ⟨_, rfl⟩
        have HQ := Lib.hid hq
        have HMD := Lib.hid hmd
        have hq0 : 0 ≤ q := by omega
        have hq1 : q ≤ 2932896 := by
          have := msum_mono y (m - 1) 1 (by omega)
          rw [show 1 + (m - 1) = m by omega, msum_1] at this
          omega
        rw [hq]
        clear hq hmd
        by_cases hge : mlen y m ≤ q
        · have HE := Lib.hid (month_end hm1 hm2 HL.out (by have := HQ.out; omega))
          have HST := Lib.hid (msum_step y m hm1)
          have hb2 := hbw.size
          go_wp2_with fail
          refine (specMonthDays _ _ _).mono ?_
          rintro e W1 ⟨rfl, hb1⟩
          rw [HMD.out]
          go_wp2_with fail
          refine (specMonthDays _ _ _).mono ?_
          rintro e W2 ⟨rfl, hbb⟩
          rw [HMD.out]
          go_wp2
          go_roundw
          case rel =>
            have hs : w.heap.size + 1 ≤ wr.heap.size := by have := hbw.size; simp at this; omega
            refine ⟨m + 1, ?_, by go_num, by omega, HE.out, ?_, (hbw.trans (hb1.mono hs)).trans (hbb.mono (Nat.le_trans hs hb1.size))⟩
            · have h1 := HST.out; have h2 := HQ.out; congr 1; omega
            · have h1 := HST.out; have h2 := HQ.out; omega
          case measure => have := HE.out; simp [intOf]; omega
        · have hlt : q < mlen y m := by omega
          go_wp2_with fail
          refine (specMonthDays _ _ _).mono ?_
          rintro e W1 ⟨rfl, hb1⟩
          rw [HMD.out]
          have hs : w.heap.size + 1 ≤ wr.heap.size := by have := hbw.size; simp at this; omega
          have hB := hbw.trans (hb1.mono hs)
          have hblk : W1.heap[w.heap.size]? = some (.cells cs 43 (0, 0)) := (hB.block w.heap.size (by omega)).trans (heap_alloc_new w _)
          have HB := Lib.hid hB
          obtain ⟨⟨v0, c0⟩, f0⟩ := cell_six hblk hcs 0 (by omega)
          obtain ⟨⟨v1, c1⟩, f1⟩ := cell_six hblk hcs 1 (by omega)
          obtain ⟨⟨v2, c2⟩, f2⟩ := cell_six hblk hcs 2 (by omega)
          obtain ⟨⟨v3, c3⟩, f3⟩ := cell_six hblk hcs 3 (by omega)
          obtain ⟨⟨v4, c4⟩, f4⟩ := cell_six hblk hcs 4 (by omega)
          obtain ⟨⟨v5, c5⟩, f5⟩ := cell_six hblk hcs 5 (by omega)
          clear hB hb1 hbw hblk
          go_wp2
          refine bodyPost_ret (v := .agg #[.int .i64 y, .int .i64 m, .int .i64 (q + 1), .int .i64 (t % 86400 / 3600), .int .i64 (t % 86400 / 60 % 60), .int .i64 (t % 86400 % 60)]) ?_ rfl ⟨⟨y, m, q + 1, t % 86400 / 3600, t % 86400 / 60 % 60, t % 86400 % 60⟩, ⟨⟨hy0, hy1, hm1, hm2, by simp only; omega, by simp only; omega, by simp only; omega, by simp only; omega, by simp only; omega, by simp only; omega, by simp only; omega, by simp only; omega⟩, ?_, rfl⟩, ?_⟩
          · simp [results, Tryd.results61, go_sem, c0, c1, c2, c3, c4, c5]
          · have e1 := HR.out
            have e2 := HQ.out
            simp only [Dt.time]
            omega
          · have hbb : Below w.heap.size w W1 := ((Below.refl w.heap.size w).alloc (Nat.le_refl _) _).trans (HB.out.mono (Nat.le_succ _))
            have k : w.heap.size ≤ w.heap.size := Nat.le_refl _
            exact (((((hbb.setCell (p := ⟨w.heap.size, 0, none⟩) k _).setCell (p := ⟨w.heap.size, 1, none⟩) k _).setCell (p := ⟨w.heap.size, 2, none⟩) k _).setCell (p := ⟨w.heap.size, 3, none⟩) k _).setCell (p := ⟨w.heap.size, 4, none⟩) k _).setCell (p := ⟨w.heap.size, 5, none⟩) k _
end Go.Proofs.YtbikcldkaogfmaaDoor
