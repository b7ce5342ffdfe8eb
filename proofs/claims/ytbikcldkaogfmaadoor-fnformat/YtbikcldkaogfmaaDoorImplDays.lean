/- Contracts of impl.DateOf and impl.TimeOf. -/
import Derived.Test.YtbikcldkaogfmaaDoorImplDateOk
namespace Go.Proofs.YtbikcldkaogfmaaDoor
open Go.RowKit

set_option maxRecDepth 100000 in
set_option maxHeartbeats 1000000 in
theorem implDateOf_out (t : Int) (w : World) (ht : timeB t = false) :
    Calls Tryd.prog 41 #[.int .i64 t] w fun e w' => e = .returned (.agg zeroD) ∧ Below w.heap.size w w' := by
  go_enter Tryd.func41, Tryd.ntmps41
  go_wp2_with (first | (go_at_call 40; refine (implIsTime _ _).mono ?_; rintro e w' ⟨rfl, rfl⟩))
  refine bodyPost_ret (v := .agg zeroD) (by simp [results, Tryd.results41, go_sem, zeroD]) rfl ⟨rfl, ?_⟩
  exact ((Below.refl _ _).alloc (Nat.le_refl _) _)

set_option maxRecDepth 100000 in
set_option maxHeartbeats 1000000 in
theorem implDateOf (x : Dt) (hx : x.Ok) (w : World) (hT : TabsM w) :
    Calls Tryd.prog 41 #[.int .i64 x.time] w fun e w' => e = .returned (.agg #[.int .i64 x.y, .int .i64 x.mo, .int .i64 x.d, .int .i64 x.h, .int .i64 x.mi, .int .i64 x.s]) ∧ Below w.heap.size w w' := by
  have ht := timeB_ok hx
  obtain ⟨hb0, hb1⟩ := hx.time_bd
  have hd := Dt.day hx
  have hyd := hx.yday
  have hm1 := hx.m1
  have hm2 := hx.m2
  have hd1 := hx.d1
  have hd2 := hx.d2
  have hy1 := hx.y1
  have hy2 := hx.y2
  have hl := ylen_bd x.y
  have eh : x.time % 86400 / 3600 = x.h := by have := hx.h1; have := hx.h2; have := hx.i1; have := hx.i2; have := hx.s1; have := hx.s2; omega
  have ei : x.time % 86400 % 3600 / 60 = x.mi := by have := hx.h1; have := hx.h2; have := hx.i1; have := hx.i2; have := hx.s1; have := hx.s2; omega
  have es : x.time % 86400 % 60 = x.s := by have := hx.h1; have := hx.h2; have := hx.i1; have := hx.i2; have := hx.s1; have := hx.s2; omega
  have HE := Lib.hid (And.intro eh (And.intro ei es))
  have HX := Lib.hid hx
  obtain ⟨ys, hys⟩ : ∃ ys, ysum x.y = ys := ⟨_, rfl⟩
  have HS := Lib.hid hys
  obtain ⟨q, hq⟩ : ∃ q, msum x.y x.mo + x.d = q := ⟨_, rfl⟩
  have HQ := Lib.hid hq
  have hr : x.time / 86400 - ys + 1 = q := by omega
  have hq1 : 1 ≤ q := by omega
  have hq2 : q ≤ 366 := by omega
  have HR := Lib.hid hr
  have HT := Lib.hid (hT.on ((Below.refl w.heap.size w).alloc (Nat.le_refl _) (.cells #[.int .i64 0, .int .i64 0, .int .i64 0, .int .i64 0, .int .i64 0, .int .i64 0] 43)))
  have hys0 : 0 ≤ x.time / 86400 - ys := by omega
  have hys1 : x.time / 86400 - ys ≤ 366 := by omega
  have HD2 := Lib.hid hd2
  clear hx eh ei es hys hq hr hT hd hyd hl hd2
  go_enter Tryd.func41, Tryd.ntmps41
  go_wp2_with fail
  refine (implIsTime _ _).mono ?_
  rintro e w' ⟨rfl, rfl⟩
  go_wp2_with fail
  refine (implYearOfDaysX x HX.out _).mono ?_
  rintro e w' ⟨rfl, rfl⟩
  go_wp2_with fail
  refine (implDaysToYear x.y _ (by omega) (by omega)).mono ?_
  rintro e w' ⟨rfl, rfl⟩
  rw [HS.out]
  go_wp2_with fail
  rw [HR.out]
  go_loopw [6, 7] (fun mv dv wr => ∃ (m : Nat), dv = .int .i64 (q - msum x.y m) ∧ mv = .int .i64 m ∧ 1 ≤ m ∧ m ≤ x.mo ∧ wr = w.alloc (.cells #[.int .i64 0, .int .i64 0, .int .i64 0, .int .i64 0, .int .i64 0, .int .i64 0] 43)) (fun mv _ _ => (13 - intOf mv).toNat)
  case atStart => exact ⟨1, by rw [msum_1]; go_num, rfl, by omega, by omega, rfl⟩
  case round =>
    obtain ⟨m, rfl, rfl, hk1, hk2, rfl⟩ := hrel
    have HMD := Lib.hid (mdays_in (y := x.y) (m := m) (by omega) hy2 (by omega) (by omega))
    have HST := Lib.hid (msum_step x.y m hk1)
    have hms0 := msum_nonneg x.y m hk1
    obtain ⟨hml0, hml1⟩ := mlen_bd x.y m
    obtain ⟨p, hp⟩ : ∃ p, q - msum x.y m = p := ⟨_, rfl⟩
    have HP := Lib.hid hp
    have hp1 : p ≤ 366 := by omega
    rw [hp]
    by_cases hlt : m < x.mo
    · have hmm := msum_lt x.y hk1 hlt
      have hgt : mlen x.y m < p := by have := HST.out; have := HQ.out; omega
      clear hp hmm
      go_wp2_with (go_at_call 71; refine (implMonthDays _ _ _ HT.out).mono ?_; rintro e w' ⟨rfl, rfl⟩; rw [HMD.out])
      go_roundw
      case rel =>
        refine ⟨m + 1, ?_, by go_num, by omega, by omega, by first | trivial | rfl⟩
        have h1 := HST.out; have h2 := HP.out; congr 1; omega
      case measure => simp [intOf]; omega
    · obtain rfl : m = x.mo := by omega
      have hle : p ≤ mlen x.y x.mo := by have := HQ.out; have := HD2.out; omega
      have hpd : p = x.d := by have := HQ.out; omega
      clear hp
      go_wp2_with (go_at_call 71; refine (implMonthDays _ _ _ HT.out).mono ?_; rintro e w' ⟨rfl, rfl⟩; rw [HMD.out])
      refine bodyPost_ret (v := .agg #[.int .i64 x.y, .int .i64 x.mo, .int .i64 x.d, .int .i64 x.h, .int .i64 x.mi, .int .i64 x.s]) ?_ rfl ⟨rfl, ?_⟩
      · simp [results, Tryd.results41, go_sem, HE.out.1, hpd]
        have h1 := HE.out.2.1; have h2 := HE.out.2.2
        constructor <;> omega
      · exact (Below.refl _ _).alloc (Nat.le_refl _) _

set_option maxRecDepth 100000 in
set_option maxHeartbeats 1000000 in
theorem implTimeOf (y mo d h mi s : Int) (w : World) (hT : TabsM w) :
    Calls Tryd.prog 60 #[.agg #[.int .i64 y, .int .i64 mo, .int .i64 d, .int .i64 h, .int .i64 mi, .int .i64 s]] w fun e w' => e = .returned (.int .i64 (timeV y mo d h mi s)) ∧ Below w.heap.size w w' := by
  have HT := Lib.hid (hT.on ((Below.refl w.heap.size w).alloc (Nat.le_refl _) (.cells #[.int .i64 y, .int .i64 mo, .int .i64 d, .int .i64 h, .int .i64 mi, .int .i64 s] 43)))
  clear hT
  cases hok : dateOkB y mo d h mi s
  · rw [show timeV y mo d h mi s = -1 by unfold timeV; rw [hok]; rfl]
    go_enter Tryd.func60, Tryd.ntmps60
    go_wp2_with (go_at_call 76; refine (implDateOk _ _ _ _ _ _ _ HT.out).mono ?_; rintro e W1 ⟨rfl, hb1⟩)
    go_ret
    exact ⟨rfl, ((Below.refl _ _).alloc (Nat.le_refl _) _).trans (hb1.mono (by simp))⟩
  · rw [show timeV y mo d h mi s = (Dt.mk y mo.toNat d h mi s).time by unfold timeV; rw [hok]; rfl]
    obtain ⟨⟨hm1, hm2⟩, ok⟩ := (dateOk_iff y mo d h mi s).1 hok
    have h1 := ok.y1; have h2 := ok.y2; have h3 := ok.d1; have h4 := ok.d2; have h5 := ok.h1; have h6 := ok.h2; have h7 := ok.i1; have h8 := ok.i2; have h9 := ok.s1; have h10 := ok.s2
    simp only at h1 h2 h3 h4 h5 h6 h7 h8 h9 h10
    have h11 := (mlen_bd y ((mo.toNat : Nat) : Int)).2
    have hd31 : d ≤ 31 := by omega
    have hys0 : 0 ≤ ysum y := by have := ysum_lt (show 1969 < y by omega); have := ysum_1970; rw [show (1969 : Int) + 1 = 1970 from rfl] at *; omega
    have hys1 : ysum y ≤ 2932897 := by have := ysum_lt (show y < 10000 by omega); have := ysum_10000; have := ysum_step y; have := ylen_bd y; omega
    clear h11 h4 ok
    go_enter Tryd.func60, Tryd.ntmps60
    go_wp2_with (go_at_call 76; refine (implDateOk _ _ _ _ _ _ _ HT.out).mono ?_; rintro e W1 ⟨rfl, hb1⟩)
    have hB : Below (w.heap.size + 1) (w.alloc (.cells #[.int .i64 y, .int .i64 mo, .int .i64 d, .int .i64 h, .int .i64 mi, .int .i64 s] 43)) W1 := hb1.mono (by simp)
    have c0 : W1.cell? ⟨w.heap.size, 0, none⟩ = some (.int .i64 y) := date_cell hB 0
    have c2 : W1.cell? ⟨w.heap.size, 2, none⟩ = some (.int .i64 d) := date_cell hB 2
    have CY := Lib.hid (show ∀ n, Calls Tryd.prog 70 #[.int .i64 y] (W1.drewN n) fun e w'' => e = .returned (.int .i64 (ysum y)) ∧ ∃ m, w'' = W1.drewN m from
      fun n => (implDaysToYear y _ (by omega) (by omega)).mono fun _ _ ⟨he, hw⟩ => ⟨he, n, hw.symm⟩)
    have HB := Lib.hid hB
    have HB1 := Lib.hid hb1
    clear hB hb1
    go_quiet (exact CY.out _)
    have hB2 := below_drewN HB.out nq
    have HTW := Lib.hid (HT.out.on (below_drewN HB1.out nq))
    generalize W1.drewN nq = W2 at hB2 HTW ⊢
    clear c0 c2 CY HB HB1
    go_wp2
    go_loopw [3, 4] (fun dv mv wr => ∃ m : Nat, dv = .int .i64 (ysum y + d - 1 + msum y m) ∧ mv = .int .i64 m ∧ 1 ≤ m ∧ (m : Int) ≤ mo ∧ wr = W2) (fun _ mv _ => (13 - intOf mv).toNat)
    case atStart => exact ⟨1, by rw [msum_1]; congr 1; omega, rfl, by omega, by omega, rfl⟩
    case round =>
      obtain ⟨m, rfl, rfl, hk1, hk2, rfl⟩ := hrel
      have c0 := date_cell hB2 0
      have c1 := date_cell hB2 1
      have c3 := date_cell hB2 3
      have c4 := date_cell hB2 4
      have c5 := date_cell hB2 5
      simp at c0 c1 c3 c4 c5
      have hms0 := msum_nonneg y m hk1
      have hms1 := msum_le y m hk1 (by omega)
      have HB := Lib.hid hB2
      have HST := Lib.hid (msum_step y m hk1)
      have HMD := Lib.hid (mdays_in (y := y) (m := m) (by omega) h2 (by omega) (by omega))
      have hml := mlen_bd y m
      obtain ⟨hml0, hml1⟩ := hml
      clear hB2
      by_cases hlt : (m : Int) < mo
      · go_wp2_with (go_at_call 71; refine (implMonthDays _ _ _ HTW.out).mono ?_; rintro e W3 ⟨rfl, rfl⟩; rw [HMD.out])
        go_roundw
        case rel => exact ⟨m + 1, by have := HST.out; go_num, by go_num, by omega, by omega, by first | trivial | rfl⟩
        case measure => simp [intOf]; omega
      · obtain rfl : (m : Int) = mo := by omega
        go_wp2
        go_ret
        refine ⟨ret_int ?_, ((Below.refl w.heap.size w).alloc (Nat.le_refl _) _).trans (HB.out.mono (Nat.le_succ _))⟩
        simp only [Dt.time, Int.toNat_natCast]
        omega
end Go.Proofs.YtbikcldkaogfmaaDoor
