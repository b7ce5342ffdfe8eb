/- Proved: laws.FnPeriod answers true at every code: at the drawn kind and time impl.PeriodOf and impl.PeriodStart tell what spec's tell, and a period begins at its start, and not a second ahead of it; the argument reads as before. The listed table of the months' lengths is tied to the program's text; the card speaks of the pruned copy of the project that the seat holds. -/
import Derived.Test.YthcofpkppienaaaDoorBig
import Derived.Test.YthcofpkppienaaaDoorDrawDays
import Derived.Test.YthcofpkppienaaaDoorImplPeriods
namespace Go.Proofs.YthcofpkppienaaaDoor
open Go.RowKit

/-- The last second of a year. -/
theorem prev_year {y : Int} (h0 : 1970 < y) (h1 : y ≤ 9999) : (Dt.mk (y - 1) 12 31 23 59 59).Ok ∧ (Dt.mk (y - 1) 12 31 23 59 59).time = (Dt.mk y 1 1 0 0 0).time - 1 := by
  have e : mlen (y - 1) ((12 : Nat) : Int) = 31 := by simp [mlen]
  refine ⟨⟨by simp only; omega, by simp only; omega, by simp only; omega, by simp only; omega, by simp only; omega, by simp only [e]; omega, by simp only; omega, by simp only; omega, by simp only; omega, by simp only; omega, by simp only; omega, by simp only; omega⟩, ?_⟩
  have h2 := ysum_step (y - 1)
  rw [show y - 1 + 1 = y by omega] at h2
  have h3 := msum_13 (y - 1)
  have h4 : msum (y - 1) 13 = msum (y - 1) 12 + mlen (y - 1) ((12 : Nat) : Int) := msum_step (y - 1) 12 (by omega)
  simp only [Dt.time, msum_1]
  omega
/-- The last second of a month. -/
theorem prev_month {y : Int} {m : Nat} (h0 : 1970 ≤ y) (h1 : y ≤ 9999) (hm : 1 ≤ m) (hm2 : m + 1 ≤ 12) : (Dt.mk y m (mlen y m) 23 59 59).Ok ∧ (Dt.mk y m (mlen y m) 23 59 59).time = (Dt.mk y (m + 1) 1 0 0 0).time - 1 := by
  have hb := mlen_bd y m
  refine ⟨⟨by simp only; omega, by simp only; omega, by simp only; omega, by simp only; omega, by simp only; omega, by simp only; omega, by simp only; omega, by simp only; omega, by simp only; omega, by simp only; omega, by simp only; omega, by simp only; omega⟩, ?_⟩
  have h4 := msum_step y m hm
  simp only [Dt.time]
  omega
theorem first_ok {x : Dt} (h : x.Ok) (m : Nat) (h1 : 1 ≤ m) (h2 : m ≤ 12) : (Dt.mk x.y m 1 0 0 0).Ok := by
  have hb := mlen_bd x.y m
  exact ⟨h.y1, h.y2, h1, h2, by simp only; omega, by simp only; omega, by simp only; omega, by simp only; omega, by simp only; omega, by simp only; omega, by simp only; omega, by simp only; omega⟩
/-- A period begins at its start, and not a second ahead of it. -/
structure Starts (kind : Int) (x : Dt) : Prop where
  n0 : 0 ≤ periodV kind x
  n1 : periodV kind x ≤ 253402300799
  s0 : 0 ≤ startV kind x
  s1 : startV kind x ≤ x.time
  at_ : ∀ z : Dt, z.Ok → z.time = startV kind x → periodV kind z = periodV kind x
  ahead : startV kind x ≠ 0 → ∀ u : Dt, u.Ok → u.time = startV kind x - 1 → periodV kind u = periodV kind x - 1
theorem yday_time {x : Dt} (h : x.Ok) (m : Nat) (hm : 1 ≤ m) (hm2 : m ≤ x.mo) : (Dt.mk x.y m 1 0 0 0).time ≤ x.time := by
  have h1 := h.d1; have h2 := h.h1; have h3 := h.i1; have h4 := h.s1
  have h5 : msum x.y m ≤ msum x.y x.mo := by
    have := msum_mono x.y (x.mo - m) m hm
    rw [show m + (x.mo - m) = x.mo by omega] at this
    omega
  simp only [Dt.time]
  omega
theorem starts {kind : Int} {x : Dt} (h : x.Ok) (hk : 0 ≤ kind ∧ kind ≤ 4) : Starts kind x := by
  have hb := h.time_bd
  have hm1 := h.m1; have hm2 := h.m2; have hy1 := h.y1; have hy2 := h.y2
  rcases (by omega : kind = 0 ∨ kind = 1 ∨ kind = 2 ∨ kind = 3 ∨ kind = 4) with rfl | rfl | rfl | rfl | rfl
  · have p : ∀ z : Dt, periodV 0 z = z.time / 3600 := fun _ => rfl
    have s : startV 0 x = 3600 * (x.time / 3600) := rfl
    exact ⟨by rw [p]; omega, by rw [p]; omega, by rw [s]; omega, by rw [s]; omega, fun z _ hz => by rw [p, p, hz, s]; omega, fun hs u _ hu => by rw [p, p, hu, s]; rw [s] at hs; omega⟩
  · have p : ∀ z : Dt, periodV 1 z = z.time / 86400 := fun _ => rfl
    have s : startV 1 x = 86400 * (x.time / 86400) := rfl
    exact ⟨by rw [p]; omega, by rw [p]; omega, by rw [s]; omega, by rw [s]; omega, fun z _ hz => by rw [p, p, hz, s]; omega, fun hs u _ hu => by rw [p, p, hu, s]; rw [s] at hs; omega⟩
  · have p : ∀ z : Dt, periodV 2 z = (z.time / 86400 + 4) / 7 := fun _ => rfl
    have s : startV 2 x = (if (x.time / 86400 + 4) / 7 = 0 then 0 else 86400 * (7 * ((x.time / 86400 + 4) / 7) - 4)) := rfl
    by_cases h7 : (x.time / 86400 + 4) / 7 = 0
    · rw [if_pos h7] at s
      exact ⟨by rw [p]; omega, by rw [p]; omega, by rw [s]; omega, by rw [s]; omega, fun z _ hz => by rw [p, p, hz, s]; omega, fun hs u _ hu => by rw [s] at hs; omega⟩
    · rw [if_neg h7] at s
      exact ⟨by rw [p]; omega, by rw [p]; omega, by rw [s]; omega, by rw [s]; omega, fun z _ hz => by rw [p, p, hz, s]; omega, fun hs u _ hu => by rw [p, p, hu, s]; omega⟩
  · have p : ∀ z : Dt, periodV 3 z = 12 * (z.y - 1970) + z.mo - 1 := fun _ => rfl
    have s : startV 3 x = (Dt.mk x.y x.mo 1 0 0 0).time := rfl
    have ok := first_ok h x.mo hm1 hm2
    refine ⟨by rw [p]; omega, by rw [p]; omega, by rw [s]; exact ok.time_bd.1, by rw [s]; exact yday_time h x.mo hm1 (Nat.le_refl _), fun z hz e => ?_, fun hs u hu e => ?_⟩
    · rw [s] at e
      obtain rfl := Dt.one hz ok e
      rfl
    · rw [s] at e hs
      rcases (by omega : x.mo = 1 ∨ 2 ≤ x.mo) with hmo | hmo
      · rw [hmo] at e hs
        rcases (by omega : x.y = 1970 ∨ 1970 < x.y) with hy | hy
        · exfalso
          apply hs
          simp only [Dt.time, msum_1, hy, ysum_1970]
          rfl
        · obtain ⟨ok2, e2⟩ := prev_year hy hy2
          obtain rfl := Dt.one hu ok2 (by rw [e, e2])
          rw [p, p]
          simp only
          omega
      · obtain ⟨m, hm⟩ : ∃ m, x.mo = m + 1 := ⟨x.mo - 1, by omega⟩
        rw [hm] at e
        obtain ⟨ok2, e2⟩ := prev_month hy1 hy2 (show 1 ≤ m by omega) (by omega)
        obtain rfl := Dt.one hu ok2 (by rw [e, e2])
        rw [p, p]
        simp only
        omega
  · have p : ∀ z : Dt, periodV 4 z = z.y - 1970 := fun _ => rfl
    have s : startV 4 x = (Dt.mk x.y 1 1 0 0 0).time := rfl
    have ok := first_ok h 1 (by omega) (by omega)
    refine ⟨by rw [p]; omega, by rw [p]; omega, by rw [s]; exact ok.time_bd.1, by rw [s]; exact yday_time h 1 (by omega) hm1, fun z hz e => ?_, fun hs u hu e => ?_⟩
    · rw [s] at e
      obtain rfl := Dt.one hz ok e
      rfl
    · rw [s] at e hs
      rcases (by omega : x.y = 1970 ∨ 1970 < x.y) with hy | hy
      · exfalso
        apply hs
        simp only [Dt.time, msum_1, hy, ysum_1970]
        rfl
      · obtain ⟨ok2, e2⟩ := prev_year hy hy2
        obtain rfl := Dt.one hu ok2 (by rw [e, e2])
        rw [p, p]
        simp only
        omega
theorem kind_out {kind : Int} (hk : ¬ (0 ≤ kind ∧ kind ≤ 4)) (x : Dt) : periodV kind x = -1 ∧ startV kind x = -1 := by
  unfold periodV startV
  rw [if_neg (by omega), if_neg (by omega), if_neg (by omega), if_neg (by omega), if_neg (by omega), if_neg (by omega), if_neg (by omega), if_neg (by omega), if_neg (by omega), if_neg (by omega)]
  exact ⟨rfl, rfl⟩

set_option maxRecDepth 100000 in
set_option maxHeartbeats 1000000 in
theorem walkFnPeriod (a : Option Addr) (len cap : Nat) (zs : List Int) (w : World) (hr : IsRow .u8 w a len cap zs) (hT : Tabs w) :
    Calls Tryd.prog 4 #[.slice a len cap] w fun e w' => e = .returned (.bool true) ∧ Below w.heap.size w w' := by
  by_cases hl : len ≤ 1048576
  · have HT := Lib.hid hT
    clear hT
    go_enter Tryd.func4, Tryd.ntmps4
    go_wp2_with fail
    refine (bigF a len cap _ hl).mono ?_
    rintro e w' ⟨rfl, rfl⟩
    go_wp2_with fail
    refine (specDrawPeriodStart w _ a len cap zs hr (Below.refl _ _) hl).mono ?_
    rintro e W1 ⟨⟨kind, t, ⟨hk0, hk1⟩, ⟨ht0, ht1⟩, rfl⟩, hb1⟩
    have HT1 := Lib.hid (HT.out.on hb1)
    have HB1 := Lib.hid hb1
    clear hb1 hr
    by_cases hin : 0 ≤ t ∧ t ≤ 253402300799
    · obtain ⟨hi0, hi1⟩ := hin
      obtain ⟨x, hx, hxt⟩ := dt_some t hi0 hi1
      have CP := Lib.hid (show ∀ w, Tabs w → Calls Tryd.prog 22 #[.int .i64 kind, .int .i64 t] w fun e w' => e = .returned (.int .i64 (periodV kind x)) ∧ Below w.heap.size w w' from fun w hT => hxt ▸ implPeriodOf kind x hx w hT)
      have CS := Lib.hid (show ∀ w, Tabs w → Calls Tryd.prog 23 #[.int .i64 kind, .int .i64 t] w fun e w' => e = .returned (.int .i64 (startV kind x)) ∧ Below w.heap.size w w' from fun w hT => hxt ▸ implPeriodStart kind x hx w hT)
      have CSP := Lib.hid (show ∀ w, Calls Tryd.prog 24 #[.int .i64 kind, .int .i64 t] w fun e w' => e = .returned (.int .i64 (periodV kind x)) ∧ Below w.heap.size w w' from fun w => hxt ▸ specPeriodOf kind x hx w)
      have CSS := Lib.hid (show ∀ w, Calls Tryd.prog 25 #[.int .i64 kind, .int .i64 t] w fun e w' => e = .returned (.int .i64 (startV kind x)) ∧ Below w.heap.size w w' from fun w => hxt ▸ specPeriodStart kind x hx w)
      obtain ⟨n, hn⟩ : ∃ n, periodV kind x = n := ⟨_, rfl⟩
      obtain ⟨s, hs⟩ : ∃ s, startV kind x = s := ⟨_, rfl⟩
      rw [hn] at CP CSP
      rw [hs] at CS CSS
      go_wp2_with fail
      refine (CP.out _ HT1.out).mono ?_
      rintro e W2 ⟨rfl, hb2⟩
      have hB2 := HB1.out.trans (hb2.mono HB1.out.size)
      have HB2 := Lib.hid hB2
      clear hb2 hB2
      go_wp2_with fail
      refine (CS.out _ (HT.out.on HB2.out)).mono ?_
      rintro e W3 ⟨rfl, hb3⟩
      have hB3 := HB2.out.trans (hb3.mono HB2.out.size)
      have HB3 := Lib.hid hB3
      clear hb3 hB3
      go_wp2_with fail
      refine (CSP.out _).mono ?_
      rintro e W4 ⟨rfl, hb4⟩
      have hB4 := HB3.out.trans (hb4.mono HB3.out.size)
      have HB4 := Lib.hid hB4
      clear hb4 hB4
      go_wp2_with fail
      refine (CSS.out _).mono ?_
      rintro e W5 ⟨rfl, hb5⟩
      have hB5 := HB4.out.trans (hb5.mono HB4.out.size)
      have HB5 := Lib.hid hB5
      clear hb5 hB5 CP CS CSP CSS
      by_cases hkind : 0 ≤ kind ∧ kind ≤ 4
      · have st := starts hx hkind
        have hn0 := st.n0; have hn1 := st.n1; have hs0 := st.s0; have hs1 := st.s1
        rw [hn] at hn0 hn1
        rw [hs] at hs0 hs1
        rw [hxt] at hs1
        obtain ⟨z, hz, hzt⟩ := dt_some s hs0 (by omega)
        have hpz : periodV kind z = n := by rw [st.at_ z hz (by rw [hzt, hs]), hn]
        have CZ := Lib.hid (show ∀ w, Tabs w → Calls Tryd.prog 22 #[.int .i64 kind, .int .i64 s] w fun e w' => e = .returned (.int .i64 n) ∧ Below w.heap.size w w' from fun w hT => hpz ▸ hzt ▸ implPeriodOf kind z hz w hT)
        clear hpz hzt hz
        by_cases hsz : s = 0
        · subst hsz
          clear st hx hxt hn hs
          go_wp2_with fail
          refine (CZ.out _ (HT.out.on HB5.out)).mono ?_
          rintro e W6 ⟨rfl, hb6⟩
          go_wp2
          go_ret
          exact ⟨rfl, HB5.out.trans (hb6.mono HB5.out.size)⟩
        · obtain ⟨u, hu, hut⟩ := dt_some (s - 1) (by omega) (by omega)
          have hpu : periodV kind u = n - 1 := by rw [st.ahead (by rw [hs]; exact hsz) u hu (by rw [hut, hs]), hn]
          have CU := Lib.hid (show ∀ w, Tabs w → Calls Tryd.prog 22 #[.int .i64 kind, .int .i64 (s - 1)] w fun e w' => e = .returned (.int .i64 (n - 1)) ∧ Below w.heap.size w w' from fun w hT => hpu ▸ hut ▸ implPeriodOf kind u hu w hT)
          have hsb : (s == 0) = false := by simpa using hsz
          clear st hx hxt hn hs hsz hu hut hpu
          go_wp2_with fail
          refine (CZ.out _ (HT.out.on HB5.out)).mono ?_
          rintro e W6 ⟨rfl, hb6⟩
          have hB6 := HB5.out.trans (hb6.mono HB5.out.size)
          have HB6 := Lib.hid hB6
          clear hb6 hB6
          go_wp2_with fail
          refine (CU.out _ (HT.out.on HB6.out)).mono ?_
          rintro e W7 ⟨rfl, hb7⟩
          go_wp2
          go_ret
          exact ⟨rfl, HB6.out.trans (hb7.mono HB6.out.size)⟩
      · obtain ⟨e1, e2⟩ := kind_out hkind x
        rw [hn] at e1
        rw [hs] at e2
        subst e1 e2
        clear hx hxt hn hs hkind
        go_wp2
        go_ret
        exact ⟨rfl, HB5.out⟩
    · have hto : timeB t = false := inB_f hin
      have HTO := Lib.hid hto
      clear hin hto
      go_wp2_with fail
      refine (implPeriodOf_out _ _ _ HTO.out).mono ?_
      rintro e W2 ⟨rfl, hb2⟩
      have hB2 := HB1.out.trans (hb2.mono HB1.out.size)
      have HB2 := Lib.hid hB2
      clear hb2 hB2
      go_wp2_with fail
      refine (implPeriodStart_out _ _ _ HTO.out).mono ?_
      rintro e W3 ⟨rfl, hb3⟩
      have hB3 := HB2.out.trans (hb3.mono HB2.out.size)
      have HB3 := Lib.hid hB3
      clear hb3 hB3
      go_wp2_with fail
      refine (specPeriodOf_out _ _ _ HTO.out).mono ?_
      rintro e W4 ⟨rfl, hb4⟩
      have hB4 := HB3.out.trans (hb4.mono HB3.out.size)
      have HB4 := Lib.hid hB4
      clear hb4 hB4
      go_wp2_with fail
      refine (specPeriodStart_out _ _ _ HTO.out).mono ?_
      rintro e W5 ⟨rfl, hb5⟩
      go_wp2
      go_ret
      exact ⟨rfl, HB4.out.trans (hb5.mono HB4.out.size)⟩
  · go_enter Tryd.func4, Tryd.ntmps4
    go_wp2_with (go_at_call 12; refine (bigT a len cap _ hl).mono ?_; rintro e w' ⟨rfl, rfl⟩)
    go_ret
    exact ⟨rfl, Below.refl _ _⟩
end Go.Proofs.YthcofpkppienaaaDoor
