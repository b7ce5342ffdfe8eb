/- Proved: laws.FnMonths answers true at every code: at the drawn year and month impl.MonthDays tells what spec.MonthDays tells, and the months of a year have 365 days, or 366 where February has 29; the argument reads as before. The listed table of the months' lengths is tied to the program's text; the card speaks of the pruned copy of the project that the seat holds. -/
import Derived.Test.YthcofpkppienaaaDoorBig
import Derived.Test.YthcofpkppienaaaDoorDrawDays
import Derived.Test.YthcofpkppienaaaDoorImplMonths
namespace Go.Proofs.YthcofpkppienaaaDoor
open Go.RowKit

/-- The days of the months 0 .. n - 1. -/
def psum (y : Int) : Nat → Int
  | 0 => 0
  | n + 1 => psum y n + mdays y n
theorem psum_bd (y : Int) : ∀ n : Nat, 0 ≤ psum y n ∧ psum y n ≤ 31 * n
  | 0 => by simp [psum]
  | n + 1 => by
    have h1 := psum_bd y n
    have h2 := mdays_bd y n
    simp only [psum]
    omega
theorem psum_out {y : Int} (h : ¬ (1 ≤ y ∧ y ≤ 9999)) : ∀ n : Nat, psum y n = 0
  | 0 => rfl
  | n + 1 => by simp only [psum]; rw [psum_out h n, mdays_out (by omega)]; rfl
theorem psum_14 {y : Int} (h : 1 ≤ y ∧ y ≤ 9999) : psum y 14 = 365 + mdays y 2 - 28 := by
  simp only [psum]
  have e0 : mdays y ((0 : Nat) : Int) = 0 := mdays_out (by omega)
  have e13 : mdays y ((13 : Nat) : Int) = 0 := mdays_out (by omega)
  have e : ∀ m : Nat, 1 ≤ m → m ≤ 12 → mdays y (m : Int) = mlen y m := fun m h1 h2 => mdays_in h.1 h.2 (by omega) (by omega)
  rw [e0, e13, e 1 (by omega) (by omega), e 2 (by omega) (by omega), e 3 (by omega) (by omega), e 4 (by omega) (by omega), e 5 (by omega) (by omega), e 6 (by omega) (by omega), e 7 (by omega) (by omega), e 8 (by omega) (by omega), e 9 (by omega) (by omega), e 10 (by omega) (by omega), e 11 (by omega) (by omega), e 12 (by omega) (by omega)]
  rw [show mdays y 2 = mlen y 2 from e 2 (by omega) (by omega)]
  simp [mlen]
  omega

set_option maxRecDepth 100000 in
set_option maxHeartbeats 1000000 in
theorem walkFnMonths (a : Option Addr) (len cap : Nat) (zs : List Int) (w : World) (hr : IsRow .u8 w a len cap zs) (hT : Tabs w) :
    Calls Tryd.prog 5 #[.slice a len cap] w fun e w' => e = .returned (.bool true) ∧ Below w.heap.size w w' := by
  by_cases hl : len ≤ 1048576
  · have HT := Lib.hid hT
    clear hT
    go_enter Tryd.func5, Tryd.ntmps5
    go_wp2_with fail
    refine (bigF a len cap _ hl).mono ?_
    rintro e w' ⟨rfl, rfl⟩
    go_wp2_with fail
    refine (specDrawMonthDays w _ a len cap zs hr (Below.refl _ _) hl).mono ?_
    rintro e W1 ⟨⟨y, m, ⟨hy0, hy1⟩, ⟨hm0, hm1⟩, rfl⟩, hb1⟩
    have HT1 := Lib.hid (HT.out.on hb1)
    have HB1 := Lib.hid hb1
    clear hb1 hr
    go_wp2_with fail
    refine (implMonthDays _ _ _ HT1.out).mono ?_
    rintro e w' ⟨rfl, rfl⟩
    go_wp2_with fail
    refine (specMonthDays _ _ _).mono ?_
    rintro e W2 ⟨rfl, hb2⟩
    have hB2 := HB1.out.trans (hb2.mono HB1.out.size)
    have HT2 := Lib.hid (HT.out.on hB2)
    have HB2 := Lib.hid hB2
    clear hb2 hB2
    generalize mdays y m = q
    go_wp2
    go_loopw [5, 6] (fun sv iv wr => ∃ n : Nat, sv = .int .i64 (psum y n) ∧ iv = .int .i64 n ∧ n ≤ 14 ∧ wr = W2) (fun _ iv _ => (14 - intOf iv).toNat)
    case atStart => exact ⟨0, rfl, rfl, by omega, rfl⟩
    case round =>
      obtain ⟨n, rfl, rfl, hn, rfl⟩ := hrel
      obtain ⟨hp0, hp1⟩ := psum_bd y n
      obtain ⟨hd0, hd1⟩ := mdays_bd y n
      by_cases hlt : n ≤ 13
      · go_wp2_with (go_at_call 20; refine (implMonthDays _ _ _ HT2.out).mono ?_; rintro e w' ⟨rfl, rfl⟩)
        go_roundw
        case rel => exact ⟨n + 1, by simp only [psum]; try go_num, by go_num, by omega, by first | trivial | rfl⟩
        case measure => simp [intOf]; omega
      · obtain rfl : n = 14 := by omega
        by_cases hin : 1 ≤ y ∧ y ≤ 9999
        · have hs := psum_14 hin
          obtain ⟨hin0, hin1⟩ := hin
          obtain ⟨k, hk⟩ : ∃ k, mdays y 2 = k := ⟨_, rfl⟩
          have hkb := mdays_bd y 2
          rw [hk] at hs hkb
          obtain ⟨hk0, hk1⟩ := hkb
          have HK := Lib.hid hk
          rw [hs]
          clear hs hp0 hp1 hd0 hd1 hk
          go_wp2_with (go_at_call 20; refine (implMonthDays _ _ _ HT2.out).mono ?_; rintro e w' ⟨rfl, rfl⟩; rw [HK.out])
          go_ret
          exact ⟨rfl, HB2.out⟩
        · have hs := psum_out hin 14
          rw [hs]
          clear hs hp0 hp1 hd0 hd1
          by_cases hlo : y < 1
          · go_wp2
            go_ret
            exact ⟨rfl, HB2.out⟩
          · have hhi : y > 9999 := by omega
            go_wp2
            go_ret
            exact ⟨rfl, HB2.out⟩
  · go_enter Tryd.func5, Tryd.ntmps5
    go_wp2_with (go_at_call 12; refine (bigT a len cap _ hl).mono ?_; rintro e w' ⟨rfl, rfl⟩)
    go_ret
    exact ⟨rfl, Below.refl _ _⟩
end Go.Proofs.YthcofpkppienaaaDoor
