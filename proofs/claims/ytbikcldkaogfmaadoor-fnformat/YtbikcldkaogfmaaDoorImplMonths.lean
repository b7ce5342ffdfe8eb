/- Contracts of impl.isLeap and impl.MonthDays. -/
import Derived.Test.YtbikcldkaogfmaaDoorImplYears
import Derived.Test.YtbikcldkaogfmaaDoorLaid3
namespace Go.Proofs.YtbikcldkaogfmaaDoor
open Go.RowKit

theorem implIsLeap (y : Int) (w : World) (h1 : 1 ≤ y) (h2 : y ≤ 9999) :
    Calls Tryd.prog 78 #[.int .i64 y] w fun e w' => e = .returned (.bool (leapB y)) ∧ w = w' := by
  by_cases a4 : y % 4 = 0
  · by_cases a100 : y % 100 = 0
    · by_cases a400 : y % 400 = 0
      · rw [leapB_t.2 (by omega)]
        have b : (y % 400 == 0) = true := by simpa using a400
        clear a400
        go_enter Tryd.func78, Tryd.ntmps78
        go_wp2
        go_ret
        exact ⟨rfl, rfl⟩
      · rw [leapB_f.2 (by omega)]
        have b : (y % 400 == 0) = false := by simpa using a400
        clear a400
        go_enter Tryd.func78, Tryd.ntmps78
        go_wp2
        go_ret
        exact ⟨rfl, rfl⟩
    · rw [leapB_t.2 (by omega)]
      have b : (y % 100 != 0) = true := by simpa using a100
      clear a100
      go_enter Tryd.func78, Tryd.ntmps78
      go_wp2
      go_ret
      exact ⟨rfl, rfl⟩
  · rw [leapB_f.2 (by omega)]
    have b4 : (y % 4 == 0) = false := by simpa using a4
    clear a4
    go_enter Tryd.func78, Tryd.ntmps78
    go_wp2
    go_ret
    exact ⟨rfl, rfl⟩

set_option maxRecDepth 100000 in
set_option maxHeartbeats 1000000 in
theorem implMonthDays (y m : Int) (w : World) (hT : TabsM w) :
    Calls Tryd.prog 71 #[.int .i64 y, .int .i64 m] w fun e w' => e = .returned (.int .i64 (mdays y m)) ∧ w = w' := by
  by_cases hy : 1 ≤ y ∧ y ≤ 9999
  · by_cases hm : 1 ≤ m ∧ m ≤ 12
    · rw [mdays_in hy.1 hy.2 hm.1 hm.2]
      obtain ⟨hy1, hy2⟩ := hy
      by_cases h2 : m = 2
      · subst h2
        clear hm
        have c1 : w.cell? ⟨1, 1, none⟩ = some (.int .i64 28) := hT.cell 1 (by decide)
        have HT := Lib.hid hT
        clear hT
        cases hl : leapB y
        · rw [show mlen y 2 = 28 by unfold mlen; rw [if_pos rfl, hl]; rfl]
          go_enter Tryd.func71, Tryd.ntmps71
          go_wp2_with (first | (go_at_call 78; refine (implIsLeap _ _ hy1 hy2).mono ?_; rintro e w' ⟨rfl, rfl⟩))
          go_ret
          exact ⟨rfl, rfl⟩
        · rw [show mlen y 2 = 29 by unfold mlen; rw [if_pos rfl, hl]; rfl]
          go_enter Tryd.func71, Tryd.ntmps71
          go_wp2_with (first | (go_at_call 78; refine (implIsLeap _ _ hy1 hy2).mono ?_; rintro e w' ⟨rfl, rfl⟩))
          go_ret
          exact ⟨rfl, rfl⟩
      · obtain ⟨j, hj, hv⟩ : ∃ j : Nat, (m = j + 1 ∧ j < 12) ∧ mlen y m = monthTab.getD j 0 := by
          refine ⟨(m - 1).toNat, by omega, ?_⟩
          rcases (by omega : m = 1 ∨ m = 3 ∨ m = 4 ∨ m = 5 ∨ m = 6 ∨ m = 7 ∨ m = 8 ∨ m = 9 ∨ m = 10 ∨ m = 11 ∨ m = 12) with rfl | rfl | rfl | rfl | rfl | rfl | rfl | rfl | rfl | rfl | rfl <;> rfl
        have hc := hT.cell j (show j < 12 from hj.2)
        rw [hv]
        obtain ⟨z, hz⟩ : ∃ z, monthTab.getD j 0 = z := ⟨_, rfl⟩
        rw [hz] at hc ⊢
        obtain ⟨rfl, hj2⟩ := hj
        have h3 : (((j : Int) + 1) == 2) = false := by simpa using h2
        clear hz hv hT h2
        go_enter Tryd.func71, Tryd.ntmps71
        go_wp2
        go_ret
        exact ⟨rfl, rfl⟩
    · rw [mdays_out (by omega)]
      obtain ⟨hy1, hy2⟩ := hy
      by_cases hm1 : m < 1
      · clear hm hT
        go_enter Tryd.func71, Tryd.ntmps71
        go_wp2
        go_ret
        exact ⟨rfl, rfl⟩
      · have hm2 : m > 12 := by omega
        clear hm hT
        go_enter Tryd.func71, Tryd.ntmps71
        go_wp2
        go_ret
        exact ⟨rfl, rfl⟩
  · rw [mdays_out (by omega)]
    by_cases hy1 : y < 1
    · clear hy hT
      go_enter Tryd.func71, Tryd.ntmps71
      go_wp2
      go_ret
      exact ⟨rfl, rfl⟩
    · have hy2 : y > 9999 := by omega
      clear hy hT
      go_enter Tryd.func71, Tryd.ntmps71
      go_wp2
      go_ret
      exact ⟨rfl, rfl⟩
end Go.Proofs.YtbikcldkaogfmaaDoor
