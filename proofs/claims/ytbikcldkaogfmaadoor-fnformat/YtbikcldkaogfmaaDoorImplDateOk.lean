/- Contracts of impl.DateOk, impl.DateOf and impl.TimeOf. -/
import Derived.Test.YtbikcldkaogfmaaDoorImplMonths
namespace Go.Proofs.YtbikcldkaogfmaaDoor
open Go.RowKit

theorem dateOkB_f {y mo d h mi s : Int} (hn : ¬ (1970 ≤ y ∧ 1 ≤ d ∧ d ≤ mdays y mo ∧ 0 ≤ h ∧ h < 24 ∧ 0 ≤ mi ∧ mi < 60 ∧ 0 ≤ s ∧ s < 60)) : dateOkB y mo d h mi s = false := by
  rw [Bool.eq_false_iff]
  intro e
  simp only [dateOkB, Bool.and_eq_true, inB_iff] at e
  omega
theorem dateOkB_t {y mo d h mi s : Int} (hn : 1970 ≤ y ∧ 1 ≤ d ∧ d ≤ mdays y mo ∧ 0 ≤ h ∧ h < 24 ∧ 0 ≤ mi ∧ mi < 60 ∧ 0 ≤ s ∧ s < 60) : dateOkB y mo d h mi s = true := by
  have hy : y ≤ 9999 := by
    by_cases hc : (1 ≤ y ∧ y ≤ 9999) ∧ (1 ≤ mo ∧ mo ≤ 12)
    · exact hc.1.2
    · rw [mdays_out hc] at hn; omega
  simp only [dateOkB, Bool.and_eq_true, inB_iff]
  omega

set_option maxRecDepth 100000 in
set_option maxHeartbeats 2000000 in
theorem implDateOk (y mo d h mi s : Int) (w : World) (hT : TabsM w) :
    Calls Tryd.prog 76 #[.agg #[.int .i64 y, .int .i64 mo, .int .i64 d, .int .i64 h, .int .i64 mi, .int .i64 s]] w fun e w' => e = .returned (.bool (dateOkB y mo d h mi s)) ∧ Below w.heap.size w w' := by
  obtain ⟨W, hW⟩ : ∃ W, W = w.alloc (.cells #[.int .i64 y, .int .i64 mo, .int .i64 d, .int .i64 h, .int .i64 mi, .int .i64 s] 43) := ⟨_, rfl⟩
  have hc : ∀ j, W.cell? ⟨w.heap.size, j, none⟩ = (#[.int .i64 y, .int .i64 mo, .int .i64 d, .int .i64 h, .int .i64 mi, .int .i64 s] : Array Value)[j]? := fun j => by rw [hW]; exact World.cell?_alloc_at _ _ _ j rfl
  have c0 : W.cell? ⟨w.heap.size, 0, none⟩ = some (.int .i64 y) := hc 0
  have c1 : W.cell? ⟨w.heap.size, 1, none⟩ = some (.int .i64 mo) := hc 1
  have c2 : W.cell? ⟨w.heap.size, 2, none⟩ = some (.int .i64 d) := hc 2
  have c3 : W.cell? ⟨w.heap.size, 3, none⟩ = some (.int .i64 h) := hc 3
  have c4 : W.cell? ⟨w.heap.size, 4, none⟩ = some (.int .i64 mi) := hc 4
  have c5 : W.cell? ⟨w.heap.size, 5, none⟩ = some (.int .i64 s) := hc 5
  have hB : Below w.heap.size w W := by rw [hW]; exact (Below.refl _ _).alloc (Nat.le_refl _) _
  have hTW : TabsM W := hT.on hB
  obtain ⟨q, hq⟩ : ∃ q, mdays y mo = q := ⟨_, rfl⟩
  have CM := Lib.hid (show ∀ n, Calls Tryd.prog 71 #[.int .i64 y, .int .i64 mo] (W.drewN n) fun e w'' => e = .returned (.int .i64 q) ∧ ∃ m, w'' = W.drewN m from
    fun n => (implMonthDays y mo _ (hTW.on (below_drewN (Below.refl _ _) n))).mono fun _ _ ⟨he, hw⟩ => ⟨hq ▸ he, n, hw.symm⟩)
  have HB := Lib.hid hB
  have HW := Lib.hid hW
  clear hc hW hB hT hTW
  have HF := Lib.hid (show ¬ (1970 ≤ y ∧ 1 ≤ d ∧ d ≤ q ∧ 0 ≤ h ∧ h < 24 ∧ 0 ≤ mi ∧ mi < 60 ∧ 0 ≤ s ∧ s < 60) → dateOkB y mo d h mi s = false from fun hn => dateOkB_f (hq ▸ hn))
  have HTr := Lib.hid (show (1970 ≤ y ∧ 1 ≤ d ∧ d ≤ q ∧ 0 ≤ h ∧ h < 24 ∧ 0 ≤ mi ∧ mi < 60 ∧ 0 ≤ s ∧ s < 60) → dateOkB y mo d h mi s = true from fun hn => dateOkB_t (hq ▸ hn))
  clear hq
  by_cases g1 : 1970 ≤ y
  rotate_left
  · rw [HF.out (by omega)]
    have b1 : decide (1970 ≤ y) = false := decide_eq_false g1
    clear g1
    go_enter Tryd.func76, Tryd.ntmps76
    go_wp2
    rw [← HW.out]
    go_quiet (exact CM.out _)
    go_wp2
    go_ret
    exact ⟨rfl, below_drewN HB.out _⟩
  by_cases g2 : 1 ≤ d
  rotate_left
  · rw [HF.out (by omega)]
    have b2 : decide (1 ≤ d) = false := decide_eq_false g2
    clear g2
    go_enter Tryd.func76, Tryd.ntmps76
    go_wp2
    rw [← HW.out]
    go_quiet (exact CM.out _)
    go_wp2
    go_ret
    exact ⟨rfl, below_drewN HB.out _⟩
  by_cases g3 : d ≤ q
  rotate_left
  · rw [HF.out (by omega)]
    have b3 : decide (d ≤ q) = false := decide_eq_false g3
    clear g3
    go_enter Tryd.func76, Tryd.ntmps76
    go_wp2
    rw [← HW.out]
    go_quiet (exact CM.out _)
    go_wp2
    go_ret
    exact ⟨rfl, below_drewN HB.out _⟩
  by_cases g4 : 0 ≤ h
  rotate_left
  · rw [HF.out (by omega)]
    have b4 : decide (0 ≤ h) = false := decide_eq_false g4
    clear g4
    go_enter Tryd.func76, Tryd.ntmps76
    go_wp2
    rw [← HW.out]
    go_quiet (exact CM.out _)
    go_wp2
    go_ret
    exact ⟨rfl, below_drewN HB.out _⟩
  by_cases g5 : h < 24
  rotate_left
  · rw [HF.out (by omega)]
    have b5 : decide (h < 24) = false := decide_eq_false g5
    clear g5
    go_enter Tryd.func76, Tryd.ntmps76
    go_wp2
    rw [← HW.out]
    go_quiet (exact CM.out _)
    go_wp2
    go_ret
    exact ⟨rfl, below_drewN HB.out _⟩
  by_cases g6 : 0 ≤ mi
  rotate_left
  · rw [HF.out (by omega)]
    have b6 : decide (0 ≤ mi) = false := decide_eq_false g6
    clear g6
    go_enter Tryd.func76, Tryd.ntmps76
    go_wp2
    rw [← HW.out]
    go_quiet (exact CM.out _)
    go_wp2
    go_ret
    exact ⟨rfl, below_drewN HB.out _⟩
  by_cases g7 : mi < 60
  rotate_left
  · rw [HF.out (by omega)]
    have b7 : decide (mi < 60) = false := decide_eq_false g7
    clear g7
    go_enter Tryd.func76, Tryd.ntmps76
    go_wp2
    rw [← HW.out]
    go_quiet (exact CM.out _)
    go_wp2
    go_ret
    exact ⟨rfl, below_drewN HB.out _⟩
  by_cases g8 : 0 ≤ s
  rotate_left
  · rw [HF.out (by omega)]
    have b8 : decide (0 ≤ s) = false := decide_eq_false g8
    clear g8
    go_enter Tryd.func76, Tryd.ntmps76
    go_wp2
    rw [← HW.out]
    go_quiet (exact CM.out _)
    go_wp2
    go_ret
    exact ⟨rfl, below_drewN HB.out _⟩
  by_cases g9 : s < 60
  rotate_left
  · rw [HF.out (by omega)]
    have b9 : decide (s < 60) = false := decide_eq_false g9
    clear g9
    go_enter Tryd.func76, Tryd.ntmps76
    go_wp2
    rw [← HW.out]
    go_quiet (exact CM.out _)
    go_wp2
    go_ret
    exact ⟨rfl, below_drewN HB.out _⟩
  rw [HTr.out (by omega)]
  go_enter Tryd.func76, Tryd.ntmps76
  go_wp2
  rw [← HW.out]
  go_quiet (exact CM.out _)
  go_wp2
  go_ret
  exact ⟨rfl, below_drewN HB.out _⟩
end Go.Proofs.YtbikcldkaogfmaaDoor
