/- The laws' look at marked rows of nodes: heldNodeS, heldTree. The listed tables are never read on the roads that these laws take: nothing is asked of them. -/
import Derived.Test.YtipedabppgbfcaaGreatDoorM25
import Derived.Test.YtipedabppgbfcaaGreatDoorM1
import Derived.LaidMore
namespace Go.Proofs.YtipedabppgbfcaaGreatDoor
open Go.RowKit

set_option maxRecDepth 100000 in
set_option maxHeartbeats 4000000 in
theorem heldNodeS (w : World) (v : Value) (n : Nat) (hm : n ≤ 2000000) (h : NRd w v (marksN 1 n)) :
    Calls Tryz.prog 87 #[v, .int .i64 1] w fun e w' => e = .returned (.int .i64 (1 + 6 * (n : Int))) ∧ Below w.heap.size w w' := by
  by_cases hn0 : n = 0
  · subst hn0
    obtain ⟨a, cap, rfl, _, _, _⟩ := h
    rw [marksN_len]
    go_enter Tryz.func87, Tryz.ntmps87
    go_wp2
    go_loop [1, 5] (fun q i => q = .int .i64 1 ∧ i = .int .i64 0) (fun _ _ => 0)
    case atStart => exact ⟨rfl, rfl⟩
    case round =>
      obtain ⟨rfl, rfl⟩ := hrel
      go_wp2
      go_ret
      exact ⟨rfl, Below.refl _ _⟩
  · obtain ⟨g, cap, rfl, hgw, hl, hcap, hc⟩ := h.at (by intro e; have := congrArg List.length e; rw [marksN_len] at this; exact hn0 this)
    rw [marksN_len] at hl ⊢
    unfold maxLen at hcap
    have HC := Lib.hid (show ∀ j, j < n → NdAt w g (j * 6) (markNd (1 + 6 * j)) from fun j hj => by
      have := hc j (by rw [marksN_len]; exact hj)
      rw [marksN_at 1 n j hj] at this; exact this)
    clear h hc
    go_enter Tryz.func87, Tryz.ntmps87
    go_wp2
    go_loopw [1, 5] (fun q i W => ∃ (j u : Nat), j ≤ n ∧ q = .int .i64 u ∧ Hid (u = 1 + 6 * j) ∧ u ≤ 2000000000 ∧ 1 ≤ u ∧ i = .int .i64 j ∧ Below w.heap.size w W) (fun _ i _ => n - (intOf i).toNat)
    case atStart => exact ⟨0, 1, Nat.zero_le _, rfl, Lib.hid rfl, by omega, by omega, rfl, Below.refl _ _⟩
    case round =>
      obtain ⟨j, u, hj, rfl, HU, hu2, hu1, rfl, hb⟩ := hrel
      have HB := Lib.hid hb
      by_cases hlt : j < n
      · have hN0 := (HC.out j hlt).on hgw hb
        rw [← HU.out] at hN0
        have HN := Lib.hid hN0
        have hgr : g < wr.heap.size := Nat.lt_of_lt_of_le hgw hb.size
        have hck : ∀ d os, (Sort.grow (redrawn wr d) os).cell? ⟨g, j * 6, none⟩ = some (.string (strOf (markL u))) := fun d os => cell_regrown hN0.c0 d os
        have CM := Lib.hid (show ∀ d os, Calls Tryz.prog 89 #[.int .i64 u] (Sort.grow (redrawn wr d) os) fun e w'' => e = .returned (.string (strOf (markL u))) ∧ ∃ p : Regrown, w'' = Sort.grow (redrawn wr p.d) p.os from
          fun d os => Calls.regrown_of (markTextI _ u _ rfl (by omega) (by omega)))
        clear hN0 hb
        have hji : (j : Int) < (n : Int) := by omega
        go_wp2
        refine wp_region_quiet_below (by kernel_rfl) (by kernel_rfl) ?_
        repeat (quiet_step (exact CM.out _ _))
        refine wpQuiet_nil ?_
        intro w2 hw2
        obtain ⟨p, rfl⟩ := hw2
        have hb2 := below_regrown wr p.d p.os
        generalize Sort.grow (redrawn wr p.d) p.os = W2 at hb2 ⊢
        have HN2 := Lib.hid (HN.out.on hgr hb2)
        have HB2 := Lib.hid (HB.out.trans (hb2.mono HB.out.size))
        have n1 := HN2.out.c1
        have n2 := HN2.out.c2
        have n3 := HN2.out.c3
        have n4 := HN2.out.c4
        have hck2 : ∀ d os, (Sort.grow (redrawn W2 d) os).cell? ⟨g, j * 6 + 5, none⟩ = some (.string (strOf (markL (u + 5)))) := fun d os => cell_regrown HN2.out.c5 d os
        have CM2 := Lib.hid (show ∀ d os, Calls Tryz.prog 89 #[.int .i64 ((u : Int) + 1 + 1 + 1 + 1 + 1)] (Sort.grow (redrawn W2 d) os) fun e w'' => e = .returned (.string (strOf (markL (u + 5)))) ∧ ∃ p : Regrown, w'' = Sort.grow (redrawn W2 p.d) p.os from
          fun d os => Calls.regrown_of (markTextI _ (u + 5) _ (by omega) (by omega) (by omega)))
        simp only [markNd] at n1 n2 n3 n4
        clear hck hb2 CM
        go_wp2
        refine wp_region_quiet_below (by kernel_rfl) (by kernel_rfl) ?_
        repeat (quiet_step (exact CM2.out _ _))
        refine wpQuiet_nil ?_
        intro w3 hw3
        obtain ⟨p2, rfl⟩ := hw3
        have hb3 := below_regrown W2 p2.d p2.os
        generalize Sort.grow (redrawn W2 p2.d) p2.os = W3 at hb3 ⊢
        have HB3 := Lib.hid (HB2.out.trans (hb3.mono HB2.out.size))
        clear hb3 hck2 CM2
        go_wp2
        go_roundw
        case rel => exact ⟨j + 1, u + 6, by omega, by go_num, Lib.hid (by have := HU.out; omega), by have := HU.out; omega, by omega, by go_num, HB3.out⟩
        case measure => simp [intOf]; omega
      · obtain rfl : j = n := by omega
        clear hb
        go_wp2
        go_ret
        exact ⟨ret_int (by have := HU.out; omega), HB.out⟩
set_option maxRecDepth 100000 in
set_option maxHeartbeats 2000000 in
theorem heldTree1 (w : World) (v : Value) (n : Nat) (next : Int) (hm : n ≤ 2000000) (h : NRd w v (marksN 1 n)) :
    Calls Tryz.prog 43 #[.agg #[v, .int .i64 next], .int .i64 1] w fun e w' => e = .returned (.int .i64 (1 + 6 * (n : Int))) ∧ Below w.heap.size w w' := by
  obtain ⟨a1, k1, rfl⟩ : ∃ a c, v = .slice a (marksN 1 n).length c := by obtain ⟨a, c, h, _⟩ := h; exact ⟨a, c, h⟩
  obtain ⟨wa, hwa⟩ : ∃ wa, w.alloc (.cells #[.slice a1 (marksN 1 n).length k1, .int .i64 next] 26) = wa := ⟨_, rfl⟩
  have hb : Below w.heap.size w wa := by rw [← hwa]; exact (Below.refl _ _).alloc (Nat.le_refl _) _
  have T0 := (show Blk wa w.heap.size #[.slice a1 (marksN 1 n).length k1, .int .i64 next] 26 by rw [← hwa]; exact Blk.new _ _ _)
  have t0 := T0.cell 0
  simp at t0
  have CM := heldNodeS wa _ n hm (h.on hb)
  have HB := Lib.hid hb
  have hl : (n : Int) ≤ 2000000 := by omega
  clear h hb T0
  go_enter Tryz.func43, Tryz.ntmps43
  go_wp2_with (go_at_call 87; refine CM.mono ?_; rintro e W1 ⟨rfl, hb1⟩)
  go_ret
  exact ⟨rfl, HB.out.trans (hb1.mono HB.out.size)⟩
end Go.Proofs.YtipedabppgbfcaaGreatDoor
namespace Go.Proofs.YtipedabppgbfcaaGreatDoor
open Go.RowKit
def Tabs4 (_ : World) : Prop := True
theorem tabs_of4 {l : List (String × DataW Unit)} {W : World} (_ : laidMetH Tryz.prog l W) : Tabs4 W := trivial
end Go.Proofs.YtipedabppgbfcaaGreatDoor
