/- The laws' marks on rows of ops: markOpS, heldOpS. The laws' look at marked rows of nodes: heldNodeS, heldTree. -/
import Derived.Test.YtipedabppgbfcaaGreatDoorK33
import Derived.Test.YtipedabppgbfcaaGreatDoorK25
set_option linter.all false
namespace Go.Proofs.YtipedabppgbfcaaGreatDoor.OpR
open Go.Proofs.YtipedabppgbfcaaGreatDoor Go.RowKit

def markOv (k : Nat) : Ov := ⟨(k : Int), markL (k + 1), markL (k + 2), markL (k + 3), (k : Int) + 1 + 1 + 1 + 1, (k : Int) + 1 + 1 + 1 + 1 + 1⟩
def marksO (k n : Nat) : List Ov := (List.range n).map fun j => markOv (k + 6 * j)
theorem marksO_len (k n : Nat) : (marksO k n).length = n := by simp [marksO]
theorem marksO_at (k n j : Nat) (h : j < n) : (marksO k n)[j]'(by rw [marksO_len]; exact h) = markOv (k + 6 * j) := by simp [marksO]
theorem eq_marksO {k n : Nat} {ms : List Ov} (hl : ms.length = n) (h : ∀ j (hj : j < ms.length), ms[j] = markOv (k + 6 * j)) : ms = marksO k n := by
  apply List.ext_getElem (by rw [hl, marksO_len])
  intro j h1 h2
  rw [h j h1, marksO_at k n j (by omega)]

set_option maxRecDepth 100000 in
set_option maxHeartbeats 8000000 in
theorem markOpS (w : World) (B : Nat) (v : Value) (ns : List Ov) (k : Nat) (hk : 1 ≤ k) (hk2 : k ≤ 1000000000) (hm : ns.length ≤ 2000000) (h : NRow w B v ns) :
    Calls Tryz.prog 47 #[v, .int .i64 k] w fun e w' => e = .returned (.int .i64 ((k : Int) + 6 * ns.length)) ∧ NRow w' B v (marksO k ns.length) ∧ w.grownBy w' v.ownBlock := by
  rcases h.form with ⟨rfl, rfl⟩ | ⟨g, cap, rfl, hBg, hgw, hc, hf, hl, hcap⟩
  · go_enter Tryz.func47, Tryz.ntmps47
    go_wp2
    go_loop [1, 5] (fun q i => q = .int .i64 k ∧ i = .int .i64 0) (fun _ _ => 0)
    case atStart => exact ⟨rfl, rfl⟩
    case round =>
      obtain ⟨rfl, rfl⟩ := hrel
      go_wp2
      go_ret
      exact ⟨ret_int (by simp), h, World.grownBy.refl _ _⟩
  · unfold maxLen at hcap
    have HS := Lib.hid h
    clear h hc hf
    go_enter Tryz.func47, Tryz.ntmps47
    go_wp2
    go_loopw [1, 5] (fun q i W => ∃ (j u : Nat) (ms : List Ov), j ≤ ns.length ∧ q = .int .i64 u ∧ Hid (u = k + 6 * j) ∧ u ≤ 2000000000 ∧ 1 ≤ u ∧ i = .int .i64 j ∧ Hid (ms.length = ns.length) ∧ Hid (∀ i (hi : i < ms.length), i < j → ms[i] = markOv (k + 6 * i)) ∧ NRow W B (.slice (some ⟨g, 0, none⟩) ns.length cap) ms ∧ w.grownBy W (some g) ∧ g < W.heap.size) (fun _ i _ => ns.length - (intOf i).toNat)
    case atStart => exact ⟨0, k, ns, Nat.zero_le _, rfl, Lib.hid (by omega), by omega, hk, rfl, Lib.hid rfl, Lib.hid (fun i _ h => by omega), HS.out, World.grownBy.refl _ _, hgw⟩
    case round =>
      obtain ⟨j, u, ms, hj, rfl, HU, hu2, hu1, rfl, HL, HM, hS, hg, hgW⟩ := hrel
      have HS2 := Lib.hid hS
      have HG := Lib.hid hg
      clear hS hg
      by_cases hlt : j < ns.length
      · have hjl : j < ms.length := by have := HL.out; omega
        have hji : (j : Int) < (ns.length : Int) := by omega
        have hR0 : NRow wr B (.slice (some ⟨g, 0, none⟩) ms.length cap) ms := by rw [HL.out]; exact HS2.out
        have hat0 : ∃ x, wr.cell? ⟨g, j * 6, none⟩ = some x := by
          have h1 := World.ownsRow.cellAt hR0.own (j * 6 + 0) (by omega)
          rw [nodesVals_at ms j 0 hjl (by omega)] at h1
          exact ⟨_, h1.trans (List.getElem?_eq_getElem (by simp [nodeVals]))⟩
        obtain ⟨x0, c0⟩ := hat0
        have fz0 := fun o => World.ownsRow.frozenAt hR0.own o
        have S0 := Lib.hid (World.ownsRow.stored hR0.own (j * 6) (.int .i64 (u : Int))).1
        clear hR0
        go_wp2_with fail
        refine (markTextI _ (u + 1) _ (by omega) (by omega) (by omega)).mono ?_
        rintro e W1 ⟨rfl, hb1⟩
        have h1 := owns_on6 S0.out hb1
        obtain ⟨x1, c1⟩ : ∃ x, W1.cell? ⟨g, j * 6 + 1, none⟩ = some x := by
          have h2 := World.ownsRow.cellAt h1 (j * 6 + 1) (by have := HL.out; omega)
          rw [h2]
          exact ⟨_, List.getElem?_eq_getElem (by simp [nodesVals_len]; omega)⟩
        have f1 := fun o => World.ownsRow.frozenAt h1 o
        have S1 := Lib.hid (World.ownsRow.stored h1 (j * 6 + 1) (.string (strOf (markL (u + 1))))).1
        have HG1 := Lib.hid (grownBy_on (grownBy_sets HG.out ⟨g, j * 6, none⟩ (.int .i64 (u : Int)) rfl) hb1)
        have hgW1 : g < W1.heap.size := by have := hb1.size; simp at this; omega
        clear h1 hb1 c0 fz0
        go_wp2_with fail
        refine (markTextI _ (u + 2) _ (by omega) (by omega) (by omega)).mono ?_
        rintro e W2 ⟨rfl, hb2⟩
        have h1 := owns_on6 S1.out hb2
        obtain ⟨x2, c2⟩ : ∃ x, W2.cell? ⟨g, j * 6 + 2, none⟩ = some x := by
          have h2 := World.ownsRow.cellAt h1 (j * 6 + 2) (by have := HL.out; omega)
          rw [h2]
          exact ⟨_, List.getElem?_eq_getElem (by simp [nodesVals_len]; omega)⟩
        have f2 := fun o => World.ownsRow.frozenAt h1 o
        have S2 := Lib.hid (World.ownsRow.stored h1 (j * 6 + 2) (.string (strOf (markL (u + 2))))).1
        have HG2 := Lib.hid (grownBy_on (grownBy_sets HG1.out ⟨g, j * 6 + 1, none⟩ (.string (strOf (markL (u + 1)))) rfl) hb2)
        have hgW2 : g < W2.heap.size := by have := hb2.size; simp at this; omega
        clear h1 hb2 c1 f1
        go_wp2_with fail
        refine (markTextI _ (u + 3) _ (by omega) (by omega) (by omega)).mono ?_
        rintro e W3 ⟨rfl, hb3⟩
        have h1 := owns_on6 S2.out hb3
        have hat : ∀ o, o < 6 → ∃ x, W3.cell? ⟨g, j * 6 + o, none⟩ = some x := fun o ho => by
          have h2 := World.ownsRow.cellAt h1 (j * 6 + o) (by have := HL.out; omega)
          rw [h2]
          exact ⟨_, List.getElem?_eq_getElem (by simp [nodesVals_len]; omega)⟩
        obtain ⟨x3, c3⟩ := hat 3 (by omega)
        obtain ⟨x4, c4⟩ := hat 4 (by omega)
        obtain ⟨x5, c5⟩ := hat 5 (by omega)
        have f3 := fun o => World.ownsRow.frozenAt h1 o
        have s3 := (World.ownsRow.stored h1 (j * 6 + 3) (.string (strOf (markL (u + 3))))).1
        have s4 := (World.ownsRow.stored s3 (j * 6 + 4) (.int .i64 ((u : Int) + 1 + 1 + 1 + 1))).1
        have S5 := Lib.hid (World.ownsRow.stored s4 (j * 6 + 5) (.int .i64 ((u : Int) + 1 + 1 + 1 + 1 + 1))).1
        have HG3 := Lib.hid (grownBy_sets (grownBy_sets (grownBy_sets (grownBy_on (grownBy_sets HG2.out ⟨g, j * 6 + 2, none⟩ (.string (strOf (markL (u + 2)))) rfl) hb3) ⟨g, j * 6 + 3, none⟩ (.string (strOf (markL (u + 3)))) rfl) ⟨g, j * 6 + 4, none⟩ (.int .i64 ((u : Int) + 1 + 1 + 1 + 1)) rfl) ⟨g, j * 6 + 5, none⟩ (.int .i64 ((u : Int) + 1 + 1 + 1 + 1 + 1)) rfl)
        have hgW3 : g < W3.heap.size := by have := hb3.size; simp at this; omega
        clear h1 hb3 c2 f2 s3 s4 hat
        go_wp2
        go_roundw
        case rel =>
          have hlen := HL.out
          refine ⟨j + 1, u + 6, ms.set j (markOv u), by omega, by go_num, Lib.hid (by have := HU.out; omega), by have := HU.out; omega, by omega, by go_num, Lib.hid (by simpa using hlen), Lib.hid (fun i hi hij => ?_), ?_, HG3.out, by simpa using hgW3⟩
          · rw [List.getElem_set]
            by_cases e : j = i
            · rw [if_pos e, ← e, HU.out]
            · rw [if_neg e]; exact HM.out i (by simpa using hi) (by omega)
          · unfold NRow
            rw [List.length_set, ← put6_set ms j (markOv u) hjl, ← hlen]
            exact S5.out
        case measure => simp [intOf]; omega
      · go_wp2
        go_ret
        refine ⟨ret_int (by have := HU.out; omega), ?_, HG.out⟩
        have e := eq_marksO HL.out (fun i hi => HM.out i hi (by have := HL.out; omega))
        rw [← e]; exact HS2.out
set_option maxRecDepth 100000 in
set_option maxHeartbeats 8000000 in
theorem heldOpS (w : World) (v : Value) (k n : Nat) (hk : 1 ≤ k) (hk2 : k ≤ 1000000000) (hm : n ≤ 2000000) (h : NRd w v (marksO k n)) :
    Calls Tryz.prog 90 #[v, .int .i64 k] w fun e w' => e = .returned (.int .i64 ((k : Int) + 6 * (n : Int))) ∧ Below w.heap.size w w' := by
  by_cases hn0 : n = 0
  · subst hn0
    obtain ⟨a, cap, rfl, _, _, _⟩ := h
    rw [marksO_len]
    go_enter Tryz.func90, Tryz.ntmps90
    go_wp2
    go_loop [1, 5] (fun q i => q = .int .i64 k ∧ i = .int .i64 0) (fun _ _ => 0)
    case atStart => exact ⟨rfl, rfl⟩
    case round =>
      obtain ⟨rfl, rfl⟩ := hrel
      go_wp2
      go_ret
      exact ⟨ret_int (by simp), Below.refl _ _⟩
  · obtain ⟨g, cap, rfl, hgw, hl, hcap, hc⟩ := h.at (by intro e; have := congrArg List.length e; rw [marksO_len] at this; exact hn0 this)
    rw [marksO_len] at hl ⊢
    unfold maxLen at hcap
    have HC := Lib.hid (show ∀ j, j < n → NdAt w g (j * 6) (markOv (k + 6 * j)) from fun j hj => by
      have := hc j (by rw [marksO_len]; exact hj)
      rw [marksO_at k n j hj] at this; exact this)
    clear h hc
    go_enter Tryz.func90, Tryz.ntmps90
    go_wp2
    go_loopw [1, 5] (fun q i W => ∃ (j u : Nat), j ≤ n ∧ q = .int .i64 u ∧ Hid (u = k + 6 * j) ∧ u ≤ 2000000000 ∧ 1 ≤ u ∧ i = .int .i64 j ∧ Below w.heap.size w W) (fun _ i _ => n - (intOf i).toNat)
    case atStart => exact ⟨0, k, Nat.zero_le _, rfl, Lib.hid (by omega), by omega, by omega, rfl, Below.refl _ _⟩
    case round =>
      obtain ⟨j, u, hj, rfl, HU, hu2, hu1, rfl, hb⟩ := hrel
      have HB := Lib.hid hb
      by_cases hlt : j < n
      · have hN0 := (HC.out j hlt).on hgw hb
        rw [← HU.out] at hN0
        have HN := Lib.hid hN0
        have hgr : g < wr.heap.size := Nat.lt_of_lt_of_le hgw hb.size
        have n0 := hN0.c0
        have hck : ∀ d os, (Sort.grow (redrawn wr d) os).cell? ⟨g, j * 6 + 1, none⟩ = some (.string (strOf (markL (u + 1)))) := fun d os => cell_regrown hN0.c1 d os
        have CM := Lib.hid (show ∀ d os, Calls Tryz.prog 89 #[.int .i64 ((u : Int) + 1)] (Sort.grow (redrawn wr d) os) fun e w'' => e = .returned (.string (strOf (markL (u + 1)))) ∧ ∃ p : Regrown, w'' = Sort.grow (redrawn wr p.d) p.os from
          fun d os => Calls.regrown_of (markTextI _ (u + 1) _ (by omega) (by omega) (by omega)))
        simp only [markOv] at n0
        clear hN0 hb
        have hji : (j : Int) < (n : Int) := by omega
        go_wp2
        refine wp_region_quiet_below (by kernel_rfl) (by kernel_rfl) ?_
        repeat (quiet_step (exact CM.out _ _))
        refine wpQuiet_nil ?_
        intro w2 hw2
        obtain ⟨p, rfl⟩ := hw2
        have hb2 := below_regrown wr p.d p.os
        generalize Sort.grow (redrawn wr p.d) p.os = W2 at hb2 ⊢
        have HN2 := Lib.hid (HN.out.on hgr hb2)
        have HB2 := Lib.hid (HB.out.trans (hb2.mono HB.out.size))
        have hgr2 : g < W2.heap.size := Nat.lt_of_lt_of_le hgr hb2.size
        have hck2 : ∀ d os, (Sort.grow (redrawn W2 d) os).cell? ⟨g, j * 6 + 2, none⟩ = some (.string (strOf (markL (u + 2)))) := fun d os => cell_regrown HN2.out.c2 d os
        have CM2 := Lib.hid (show ∀ d os, Calls Tryz.prog 89 #[.int .i64 ((u : Int) + 1 + 1)] (Sort.grow (redrawn W2 d) os) fun e w'' => e = .returned (.string (strOf (markL (u + 2)))) ∧ ∃ p : Regrown, w'' = Sort.grow (redrawn W2 p.d) p.os from
          fun d os => Calls.regrown_of (markTextI _ (u + 2) _ (by omega) (by omega) (by omega)))
        clear hck hb2 CM n0
        go_wp2
        refine wp_region_quiet_below (by kernel_rfl) (by kernel_rfl) ?_
        repeat (quiet_step (exact CM2.out _ _))
        refine wpQuiet_nil ?_
        intro w3 hw3
        obtain ⟨p2, rfl⟩ := hw3
        have hb3 := below_regrown W2 p2.d p2.os
        generalize Sort.grow (redrawn W2 p2.d) p2.os = W3 at hb3 ⊢
        have HN3 := Lib.hid (HN2.out.on hgr2 hb3)
        have HB3 := Lib.hid (HB2.out.trans (hb3.mono HB2.out.size))
        have hgr3 : g < W3.heap.size := Nat.lt_of_lt_of_le hgr2 hb3.size
        have hck3 : ∀ d os, (Sort.grow (redrawn W3 d) os).cell? ⟨g, j * 6 + 3, none⟩ = some (.string (strOf (markL (u + 3)))) := fun d os => cell_regrown HN3.out.c3 d os
        have CM3 := Lib.hid (show ∀ d os, Calls Tryz.prog 89 #[.int .i64 ((u : Int) + 1 + 1 + 1)] (Sort.grow (redrawn W3 d) os) fun e w'' => e = .returned (.string (strOf (markL (u + 3)))) ∧ ∃ p : Regrown, w'' = Sort.grow (redrawn W3 p.d) p.os from
          fun d os => Calls.regrown_of (markTextI _ (u + 3) _ (by omega) (by omega) (by omega)))
        clear hck2 hb3 CM2
        go_wp2
        refine wp_region_quiet_below (by kernel_rfl) (by kernel_rfl) ?_
        repeat (quiet_step (exact CM3.out _ _))
        refine wpQuiet_nil ?_
        intro w4 hw4
        obtain ⟨p3, rfl⟩ := hw4
        have hb4 := below_regrown W3 p3.d p3.os
        generalize Sort.grow (redrawn W3 p3.d) p3.os = W4 at hb4 ⊢
        have HN4 := Lib.hid (HN3.out.on hgr3 hb4)
        have HB4 := Lib.hid (HB3.out.trans (hb4.mono HB3.out.size))
        have n4 := HN4.out.c4
        have n5 := HN4.out.c5
        simp only [markOv] at n4 n5
        clear hck3 hb4 CM3
        go_wp2
        go_roundw
        case rel => exact ⟨j + 1, u + 6, by omega, by go_num, Lib.hid (by have := HU.out; omega), by have := HU.out; omega, by omega, by go_num, HB4.out⟩
        case measure => simp [intOf]; omega
      · obtain rfl : j = n := by omega
        clear hb
        go_wp2
        go_ret
        exact ⟨ret_int (by have := HU.out; omega), HB.out⟩
end Go.Proofs.YtipedabppgbfcaaGreatDoor.OpR
namespace Go.Proofs.YtipedabppgbfcaaGreatDoor
open Go.RowKit

set_option maxRecDepth 100000 in
set_option maxHeartbeats 4000000 in
theorem heldNodeS (w : World) (v : Value) (n : Nat) (hm : n ≤ 2000000) (h : NRd w v (marksN 1 n)) :
    Calls Tryz.prog 87 #[v, .int .i64 1] w fun e w' => e = .returned (.int .i64 (1 + 6 * (n : Int))) ∧ Below w.heap.size w w' := by
  by_cases hn0 : n = 0
  · subst hn0
    obtain ⟨a, cap, rfl, _, _, _⟩ := h
    rw [marksN_len]
    go_enter Tryz.func87, Tryz.ntmps87
    go_wp2
    go_loop [1, 5] (fun q i => q = .int .i64 1 ∧ i = .int .i64 0) (fun _ _ => 0)
    case atStart => exact ⟨rfl, rfl⟩
    case round =>
      obtain ⟨rfl, rfl⟩ := hrel
      go_wp2
      go_ret
      exact ⟨rfl, Below.refl _ _⟩
  · obtain ⟨g, cap, rfl, hgw, hl, hcap, hc⟩ := h.at (by intro e; have := congrArg List.length e; rw [marksN_len] at this; exact hn0 this)
    rw [marksN_len] at hl ⊢
    unfold maxLen at hcap
    have HC := Lib.hid (show ∀ j, j < n → NdAt w g (j * 6) (markNd (1 + 6 * j)) from fun j hj => by
      have := hc j (by rw [marksN_len]; exact hj)
      rw [marksN_at 1 n j hj] at this; exact this)
    clear h hc
    go_enter Tryz.func87, Tryz.ntmps87
    go_wp2
    go_loopw [1, 5] (fun q i W => ∃ (j u : Nat), j ≤ n ∧ q = .int .i64 u ∧ Hid (u = 1 + 6 * j) ∧ u ≤ 2000000000 ∧ 1 ≤ u ∧ i = .int .i64 j ∧ Below w.heap.size w W) (fun _ i _ => n - (intOf i).toNat)
    case atStart => exact ⟨0, 1, Nat.zero_le _, rfl, Lib.hid rfl, by omega, by omega, rfl, Below.refl _ _⟩
    case round =>
      obtain ⟨j, u, hj, rfl, HU, hu2, hu1, rfl, hb⟩ := hrel
      have HB := Lib.hid hb
      by_cases hlt : j < n
      · have hN0 := (HC.out j hlt).on hgw hb
        rw [← HU.out] at hN0
        have HN := Lib.hid hN0
        have hgr : g < wr.heap.size := Nat.lt_of_lt_of_le hgw hb.size
        have hck : ∀ d os, (Sort.grow (redrawn wr d) os).cell? ⟨g, j * 6, none⟩ = some (.string (strOf (markL u))) := fun d os => cell_regrown hN0.c0 d os
        have CM := Lib.hid (show ∀ d os, Calls Tryz.prog 89 #[.int .i64 u] (Sort.grow (redrawn wr d) os) fun e w'' => e = .returned (.string (strOf (markL u))) ∧ ∃ p : Regrown, w'' = Sort.grow (redrawn wr p.d) p.os from
          fun d os => Calls.regrown_of (markTextI _ u _ rfl (by omega) (by omega)))
        clear hN0 hb
        have hji : (j : Int) < (n : Int) := by omega
        go_wp2
        refine wp_region_quiet_below (by kernel_rfl) (by kernel_rfl) ?_
        repeat (quiet_step (exact CM.out _ _))
        refine wpQuiet_nil ?_
        intro w2 hw2
        obtain ⟨p, rfl⟩ := hw2
        have hb2 := below_regrown wr p.d p.os
        generalize Sort.grow (redrawn wr p.d) p.os = W2 at hb2 ⊢
        have HN2 := Lib.hid (HN.out.on hgr hb2)
        have HB2 := Lib.hid (HB.out.trans (hb2.mono HB.out.size))
        have n1 := HN2.out.c1
        have n2 := HN2.out.c2
        have n3 := HN2.out.c3
        have n4 := HN2.out.c4
        have hck2 : ∀ d os, (Sort.grow (redrawn W2 d) os).cell? ⟨g, j * 6 + 5, none⟩ = some (.string (strOf (markL (u + 5)))) := fun d os => cell_regrown HN2.out.c5 d os
        have CM2 := Lib.hid (show ∀ d os, Calls Tryz.prog 89 #[.int .i64 ((u : Int) + 1 + 1 + 1 + 1 + 1)] (Sort.grow (redrawn W2 d) os) fun e w'' => e = .returned (.string (strOf (markL (u + 5)))) ∧ ∃ p : Regrown, w'' = Sort.grow (redrawn W2 p.d) p.os from
          fun d os => Calls.regrown_of (markTextI _ (u + 5) _ (by omega) (by omega) (by omega)))
        simp only [markNd] at n1 n2 n3 n4
        clear hck hb2 CM
        go_wp2
        refine wp_region_quiet_below (by kernel_rfl) (by kernel_rfl) ?_
        repeat (quiet_step (exact CM2.out _ _))
        refine wpQuiet_nil ?_
        intro w3 hw3
        obtain ⟨p2, rfl⟩ := hw3
        have hb3 := below_regrown W2 p2.d p2.os
        generalize Sort.grow (redrawn W2 p2.d) p2.os = W3 at hb3 ⊢
        have HB3 := Lib.hid (HB2.out.trans (hb3.mono HB2.out.size))
        clear hb3 hck2 CM2
        go_wp2
        go_roundw
        case rel => exact ⟨j + 1, u + 6, by omega, by go_num, Lib.hid (by have := HU.out; omega), by have := HU.out; omega, by omega, by go_num, HB3.out⟩
        case measure => simp [intOf]; omega
      · obtain rfl : j = n := by omega
        clear hb
        go_wp2
        go_ret
        exact ⟨ret_int (by have := HU.out; omega), HB.out⟩
set_option maxRecDepth 100000 in
set_option maxHeartbeats 2000000 in
theorem heldTree1 (w : World) (v : Value) (n : Nat) (next : Int) (hm : n ≤ 2000000) (h : NRd w v (marksN 1 n)) :
    Calls Tryz.prog 43 #[.agg #[v, .int .i64 next], .int .i64 1] w fun e w' => e = .returned (.int .i64 (1 + 6 * (n : Int))) ∧ Below w.heap.size w w' := by
  obtain ⟨a1, k1, rfl⟩ : ∃ a c, v = .slice a (marksN 1 n).length c := by obtain ⟨a, c, h, _⟩ := h; exact ⟨a, c, h⟩
  obtain ⟨wa, hwa⟩ : ∃ wa, w.alloc (.cells #[.slice a1 (marksN 1 n).length k1, .int .i64 next] 26) = wa := ⟨_, rfl⟩
  have hb : Below w.heap.size w wa := by rw [← hwa]; exact (Below.refl _ _).alloc (Nat.le_refl _) _
  have T0 := (show Blk wa w.heap.size #[.slice a1 (marksN 1 n).length k1, .int .i64 next] 26 by rw [← hwa]; exact Blk.new _ _ _)
  have t0 := T0.cell 0
  simp at t0
  have CM := heldNodeS wa _ n hm (h.on hb)
  have HB := Lib.hid hb
  have hl : (n : Int) ≤ 2000000 := by omega
  clear h hb T0
  go_enter Tryz.func43, Tryz.ntmps43
  go_wp2_with (go_at_call 87; refine CM.mono ?_; rintro e W1 ⟨rfl, hb1⟩)
  go_ret
  exact ⟨rfl, HB.out.trans (hb1.mono HB.out.size)⟩
end Go.Proofs.YtipedabppgbfcaaGreatDoor
