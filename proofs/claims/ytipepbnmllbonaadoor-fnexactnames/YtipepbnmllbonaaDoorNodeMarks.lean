/- The laws' marks on rows of nodes: markNodeS, markTree, heldNodeS, heldTree. -/
import Derived.Test.YtipepbnmllbonaaDoorNodeTrees
import Derived.Test.YtipepbnmllbonaaDoorStrs
namespace Go.Proofs.YtipepbnmllbonaaDoor
open Go.RowKit

def markNd (k : Nat) : Nd := ⟨markL k, ((k : Int) + 1) % 3 == 0, (k : Int) + 1 + 1, (k : Int) + 1 + 1 + 1, (k : Int) + 1 + 1 + 1 + 1, markL (k + 5)⟩
def marksN (k n : Nat) : List Nd := (List.range n).map fun j => markNd (k + 6 * j)
theorem marksN_len (k n : Nat) : (marksN k n).length = n := by simp [marksN]
theorem marksN_at (k n j : Nat) (h : j < n) : (marksN k n)[j]'(by rw [marksN_len]; exact h) = markNd (k + 6 * j) := by simp [marksN]
theorem eq_marksN {k n : Nat} {ms : List Nd} (hl : ms.length = n) (h : ∀ j (hj : j < ms.length), ms[j] = markNd (k + 6 * j)) : ms = marksN k n := by
  apply List.ext_getElem (by rw [hl, marksN_len])
  intro j h1 h2
  rw [h j h1, marksN_at k n j (by omega)]
theorem grownBy_sets {A B : World} {row : Option Nat} (h : A.grownBy B row) (a : Addr) (v : Value) (ha : row = some a.block) : A.grownBy (B.setCell a v) row :=
  ⟨h.os, h.tape, h.output, Nat.le_trans h.size (by simp [World.setCell]), fun k hk hr => (Below.heap_setCell B a v k (fun e => hr (by rw [ha, e]))).trans (h.block k hk hr)⟩
theorem grownBy_on {A B C : World} {row : Option Nat} (h : A.grownBy B row) (hb : Below B.heap.size B C) : A.grownBy C row :=
  ⟨hb.os.trans h.os, hb.tape.trans h.tape, hb.output.trans h.output, Nat.le_trans h.size hb.size, fun k hk hr => (hb.block k (Nat.lt_of_lt_of_le hk h.size)).trans (h.block k hk hr)⟩

set_option maxRecDepth 100000 in
set_option maxHeartbeats 8000000 in
theorem markNodeS (w : World) (B : Nat) (v : Value) (ns : List Nd) (k : Nat) (hk : 1 ≤ k) (hk2 : k ≤ 1000000000) (hm : ns.length ≤ 2000000) (h : NRow w B v ns) :
    Calls Tryd.prog 29 #[v, .int .i64 k] w fun e w' => e = .returned (.int .i64 ((k : Int) + 6 * ns.length)) ∧ NRow w' B v (marksN k ns.length) ∧ w.grownBy w' v.ownBlock := by
  rcases h.form with ⟨rfl, rfl⟩ | ⟨g, cap, rfl, hBg, hgw, hc, hf, hl, hcap⟩
  · go_enter Tryd.func29, Tryd.ntmps29
    go_wp2
    go_loop [1, 5] (fun q i => q = .int .i64 k ∧ i = .int .i64 0) (fun _ _ => 0)
    case atStart => exact ⟨rfl, rfl⟩
    case round =>
      obtain ⟨rfl, rfl⟩ := hrel
      go_wp2
      go_ret
      exact ⟨ret_int (by simp), h, World.grownBy.refl _ _⟩
  · unfold maxLen at hcap
    have HS := Lib.hid h
    clear h hc hf
    go_enter Tryd.func29, Tryd.ntmps29
    go_wp2
    go_loopw [1, 5] (fun q i W => ∃ (j u : Nat) (ms : List Nd), j ≤ ns.length ∧ q = .int .i64 u ∧ Hid (u = k + 6 * j) ∧ u ≤ 2000000000 ∧ 1 ≤ u ∧ i = .int .i64 j ∧ Hid (ms.length = ns.length) ∧ Hid (∀ i (hi : i < ms.length), i < j → ms[i] = markNd (k + 6 * i)) ∧ NRow W B (.slice (some ⟨g, 0, none⟩) ns.length cap) ms ∧ w.grownBy W (some g) ∧ g < W.heap.size) (fun _ i _ => ns.length - (intOf i).toNat)
    case atStart => exact ⟨0, k, ns, Nat.zero_le _, rfl, Lib.hid (by omega), by omega, hk, rfl, Lib.hid rfl, Lib.hid (fun i _ h => by omega), HS.out, World.grownBy.refl _ _, hgw⟩
    case round =>
      obtain ⟨j, u, ms, hj, rfl, HU, hu2, hu1, rfl, HL, HM, hS, hg, hgW⟩ := hrel
      have HS2 := Lib.hid hS
      have HG := Lib.hid hg
      clear hS hg
      by_cases hlt : j < ns.length
      · have hjl : j < ms.length := by have := HL.out; omega
        have hji : (j : Int) < (ns.length : Int) := by omega
        go_wp2_with fail
        refine (markTextI _ u _ (by omega) (by omega) (by omega)).mono ?_
        rintro e W1 ⟨rfl, hb1⟩
        have hR1 := HS2.out.on hb1
        have hR1' : NRow W1 B (.slice (some ⟨g, 0, none⟩) ms.length cap) ms := by rw [HL.out]; exact hR1
        have hat : ∀ o, o < 6 → ∃ x, W1.cell? ⟨g, j * 6 + o, none⟩ = some x := fun o ho => by
          have h1 := World.ownsRow.cellAt hR1'.own (j * 6 + o) (by omega)
          rw [h1, nodesVals_at ms j o hjl ho]
          exact ⟨_, List.getElem?_eq_getElem (by simp [nodeVals]; omega)⟩
        obtain ⟨x0, c0⟩ := hat 0 (by omega)
        obtain ⟨x1, c1⟩ := hat 1 (by omega)
        obtain ⟨x2, c2⟩ := hat 2 (by omega)
        obtain ⟨x3, c3⟩ := hat 3 (by omega)
        obtain ⟨x4, c4⟩ := hat 4 (by omega)
        rw [Nat.add_zero] at c0
        have fz := fun o => World.ownsRow.frozenAt hR1'.own o
        have hG1 := Lib.hid (grownBy_on HG.out hb1)
        have s0 := (World.ownsRow.stored hR1'.own (j * 6) (.string (strOf (markL u)))).1
        have s1 := (World.ownsRow.stored s0 (j * 6 + 1) (.bool (((u : Int) + 1) % 3 == 0))).1
        have s2 := (World.ownsRow.stored s1 (j * 6 + 2) (.int .i64 ((u : Int) + 1 + 1))).1
        have s3 := (World.ownsRow.stored s2 (j * 6 + 3) (.int .i64 ((u : Int) + 1 + 1 + 1))).1
        have s4 := (World.ownsRow.stored s3 (j * 6 + 4) (.int .i64 ((u : Int) + 1 + 1 + 1 + 1))).1
        have HS4 := Lib.hid s4
        have hgW1 : g < W1.heap.size := Nat.lt_of_lt_of_le hgW hb1.size
        clear s0 s1 s2 s3 s4 hR1 hR1' hat hb1
        go_wp2_with fail
        refine (markTextI _ (u + 5) _ (by omega) (by omega) (by omega)).mono ?_
        rintro e W2 ⟨rfl, hb2⟩
        have h5 := owns_on6 HS4.out hb2
        obtain ⟨x5, c5⟩ : ∃ x, W2.cell? ⟨g, j * 6 + 5, none⟩ = some x := by
          have h1 := World.ownsRow.cellAt h5 (j * 6 + 5) (by have := HL.out; omega)
          rw [h1]
          exact ⟨_, List.getElem?_eq_getElem (by simp [nodesVals_len]; omega)⟩
        have fy := fun o => World.ownsRow.frozenAt h5 o
        have s5 := Lib.hid (World.ownsRow.stored h5 (j * 6 + 5) (.string (strOf (markL (u + 5))))).1
        have HG2 := Lib.hid (grownBy_on (grownBy_sets (grownBy_sets (grownBy_sets (grownBy_sets (grownBy_sets hG1.out ⟨g, j * 6, none⟩ (.string (strOf (markL u))) rfl) ⟨g, j * 6 + 1, none⟩ (.bool (((u : Int) + 1) % 3 == 0)) rfl) ⟨g, j * 6 + 2, none⟩ (.int .i64 ((u : Int) + 1 + 1)) rfl) ⟨g, j * 6 + 3, none⟩ (.int .i64 ((u : Int) + 1 + 1 + 1)) rfl) ⟨g, j * 6 + 4, none⟩ (.int .i64 ((u : Int) + 1 + 1 + 1 + 1)) rfl) hb2)
        have hgW2 : g < W2.heap.size := by have := hb2.size; simp at this; omega
        clear h5 hb2
        go_wp2
        go_roundw
        case rel =>
          have hlen := HL.out
          refine ⟨j + 1, u + 6, ms.set j (markNd u), by omega, by go_num, Lib.hid (by have := HU.out; omega), by have := HU.out; omega, by omega, by go_num, Lib.hid (by simpa using hlen), Lib.hid (fun i hi hij => ?_), ?_, grownBy_sets HG2.out _ _ rfl, by simpa using hgW2⟩
          · rw [List.getElem_set]
            by_cases e : j = i
            · rw [if_pos e, ← e, HU.out]
            · rw [if_neg e]; exact HM.out i (by simpa using hi) (by omega)
          · unfold NRow
            rw [List.length_set, ← put6_set ms j (markNd u) hjl, ← hlen]
            exact s5.out
        case measure => simp [intOf]; omega
      · go_wp2
        go_ret
        refine ⟨ret_int (by have := HU.out; omega), ?_, HG.out⟩
        have e := eq_marksN HL.out (fun i hi => HM.out i hi (by have := HL.out; omega))
        rw [← e]; exact HS2.out
theorem markNodeS1 (w : World) (B : Nat) (v : Value) (ns : List Nd) (hm : ns.length ≤ 2000000) (h : NRow w B v ns) :
    Calls Tryd.prog 29 #[v, .int .i64 1] w fun e w' => e = .returned (.int .i64 (1 + 6 * (ns.length : Int))) ∧ NRow w' B v (marksN 1 ns.length) ∧ w.grownBy w' v.ownBlock := by
  have h1 := markNodeS w B v ns 1 (by omega) (by omega) hm h
  refine h1.mono ?_
  rintro e w' ⟨rfl, h2, h3⟩
  exact ⟨ret_int (by omega), h2, h3⟩
set_option maxRecDepth 100000 in
set_option maxHeartbeats 2000000 in
theorem markTree1 (w : World) (B : Nat) (v : Value) (ns : List Nd) (next : Int) (hm : ns.length ≤ 2000000) (h : NRow w B v ns) :
    Calls Tryd.prog 13 #[.agg #[v, .int .i64 next], .int .i64 1] w fun e w' => e = .returned (.int .i64 (1 + 6 * (ns.length : Int))) ∧ NRow w' B v (marksN 1 ns.length) ∧ w.grownBy w' v.ownBlock := by
  obtain ⟨a1, k1, rfl⟩ := h.shape
  have hb := ((Below.refl w.heap.size w).alloc (Nat.le_refl _) (.cells #[.slice a1 ns.length k1, .int .i64 next] 29))
  have CM := markNodeS1 _ B _ ns hm (h.on hb)
  have HG := Lib.hid (World.grownBy_alloc w (.cells #[.slice a1 ns.length k1, .int .i64 next] 29) (Value.ownBlock (.slice a1 ns.length k1)))
  have hl : (ns.length : Int) ≤ 2000000 := by omega
  clear h hb
  go_enter Tryd.func13, Tryd.ntmps13
  go_wp2_with fail
  refine CM.mono ?_
  rintro e W1 ⟨rfl, hR, hg⟩
  have HR := Lib.hid hR
  have HG1 := Lib.hid (HG.out.trans hg)
  clear hR hg
  go_wp2
  go_ret
  exact ⟨rfl, HR.out, HG1.out⟩
theorem strs_kept {w w' : World} {B : Nat} {v : Value} {ls : List (List UInt8)} {row : Option Nat} (h : Strs w B v ls) (hg : w.grownBy w' row) (hr : ∀ k, row = some k → k < B) : Strs w' B v ls := by
  refine World.ownsRow.kept h hg ?_
  rcases h.form with ⟨rfl, _⟩ | ⟨g, cap, rfl, hB, _⟩
  · exact .inl rfl
  · refine .inr fun e => ?_
    have := hr g e.symm
    omega
theorem strs_kept_up {w w' : World} {B U : Nat} {v : Value} {ls : List (List UInt8)} {row : Option Nat} (h : Strs w B v ls) (hg : w.grownBy w' row) (hu : ∀ k, v.ownBlock = some k → k < U) (hr : ∀ k, row = some k → U ≤ k) : Strs w' B v ls := by
  refine World.ownsRow.kept h hg ?_
  rcases h.form with ⟨rfl, _⟩ | ⟨g, cap, rfl, hB, _⟩
  · exact .inl rfl
  · refine .inr fun e => ?_
    have h1 := hr g e.symm
    have h2 := hu g rfl
    omega
end Go.Proofs.YtipepbnmllbonaaDoor
