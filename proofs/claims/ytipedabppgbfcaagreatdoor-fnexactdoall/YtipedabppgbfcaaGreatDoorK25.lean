/- The laws' marks on rows of nodes: markNodeS, markTree, heldNodeS, heldTree. slices.Insert of one element into the row of the tree that is worked on. -/
import Derived.Test.YtipedabppgbfcaaGreatDoorK6
import Derived.Test.YtipedabppgbfcaaGreatDoorK10
import Derived.Test.YtipedabppgbfcaaGreatDoorK24
import Derived.Shelf.Spec.SlicesInsertGrow
set_option linter.all false
namespace Go.Proofs.YtipedabppgbfcaaGreatDoor
open Go.RowKit

def markNd (k : Nat) : Nd := ⟨markL k, ((k : Int) + 1) % 3 == 0, (k : Int) + 1 + 1, (k : Int) + 1 + 1 + 1, (k : Int) + 1 + 1 + 1 + 1, markL (k + 5)⟩
def marksN (k n : Nat) : List Nd := (List.range n).map fun j => markNd (k + 6 * j)
theorem marksN_len (k n : Nat) : (marksN k n).length = n := by simp [marksN]
theorem marksN_at (k n j : Nat) (h : j < n) : (marksN k n)[j]'(by rw [marksN_len]; exact h) = markNd (k + 6 * j) := by simp [marksN]
theorem eq_marksN {k n : Nat} {ms : List Nd} (hl : ms.length = n) (h : ∀ j (hj : j < ms.length), ms[j] = markNd (k + 6 * j)) : ms = marksN k n := by
  apply List.ext_getElem (by rw [hl, marksN_len])
  intro j h1 h2
  rw [h j h1, marksN_at k n j (by omega)]
theorem grownBy_sets {A B : World} {row : Option Nat} (h : A.grownBy B row) (a : Addr) (v : Value) (ha : row = some a.block) : A.grownBy (B.setCell a v) row :=
  ⟨h.os, h.tape, h.output, Nat.le_trans h.size (by simp [World.setCell]), fun k hk hr => (Below.heap_setCell B a v k (fun e => hr (by rw [ha, e]))).trans (h.block k hk hr)⟩
theorem grownBy_on {A B C : World} {row : Option Nat} (h : A.grownBy B row) (hb : Below B.heap.size B C) : A.grownBy C row :=
  ⟨hb.os.trans h.os, hb.tape.trans h.tape, hb.output.trans h.output, Nat.le_trans h.size hb.size, fun k hk hr => (hb.block k (Nat.lt_of_lt_of_le hk h.size)).trans (h.block k hk hr)⟩

set_option maxRecDepth 100000 in
set_option maxHeartbeats 8000000 in
theorem markNodeS (w : World) (B : Nat) (v : Value) (ns : List Nd) (k : Nat) (hk : 1 ≤ k) (hk2 : k ≤ 1000000000) (hm : ns.length ≤ 2000000) (h : NRow w B v ns) :
    Calls Tryz.prog 86 #[v, .int .i64 k] w fun e w' => e = .returned (.int .i64 ((k : Int) + 6 * ns.length)) ∧ NRow w' B v (marksN k ns.length) ∧ w.grownBy w' v.ownBlock := by
  rcases h.form with ⟨rfl, rfl⟩ | ⟨g, cap, rfl, hBg, hgw, hc, hf, hl, hcap⟩
  · go_enter Tryz.func86, Tryz.ntmps86
    go_wp2
    go_loop [1, 5] (fun q i => q = .int .i64 k ∧ i = .int .i64 0) (fun _ _ => 0)
    case atStart => exact ⟨rfl, rfl⟩
    case round =>
      obtain ⟨rfl, rfl⟩ := hrel
      go_wp2
      go_ret
      exact ⟨ret_int (by simp), h, World.grownBy.refl _ _⟩
  · unfold maxLen at hcap
    have HS := Lib.hid h
    clear h hc hf
    go_enter Tryz.func86, Tryz.ntmps86
    go_wp2
    go_loopw [1, 5] (fun q i W => ∃ (j u : Nat) (ms : List Nd), j ≤ ns.length ∧ q = .int .i64 u ∧ Hid (u = k + 6 * j) ∧ u ≤ 2000000000 ∧ 1 ≤ u ∧ i = .int .i64 j ∧ Hid (ms.length = ns.length) ∧ Hid (∀ i (hi : i < ms.length), i < j → ms[i] = markNd (k + 6 * i)) ∧ NRow W B (.slice (some ⟨g, 0, none⟩) ns.length cap) ms ∧ w.grownBy W (some g) ∧ g < W.heap.size) (fun _ i _ => ns.length - (intOf i).toNat)
    case atStart => exact ⟨0, k, ns, Nat.zero_le _, rfl, Lib.hid (by omega), by omega, hk, rfl, Lib.hid rfl, Lib.hid (fun i _ h => by omega), HS.out, World.grownBy.refl _ _, hgw⟩
    case round =>
      obtain ⟨j, u, ms, hj, rfl, HU, hu2, hu1, rfl, HL, HM, hS, hg, hgW⟩ := hrel
      have HS2 := Lib.hid hS
      have HG := Lib.hid hg
      clear hS hg
      by_cases hlt : j < ns.length
      · have hjl : j < ms.length := by have := HL.out; omega
        have hji : (j : Int) < (ns.length : Int) := by omega
        go_wp2_with fail
        refine (markTextI _ u _ (by omega) (by omega) (by omega)).mono ?_
        rintro e W1 ⟨rfl, hb1⟩
        have hR1 := HS2.out.on hb1
        have hR1' : NRow W1 B (.slice (some ⟨g, 0, none⟩) ms.length cap) ms := by rw [HL.out]; exact hR1
        have hat : ∀ o, o < 6 → ∃ x, W1.cell? ⟨g, j * 6 + o, none⟩ = some x := fun o ho => by
          have h1 := World.ownsRow.cellAt hR1'.own (j * 6 + o) (by omega)
          rw [h1, nodesVals_at ms j o hjl ho]
          exact ⟨_, List.getElem?_eq_getElem (by simp [nodeVals]; omega)⟩
        obtain ⟨x0, c0⟩ := hat 0 (by omega)
        obtain ⟨x1, c1⟩ := hat 1 (by omega)
        obtain ⟨x2, c2⟩ := hat 2 (by omega)
        obtain ⟨x3, c3⟩ := hat 3 (by omega)
        obtain ⟨x4, c4⟩ := hat 4 (by omega)
        rw [Nat.add_zero] at c0
        have fz := fun o => World.ownsRow.frozenAt hR1'.own o
        have hG1 := Lib.hid (grownBy_on HG.out hb1)
        have s0 := (World.ownsRow.stored hR1'.own (j * 6) (.string (strOf (markL u)))).1
        have s1 := (World.ownsRow.stored s0 (j * 6 + 1) (.bool (((u : Int) + 1) % 3 == 0))).1
        have s2 := (World.ownsRow.stored s1 (j * 6 + 2) (.int .i64 ((u : Int) + 1 + 1))).1
        have s3 := (World.ownsRow.stored s2 (j * 6 + 3) (.int .i64 ((u : Int) + 1 + 1 + 1))).1
        have s4 := (World.ownsRow.stored s3 (j * 6 + 4) (.int .i64 ((u : Int) + 1 + 1 + 1 + 1))).1
        have HS4 := Lib.hid s4
        have hgW1 : g < W1.heap.size := Nat.lt_of_lt_of_le hgW hb1.size
        clear s0 s1 s2 s3 s4 hR1 hR1' hat hb1
        go_wp2_with fail
        refine (markTextI _ (u + 5) _ (by omega) (by omega) (by omega)).mono ?_
        rintro e W2 ⟨rfl, hb2⟩
        have h5 := owns_on6 HS4.out hb2
        obtain ⟨x5, c5⟩ : ∃ x, W2.cell? ⟨g, j * 6 + 5, none⟩ = some x := by
          have h1 := World.ownsRow.cellAt h5 (j * 6 + 5) (by have := HL.out; omega)
          rw [h1]
          exact ⟨_, List.getElem?_eq_getElem (by simp [nodesVals_len]; omega)⟩
        have fy := fun o => World.ownsRow.frozenAt h5 o
        have s5 := Lib.hid (World.ownsRow.stored h5 (j * 6 + 5) (.string (strOf (markL (u + 5))))).1
        have HG2 := Lib.hid (grownBy_on (grownBy_sets (grownBy_sets (grownBy_sets (grownBy_sets (grownBy_sets hG1.out ⟨g, j * 6, none⟩ (.string (strOf (markL u))) rfl) ⟨g, j * 6 + 1, none⟩ (.bool (((u : Int) + 1) % 3 == 0)) rfl) ⟨g, j * 6 + 2, none⟩ (.int .i64 ((u : Int) + 1 + 1)) rfl) ⟨g, j * 6 + 3, none⟩ (.int .i64 ((u : Int) + 1 + 1 + 1)) rfl) ⟨g, j * 6 + 4, none⟩ (.int .i64 ((u : Int) + 1 + 1 + 1 + 1)) rfl) hb2)
        have hgW2 : g < W2.heap.size := by have := hb2.size; simp at this; omega
        clear h5 hb2
        go_wp2
        go_roundw
        case rel =>
          have hlen := HL.out
          refine ⟨j + 1, u + 6, ms.set j (markNd u), by omega, by go_num, Lib.hid (by have := HU.out; omega), by have := HU.out; omega, by omega, by go_num, Lib.hid (by simpa using hlen), Lib.hid (fun i hi hij => ?_), ?_, grownBy_sets HG2.out _ _ rfl, by simpa using hgW2⟩
          · rw [List.getElem_set]
            by_cases e : j = i
            · rw [if_pos e, ← e, HU.out]
            · rw [if_neg e]; exact HM.out i (by simpa using hi) (by omega)
          · unfold NRow
            rw [List.length_set, ← put6_set ms j (markNd u) hjl, ← hlen]
            exact s5.out
        case measure => simp [intOf]; omega
      · go_wp2
        go_ret
        refine ⟨ret_int (by have := HU.out; omega), ?_, HG.out⟩
        have e := eq_marksN HL.out (fun i hi => HM.out i hi (by have := HL.out; omega))
        rw [← e]; exact HS2.out
theorem markNodeS1 (w : World) (B : Nat) (v : Value) (ns : List Nd) (hm : ns.length ≤ 2000000) (h : NRow w B v ns) :
    Calls Tryz.prog 86 #[v, .int .i64 1] w fun e w' => e = .returned (.int .i64 (1 + 6 * (ns.length : Int))) ∧ NRow w' B v (marksN 1 ns.length) ∧ w.grownBy w' v.ownBlock := by
  have h1 := markNodeS w B v ns 1 (by omega) (by omega) hm h
  refine h1.mono ?_
  rintro e w' ⟨rfl, h2, h3⟩
  exact ⟨ret_int (by omega), h2, h3⟩
set_option maxRecDepth 100000 in
set_option maxHeartbeats 2000000 in
theorem markTree1 (w : World) (B : Nat) (v : Value) (ns : List Nd) (next : Int) (hm : ns.length ≤ 2000000) (h : NRow w B v ns) :
    Calls Tryz.prog 42 #[.agg #[v, .int .i64 next], .int .i64 1] w fun e w' => e = .returned (.int .i64 (1 + 6 * (ns.length : Int))) ∧ NRow w' B v (marksN 1 ns.length) ∧ w.grownBy w' v.ownBlock := by
  obtain ⟨a1, k1, rfl⟩ := h.shape
  have hb := ((Below.refl w.heap.size w).alloc (Nat.le_refl _) (.cells #[.slice a1 ns.length k1, .int .i64 next] 26))
  have CM := markNodeS1 _ B _ ns hm (h.on hb)
  have HG := Lib.hid (World.grownBy_alloc w (.cells #[.slice a1 ns.length k1, .int .i64 next] 26) (Value.ownBlock (.slice a1 ns.length k1)))
  have hl : (ns.length : Int) ≤ 2000000 := by omega
  clear h hb
  go_enter Tryz.func42, Tryz.ntmps42
  go_wp2_with fail
  refine CM.mono ?_
  rintro e W1 ⟨rfl, hR, hg⟩
  have HR := Lib.hid hR
  have HG1 := Lib.hid (HG.out.trans hg)
  clear hR hg
  go_wp2
  go_ret
  exact ⟨rfl, HR.out, HG1.out⟩
theorem strs_kept {w w' : World} {B : Nat} {v : Value} {ls : List (List UInt8)} {row : Option Nat} (h : Strs w B v ls) (hg : w.grownBy w' row) (hr : ∀ k, row = some k → k < B) : Strs w' B v ls := by
  refine World.ownsRow.kept h hg ?_
  rcases h.form with ⟨rfl, _⟩ | ⟨g, cap, rfl, hB, _⟩
  · exact .inl rfl
  · refine .inr fun e => ?_
    have := hr g e.symm
    omega
theorem strs_kept_up {w w' : World} {B U : Nat} {v : Value} {ls : List (List UInt8)} {row : Option Nat} (h : Strs w B v ls) (hg : w.grownBy w' row) (hu : ∀ k, v.ownBlock = some k → k < U) (hr : ∀ k, row = some k → U ≤ k) : Strs w' B v ls := by
  refine World.ownsRow.kept h hg ?_
  rcases h.form with ⟨rfl, _⟩ | ⟨g, cap, rfl, hB, _⟩
  · exact .inl rfl
  · refine .inr fun e => ?_
    have h1 := hr g e.symm
    have h2 := hu g rfl
    omega
end Go.Proofs.YtipedabppgbfcaaGreatDoor
namespace Go.Proofs.YtipedabppgbfcaaGreatDoor
open Go.RowKit

theorem heap_setCells {b : Nat} {e : TypeId} : ∀ (vs : List Value) (o : Nat) {W : World} {cur : Array Value}, W.heap[b]? = some (.cells cur e (0, 0)) → (∃ cur2, (W.setCells b o vs).heap[b]? = some (.cells cur2 e (0, 0)) ∧ cur2.size = cur.size) ∧ W.grownBy (W.setCells b o vs) (some b)
  | [], _, _, cur, h => ⟨⟨cur, h, rfl⟩, World.grownBy.refl _ _⟩
  | v :: r, o, W, cur, h => by
    have h1 : (W.setCell ⟨b, o, none⟩ v).heap[b]? = some (.cells (cur.setIfInBounds o v) e (0, 0)) := (Blk.set (W := W) ⟨h⟩ o v).blk
    obtain ⟨⟨cur2, h2, h3⟩, h4⟩ := heap_setCells r (o + 1) (W := W.setCell ⟨b, o, none⟩ v) h1
    refine ⟨⟨cur2, h2, by rw [h3]; simp⟩, ?_⟩
    have h5 := grownBy_sets (World.grownBy.refl W (some b)) ⟨b, o, none⟩ v rfl
    exact ⟨h4.os.trans h5.os, h4.tape.trans h5.tape, h4.output.trans h5.output, Nat.le_trans h5.size h4.size, fun k hk hne => (h4.block k (Nat.lt_of_lt_of_le hk h5.size) hne).trans (h5.block k hk hne)⟩
theorem own_of_cells {W : World} {B g cap : Nat} {e : TypeId} {cur : Array Value} (hg : W.heap[g]? = some (.cells cur e (0, 0))) (hs : cur.size = cap) (hB : B ≤ g) (hm : cap ≤ maxLen) {xs : List Value} (hl : xs.length ≤ cap) (hc : ∀ j (hj : j < xs.length), W.cell? ⟨g, j, none⟩ = some xs[j]) : W.ownsRow B e 1 (.slice (some ⟨g, 0, none⟩) xs.length cap) xs.length xs := by
  refine ⟨by simp, .inr ⟨g, cap, cur, rfl, hB, hg, hl, hm, by simp [hs], ?_⟩⟩
  apply List.ext_getElem?
  intro k
  rw [Nat.mul_one, List.getElem?_take]
  by_cases hk : k < xs.length
  · rw [if_pos hk, List.getElem?_eq_getElem hk, ← hc k hk]
    simp [World.cell?, hg]
  · rw [if_neg hk, List.getElem?_eq_none (by omega)]
theorem ins_at {xs : List Value} {i : Nat} {u : Value} (hi : i ≤ xs.length) : (xs.take i ++ u :: xs.drop i).length = xs.length + 1 ∧ ∀ j (hj : j < (xs.take i ++ u :: xs.drop i).length), (xs.take i ++ u :: xs.drop i)[j] = if h : j < i then xs[j] else if h2 : j = i then u else xs[j - 1]'(by simp at hj; omega) := by
  refine ⟨by simp; omega, fun j hj => ?_⟩
  by_cases h : j < i
  · rw [dif_pos h, List.getElem_append_left (by simp; omega), List.getElem_take]
  · rw [dif_neg h, List.getElem_append_right (by simp; omega)]
    by_cases h2 : j = i
    · subst h2
      rw [dif_pos rfl]
      simp [Nat.min_eq_left hi]
    · rw [dif_neg h2]
      have e : j - (xs.take i).length = (j - i - 1) + 1 := by simp; omega
      simp only [e, List.getElem_cons_succ, List.getElem_drop]
      congr 1
      omega

set_option maxRecDepth 100000 in
set_option maxHeartbeats 1000000 in
theorem wkInsert (w : World) (B : Nat) (v : Value) (xs : List Value) (i vb : Nat) (u : Value) (hR : w.ownsRow B 149 1 v xs.length xs) (hx : ∀ x ∈ xs, x.oneCell' = true) (hu : u.oneCell' = true) (hi : i ≤ xs.length) (hlen : xs.length ≤ 60) (hV : Blk w vb #[u] 149) (hne : ∀ g, v.ownBlock = some g → vb ≠ g) (hB : B ≤ w.heap.size) :
    Calls Tryz.prog 178 #[v, .int .i64 i, .slice (some ⟨vb, 0, none⟩) 1 1] w fun e w' => ∃ v', e = .returned v' ∧ w'.ownsRow B 149 1 v' (xs.length + 1) (xs.take i ++ u :: xs.drop i) ∧ w.grownBy w' v.ownBlock := by
  obtain ⟨j0, ji, jz0, jz1, jz2⟩ := info_parts infoWk
  have hnews : ∀ j q, [u][j]? = some q → w.cell? ((⟨vb, 0, none⟩ : Addr).add j) = some q := fun j q hj => by
    match j, hj with
    | 0, hj =>
      simp at hj; subst hj
      have := hV.cell 0
      simpa [Addr.add] using this
    | j + 1, hj => simp at hj
  have h1u : ∀ q ∈ [u], q.oneCell' = true := by simpa using hu
  by_cases hin : i = xs.length
  · subst hin
    have HR := Lib.hid hR
    obtain ⟨a, c, rfl⟩ := own_slice hR
    have hz : ((xs.length : Int) == (xs.length : Int)) = true := by simp
    clear hR hV hne hu
    go_enter Tryz.func178, Tryz.ntmps178
    go_wp2_with (at_builtin; refine wpList_append_own _ rfl _ _ 135 rfl B 149 j0 .nilIface 1 16 Tryz.underlying135 ji jz0 jz1 jz2 rfl (by decide) _ _ _ rfl HR.out ⟨vb, 0, none⟩ 1 1 [u] rfl rfl hnews h1u (by unfold maxLen; omega) (by omega) hB ?_; intro v' w1 hown1 hgrow1 _)
    all_goals
      go_ret
      exact ⟨_, rfl, hown1, by cases a <;> exact hgrow1⟩
  · obtain ⟨g, cap, cur, rfl, hBg, hgc, hnc, hm, hcs⟩ : ∃ g cap cur, v = .slice (some ⟨g, 0, none⟩) xs.length cap ∧ B ≤ g ∧ w.heap[g]? = some (.cells cur 149 (0, 0)) ∧ xs.length ≤ cap ∧ cap ≤ maxLen ∧ cur.size = cap := by
      rcases hR.2 with ⟨_, h0⟩ | ⟨g, cap, cur, hv, hb, hg, hc, hm, hs, _⟩
      · omega
      · exact ⟨g, cap, cur, hv, hb, hg, hc, hm, by simpa using hs⟩
    have hgw : g < w.heap.size := (Array.getElem?_eq_some_iff.1 hgc).1
    have hvg : vb ≠ g := hne g rfl
    have hlt : i < xs.length := by omega
    have hcell : ∀ j q, xs[j]? = some q → w.cell? ⟨g, j, none⟩ = some q := fun j q hj => by
      have hj2 := (List.getElem?_eq_some_iff.1 hj).1
      rw [World.ownsRow.cellAt hR j (by omega), hj]
    have hspare : ∀ j, j < cap → (w.cell? ⟨g, j, none⟩).isSome = true := fun j hj => by
      simp only [World.cell?, hgc]
      rw [Array.getElem?_eq_getElem (by omega)]; rfl
    have hfz : ∀ j, w.frozen? ⟨g, j, none⟩ = false := fun j => World.ownsRow.frozenAt hR j
    have hm2 : cap ≤ 9223372036854775807 := hm
    have hz2 : ((i : Int) == (xs.length : Int)) = false := by simp; omega
    have hsz : (Tryz.prog.info? 149).map (·.size) = some 1 := by rw [ji]; simp [jz1]
    have hdl : (xs.drop i).length = xs.length - i := List.length_drop
    have hci : ¬ cap = i := by omega
    obtain ⟨hil, hia⟩ := ins_at (u := u) hi
    by_cases hroom : xs.length + 1 ≤ cap
    · have hroomI : ¬ (cap : Int) < (xs.length : Int) + 1 := by omega
      have hov : ∀ lb cb, (callFunc 195 #[.slice (some ⟨vb, 0, none⟩) 1 1, .slice (some ⟨g, i + 1, none⟩) lb cb]).run Tryz.prog w = .ok (.value (.bool false)) w := fun lb cb => by
        rw [run_callFunc_extern Tryz.func195 (by kernel_rfl) (by kernel_rfl) (by kernel_rfl) (e := Extern.SlicesOverlaps.overlaps #[135, 135] #[4]) (by kernel_rfl),
          Lib.run_overlaps_apart w 135 4 149 Tryz.underlying135 1 Tryz.sizeOf149 ⟨vb, 0, none⟩ ⟨g, i + 1, none⟩ 1 1 lb cb hvg 149 149 1 cap (by simp [World.shape?, hV.blk]) (by simp [World.shape?, hgc, hcs]) (by omega) (hV.frozen 0) (hV.frozen 1)]
        rfl
      have hcp1 : ∀ ty dc sc, (Builtin.copy_ #[135, 135] ty #[.slice (some ⟨g, i + 1, none⟩) (xs.length - i) dc, .slice (some ⟨g, i, none⟩) (xs.length + 1 - i) sc]).run Tryz.prog w.drew = .ok (goInt (xs.drop i).length) (w.drew.setCells g (i + 1) (xs.drop i)) := fun ty dc sc =>
        run_copy_cells w.drew _ _ ty 149 g (i + 1) _ dc ⟨g, i, none⟩ _ sc (xs.drop i) Tryz.underlying135 hsz (by rw [hdl]; simp only [Nat.min_def]; split <;> omega)
          (fun j q hj => by rw [Addr.add_lit]; exact hcell (i + j) q (by rwa [List.getElem?_drop] at hj))
          (fun j hj => hspare _ (by omega)) (fun j _ => hfz _) (fun q hq => hx q (List.mem_of_mem_drop hq))
      obtain ⟨⟨cur1, hc1, hs1⟩, hg1⟩ := heap_setCells (xs.drop i) (i + 1) (W := w.drew) hgc
      obtain ⟨W1, hW1⟩ : ∃ W1, W1 = w.drew.setCells g (i + 1) (xs.drop i) := ⟨_, rfl⟩
      rw [← hW1] at hcp1 hc1 hg1
      have hin1 : ∀ j (hj : j < (xs.drop i).length), W1.cell? ⟨g, i + 1 + j, none⟩ = some (xs.drop i)[j] := fun j hj => by
        rw [hW1]; exact World.cell?_setCells_in g (xs.drop i) (i + 1) w.drew (fun j _ => hspare _ (by omega)) j hj
      have hout1 : ∀ j, j < i + 1 → W1.cell? ⟨g, j, none⟩ = w.cell? ⟨g, j, none⟩ := fun j hj => by
        rw [hW1]; exact World.cell?_setCells_out g _ _ _ _ (fun _ _ => .inl hj)
      have hV1 : Blk W1 vb #[u] 149 := ⟨(hg1.block vb hV.lt (fun e => hvg (Option.some.inj e))).trans hV.blk⟩
      have hfz1 : ∀ j, W1.frozen? ⟨g, j, none⟩ = false := fun j => by simp [World.frozen?, hc1]
      have hsp1 : ∀ j, j < cap → (W1.cell? ⟨g, j, none⟩).isSome = true := fun j hj => by
        simp only [World.cell?, hc1]
        rw [Array.getElem?_eq_getElem (by omega)]; rfl
      have hcp2 : ∀ (W : World), (∀ x, W.cell? x = W1.cell? x) → (∀ x, W.frozen? x = W1.frozen? x) → ∀ ty dc, (Builtin.copy_ #[135, 135] ty #[.slice (some ⟨g, i, none⟩) (xs.length + 1 - i) dc, .slice (some ⟨vb, 0, none⟩) 1 1]).run Tryz.prog W = .ok (goInt [u].length) (W.setCells g i [u]) := fun W hWc hWf ty dc =>
        run_copy_cells W _ _ ty 149 g i _ dc ⟨vb, 0, none⟩ 1 1 [u] Tryz.underlying135 hsz (by simp only [Nat.min_def, List.length_singleton]; split <;> omega)
          (fun j q hj => by
            rw [hWc]
            match j, hj with
            | 0, hj => simp at hj; subst hj; have := hV1.cell 0; simpa [Addr.add] using this
            | j + 1, hj => simp at hj)
          (fun j hj => by rw [hWc]; exact hsp1 _ (by simp at hj; omega)) (fun j _ => by rw [hWf]; exact hfz1 _) h1u
      obtain ⟨⟨cur2, hc2, hs2⟩, hg2⟩ := heap_setCells [u] i (W := W1) hc1
      have hend : (W1.setCells g i [u]).ownsRow B 149 1 (.slice (some ⟨g, 0, none⟩) (xs.length + 1) cap) (xs.length + 1) (xs.take i ++ u :: xs.drop i) := by
        have := own_of_cells (B := B) hc2 (cap := cap) (by rw [hs2, hs1]; exact hcs) hBg hm (xs := xs.take i ++ u :: xs.drop i) (by rw [hil]; exact hroom) (fun j hj => by
          have hj2 : j < xs.length + 1 := by rw [hil] at hj; exact hj
          rw [hia j hj]
          by_cases hji : j = i
          · rw [dif_neg (by omega), dif_pos hji, hji]
            exact World.cell?_setCells_in g [u] i W1 (fun t _ => hsp1 _ (by simp at *; omega)) 0 (by simp)
          · rw [World.cell?_setCells_out g [u] i W1 ⟨g, j, none⟩ (fun _ _ => by simp; omega)]
            by_cases hj3 : j < i
            · rw [dif_pos hj3, hout1 j (by omega)]
              exact hcell j _ (List.getElem?_eq_getElem (by omega))
            · rw [dif_neg hj3, dif_neg hji]
              have h4 := hin1 (j - (i + 1)) (by rw [hdl]; omega)
              rw [show i + 1 + (j - (i + 1)) = j by omega] at h4
              rw [h4, List.getElem_drop]
              congr 2
              omega)
        rw [hil] at this
        exact this
      have hgE : w.grownBy (W1.setCells g i [u]) (some g) :=
        ⟨hg2.os.trans hg1.os, hg2.tape.trans hg1.tape, hg2.output.trans hg1.output, Nat.le_trans hg1.size hg2.size, fun k hk hne => (hg2.block k (Nat.lt_of_lt_of_le hk hg1.size) hne).trans (hg1.block k hk hne)⟩
      have HE := Lib.hid hend
      have HG := Lib.hid hgE
      have hw1 : IntKind.i64.wrap ((i : Int) + 1) = (i : Int) + 1 := IntWalk.i64_in _ (by omega)
      have hb1 : (0 : Int) ≤ (i : Int) + 1 := by omega
      have htn : ((i : Int) + 1).toNat = i + 1 := by omega
      have hb2 : ¬ cap = i + 1 := by omega
      have hb3 : (i : Int) ≤ (xs.length : Int) + 1 := by omega
      have hb4 : (i : Int) + 1 ≤ (xs.length : Int) + 1 := by omega
      clear hend hgE hcell hspare hia hout1 hin1 hsp1 hg1 hg2 hc1 hc2 hV1 hfz1 hR hnews
      have hdr1 : ∀ x, W1.drew.cell? x = W1.cell? x := fun _ => rfl
      go_enter Tryz.func178, Tryz.ntmps178
      go_wp2_with (simp only [hov])
      go_region_law (refine step_copy_runI rfl _ _ 135 135 rfl _ _ (by simp [Act.eval, Act.put]) (by simp [Act.eval, Act.put]) (hcp1 _ _ _) ?_)
      go_wp2_with (at_builtin; refine wpList_copy_runI _ rfl _ _ 135 135 rfl _ _ rfl rfl (hcp2 _ (fun _ => rfl) (fun _ => rfl) _ _) ?_)
      go_ret
      subst hW1
      exact ⟨_, rfl, HE.out, HG.out⟩
    · have hroomI : (cap : Int) < (xs.length : Int) + 1 := by omega
      have hold : (Builtin.firstCells j0.size i (.slice (some ⟨g, 0, none⟩) i cap)).run Tryz.prog w.drew = .ok (xs.take i).toArray w.drew := by
        rw [jz1]
        exact run_firstCells_some w.drew 1 i ⟨g, 0, none⟩ i cap (xs.take i) (by rw [List.length_take]; omega) (fun j q hj => by
          rw [Addr.add_lit, Nat.zero_add]
          rw [List.getElem?_take] at hj
          split at hj
          · exact hcell j q hj
          · cases hj)
      have hik : i + (xs.length + 1 - i) = xs.length + 1 := by omega
      have hkk : (xs.length : Int) + 1 - (i : Int) = ((xs.length + 1 - i : Nat) : Int) := by omega
      obtain ⟨G, hG⟩ : ∃ G, G = grownCap w (xs.length + 1) cap 149 := ⟨_, rfl⟩
      obtain ⟨ROW, hROW⟩ : ∃ ROW : Array Value, ROW = (xs.take i).toArray ++ Builtin.zeroCells (Value.nilIface).cells (xs.length + 1 - i) ++ Builtin.zeroCells (Value.nilIface).cells (G - (xs.length + 1)) := ⟨_, rfl⟩
      have hrz : ∀ ty, (Builtin.append_ #[135, 3] ty #[.slice (some ⟨g, 0, none⟩) i cap, .int .i64 ((xs.length : Int) + 1 - (i : Int))]).run Tryz.prog w =
          .ok (.slice (some ⟨w.heap.size, 0, none⟩) (xs.length + 1) G) (w.drew.alloc (.cells ROW 149)) := fun ty => by
        have h := Lib.run_append_grow_zeros w 135 3 ty 149 j0 _ .i64 .i64 Tryz.underlying135 Tryz.underlying3 ji jz0 (some ⟨g, 0, none⟩) i cap (xs.take i) hold (xs.length + 1 - i) (by omega) (by omega) (by omega) (by omega) (by rw [jz2]; omega) (by rw [jz2, hik]; exact growslice_fits (by omega) (by omega))
        rw [hik, ← hG, ← hROW] at h
        rw [hkk]
        exact h
      have hGn : xs.length + 1 ≤ G := by rw [hG]; exact grownCap_ge w _ _ _
      have hGm : G ≤ maxLen := by rw [hG]; exact grownCap_le_maxLen w _ _ _ (by unfold maxLen; omega)
      have hG63 : G ≤ 9223372036854775807 := hGm
      have hRs : ROW.size = G := by
        rw [hROW]
        simp [Builtin.zeroCells, Value.cells]
        omega
      have hRt : ∀ j, j < i → ROW[j]? = xs[j]? := fun j hj => by
        rw [hROW, Array.append_assoc, Array.getElem?_append_left (by simp; omega)]
        simp [hj]
      obtain ⟨W1, hW1⟩ : ∃ W1, W1 = (w.alloc (.cells ROW 149)).drew := ⟨_, rfl⟩
      have hb1 : W1.heap[w.heap.size]? = some (.cells ROW 149 (0, 0)) := by rw [hW1]; exact heap_alloc_new w _
      have hbel : Below w.heap.size w W1 := by rw [hW1]; exact ((Below.refl _ _).alloc (Nat.le_refl _) _).drew
      obtain ⟨⟨cur1, hc1, hs1⟩, hg1⟩ := heap_setCells [u] i (W := W1) hb1
      obtain ⟨W2, hW2⟩ : ∃ W2, W2 = (W1.setCells w.heap.size i [u]).drew := ⟨_, rfl⟩
      have hc1' : W2.heap[w.heap.size]? = some (.cells cur1 149 (0, 0)) := by rw [hW2]; exact hc1
      have hg1' : W1.grownBy W2 (some w.heap.size) := by rw [hW2]; exact ⟨hg1.os, hg1.tape, hg1.output, hg1.size, hg1.block⟩
      obtain ⟨⟨cur2, hc2, hs2⟩, hg2⟩ := heap_setCells (xs.drop i) (i + 1) (W := W2) hc1'
      have hgN : g ≠ w.heap.size := by omega
      have hsp : ∀ (W : World) (cu : Array Value), W.heap[w.heap.size]? = some (.cells cu 149 (0, 0)) → cu.size = G → ∀ j, j < G → (W.cell? ⟨w.heap.size, j, none⟩).isSome = true := fun W cu h1 h2 j hj => by
        simp only [World.cell?, h1]
        rw [Array.getElem?_eq_getElem (by omega)]; rfl
      have hcg1 : ∀ j q, xs[j]? = some q → W1.cell? ⟨g, j, none⟩ = some q := fun j q hj => (hbel.cell (p := ⟨g, j, none⟩) hgw).trans (hcell j q hj)
      have hcpA : ∀ ty dc, (Builtin.copy_ #[135, 135] ty #[.slice (some ⟨w.heap.size, i, none⟩) (xs.length + 1 - i) dc, .slice (some ⟨vb, 0, none⟩) 1 1]).run Tryz.prog W1 = .ok (goInt [u].length) (W1.setCells w.heap.size i [u]) := fun ty dc =>
        run_copy_cells W1 _ _ ty 149 w.heap.size i _ dc ⟨vb, 0, none⟩ 1 1 [u] Tryz.underlying135 hsz (by simp only [Nat.min_def, List.length_singleton]; split <;> omega)
          (fun j q hj => by
            match j, hj with
            | 0, hj =>
              simp at hj; subst hj
              have := (hV.on hbel).cell 0
              simpa [Addr.add] using this
            | j + 1, hj => simp at hj)
          (fun j hj => hsp W1 ROW hb1 hRs _ (by simp at hj; omega)) (fun j _ => by simp [World.frozen?, hb1]) h1u
      have hcpB : ∀ (W : World), (∀ x, W.cell? x = W2.cell? x) → (∀ x, W.frozen? x = W2.frozen? x) → ∀ ty dc sc, (Builtin.copy_ #[135, 135] ty #[.slice (some ⟨w.heap.size, i + 1, none⟩) (xs.length - i) dc, .slice (some ⟨g, i, none⟩) (xs.length - i) sc]).run Tryz.prog W = .ok (goInt (xs.drop i).length) (W.setCells w.heap.size (i + 1) (xs.drop i)) := fun W hWc hWf ty dc sc =>
        run_copy_cells W _ _ ty 149 w.heap.size (i + 1) _ dc ⟨g, i, none⟩ _ sc (xs.drop i) Tryz.underlying135 hsz (by rw [hdl]; simp only [Nat.min_def]; split <;> omega)
          (fun j q hj => by
            rw [Addr.add_lit, hWc, World.cell?_of_block (hg1'.block g (by have := hbel.size; omega) (fun e => hgN (Option.some.inj e)))]
            exact hcg1 (i + j) q (by rwa [List.getElem?_drop] at hj))
          (fun j hj => by rw [hWc]; exact hsp W2 cur1 hc1' (by rw [hs1]; exact hRs) _ (by omega)) (fun j _ => by rw [hWf]; simp [World.frozen?, hc1']) (fun q hq => hx q (List.mem_of_mem_drop hq))
      have hend : (W2.setCells w.heap.size (i + 1) (xs.drop i)).ownsRow B 149 1 (.slice (some ⟨w.heap.size, 0, none⟩) (xs.length + 1) G) (xs.length + 1) (xs.take i ++ u :: xs.drop i) := by
        have := own_of_cells (B := B) hc2 (cap := G) (by rw [hs2, hs1]; exact hRs) hB hGm (xs := xs.take i ++ u :: xs.drop i) (by rw [hil]; exact hGn) (fun j hj => by
          have hj2 : j < xs.length + 1 := by rw [hil] at hj; exact hj
          rw [hia j hj]
          have h2c : ∀ j, W2.cell? ⟨w.heap.size, j, none⟩ = (W1.setCells w.heap.size i [u]).cell? ⟨w.heap.size, j, none⟩ := fun j => by rw [hW2]; rfl
          by_cases hj3 : j < i
          · rw [dif_pos hj3, World.cell?_setCells_out _ _ _ _ _ (fun _ _ => by simp; omega), h2c, World.cell?_setCells_out _ _ _ _ _ (fun _ _ => by simp; omega)]
            simp only [World.cell?, hb1]
            rw [hRt j hj3]
            exact List.getElem?_eq_getElem (by omega)
          · by_cases hji : j = i
            · subst hji
              rw [dif_neg hj3, dif_pos rfl, World.cell?_setCells_out _ _ _ _ _ (fun _ _ => by simp), h2c]
              exact World.cell?_setCells_in w.heap.size [u] j W1 (fun t ht => hsp W1 ROW hb1 hRs _ (by simp at ht; omega)) 0 (by simp)
            · rw [dif_neg hj3, dif_neg hji]
              have h4 := World.cell?_setCells_in w.heap.size (xs.drop i) (i + 1) W2 (fun t ht => hsp W2 cur1 hc1' (by rw [hs1]; exact hRs) _ (by omega)) (j - (i + 1)) (by omega)
              rw [show i + 1 + (j - (i + 1)) = j by omega] at h4
              rw [h4, List.getElem_drop]
              congr 2
              omega)
        rw [hil] at this
        exact this
      have hgE : w.grownBy (W2.setCells w.heap.size (i + 1) (xs.drop i)) (some g) := by
        refine ⟨hg2.os.trans (hg1'.os.trans hbel.os), hg2.tape.trans (hg1'.tape.trans hbel.tape), hg2.output.trans (hg1'.output.trans hbel.output), Nat.le_trans hbel.size (Nat.le_trans hg1'.size hg2.size), fun k hk _ => ?_⟩
        have hkn : some k ≠ some w.heap.size := fun e => by have := Option.some.inj e; omega
        have hk1 := Nat.lt_of_lt_of_le hk hbel.size
        exact ((hg2.block k (Nat.lt_of_lt_of_le hk1 hg1'.size) hkn).trans (hg1'.block k hk1 hkn)).trans (hbel.block k hk)
      have HE := Lib.hid hend
      have HG := Lib.hid hgE
      have hw1 : IntKind.i64.wrap ((i : Int) + 1) = (i : Int) + 1 := IntWalk.i64_in _ (by omega)
      have hb1' : (0 : Int) ≤ (i : Int) + 1 := by omega
      have htn : ((i : Int) + 1).toNat = i + 1 := by omega
      have hGi : ¬ G = i := by omega
      have hGim : ¬ G = i + 1 := by omega
      have hb3 : (i : Int) ≤ (xs.length : Int) + 1 := by omega
      have hb4 : (i : Int) + 1 ≤ (xs.length : Int) + 1 := by omega
      have hb5 : (i : Int) ≤ (xs.length : Int) := by omega
      clear hend hgE hcell hspare hia hcg1 hsp hg1 hg2 hg1' hc1 hc2 hc1' hb1 hR hnews hbel hRt hRs hROW hG hold hkk hik hV
      subst hW2
      subst hW1
      go_enter Tryz.func178, Tryz.ntmps178
      go_wp2_with (first
        | (at_builtin; refine Lib.wpList_append_run _ rfl _ _ _ _ rfl _ _ rfl rfl _ _ (hrz _) ?_; clear hrz)
        | (at_builtin; refine wpList_copy_runI _ rfl _ _ 135 135 rfl _ _ rfl rfl (hcpA _ _) ?_))
      have hF1 : ∀ x, ((((w.alloc (.cells ROW 149)).drew.setCells w.heap.size i [u]).drew)).cell? x = ((((w.alloc (.cells ROW 149)).drew.setCells w.heap.size i [u]).drew)).cell? x := fun x => rfl
      have hF2 : ∀ x, ((((w.alloc (.cells ROW 149)).drew.setCells w.heap.size i [u]).drew)).frozen? x = ((((w.alloc (.cells ROW 149)).drew.setCells w.heap.size i [u]).drew)).frozen? x := fun x => rfl
      have hcpC := fun ty => hcpB _ hF1 hF2 ty (G - (i + 1)) (cap - i)
      clear hF1 hF2 hcpB hcpA
      go_region_law (refine step_copy_runI rfl _ _ 135 135 rfl (.slice (some ⟨w.heap.size, i + 1, none⟩) (xs.length - i) (G - (i + 1))) (.slice (some ⟨g, i, none⟩) (xs.length - i) (cap - i)) (by simp [Act.eval, Act.put]) (by simp [Act.eval, Act.put]) (hcpC _) ?_)
      go_wp2
      go_ret
      exact ⟨_, rfl, HE.out, HG.out⟩
end Go.Proofs.YtipedabppgbfcaaGreatDoor
