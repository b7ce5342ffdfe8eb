/- A tree that comes in by value: a slice of nodes and a number; what is known of it, and that it reads so again. The laws' marks on rows of nodes: markNodeS, markTree, heldNodeS, heldTree. -/
import Derived.Test.YtipepbnmllbonaaGreatDoorM6
import Derived.ChangeSame
import Derived.ChangeArms
import Derived.Deep.Slices
import Derived.Deep.Fields
import Derived.WideShapes
import Derived.Test.YtipepbnmllbonaaGreatDoorM7
namespace Go.Proofs.YtipepbnmllbonaaGreatDoor
open Go.RowKit Go.ChangeShapes Go.WideShapes Go.Deep

section
variable {H : Type} {enc : TypeId × Value → H} {P : Program} {w : World} {base : Nat} {spare : Nat → Bool} {held : Bool}
/-- A slice of structs of one-cell fields: each field of each element. -/
theorem open_rows {t e : TypeId} {fs : Array Field} {fuel : Nat} {cs : List Value} {x : DataW H × List MemPlace} (ht : P.underlying t = some (.slice e)) (he : P.underlying e = some (.struct fs))
    (hone : oneCellFields P fs = true) (hC : P.cellsOf e = fs.size) (h : DataW.trod enc P w base spare held fuel t cs = some x) :
    cs = [.slice none 0 0] ∨
    ∃ (a : Addr) (len cap : Nat), cs = [.slice (some a) len cap] ∧ len ≤ cap ∧ cap ≤ maxLen ∧
      ∀ i, i < len → ∀ (j : Nat) (f : Field), fs[j]? = some f → ∃ (v : Value) (y : DataW H × List MemPlace) (n : Nat), w.cell? (a.add (i * fs.size + j)) = some v ∧ DataW.trod enc P w base spare held n f.type [v] = some y := by
  rcases open_slice ht h with h0 | ⟨a, len, cap, m, n, D, Pl, hcs, hb, hl, hm, hmm, hx, hi⟩
  · exact .inl h0.1
  · refine .inr ⟨a, len, cap, hcs, hl, hm, fun i hil j f hj => ?_⟩
    have him : i < m := by rw [hmm]; split <;> omega
    obtain ⟨cs', hc, ht'⟩ := hi i him
    rw [hC] at hc
    obtain ⟨ys, n', hn', hy, hlen, hyl, hf⟩ := DataW.trod_struct he ht'
    obtain ⟨_, hcl, hat⟩ := World.cells?_some hc
    obtain ⟨ho, hk⟩ := hone_of hone j f hj
    have hjl : j < fs.size := (Array.getElem?_eq_some_iff.1 hj).1
    have hcell := hat j hjl
    have hv : cs'[j]? = some (cs'[j]'(by omega)) := List.getElem?_eq_getElem (by omega)
    have h1 := hf j f hj
    rw [ho, hk] at h1
    have hone' : (cs'.drop j).take 1 = [cs'[j]'(by omega)] := by
      rw [List.drop_eq_getElem_cons (by omega)]
      rfl
    rw [hone'] at h1
    have hys : ys[j]? = some (ys[j]'(by omega)) := List.getElem?_eq_getElem (by omega)
    refine ⟨_, _, _, ?_, h1.trans hys⟩
    rw [← Go.Deep.add_add, hcell, hv]
end

theorem cell_lt {w : World} {a : Addr} {v : Value} (h : w.cell? a = some v) : a.block < w.heap.size := by
  cases hb : w.heap[a.block]? with
  | none => simp [World.cell?, hb] at h
  | some o => exact (Array.getElem?_eq_some_iff.1 hb).1

/-- A node out of six cells. -/
theorem nd_of {H : Type} {enc : TypeId × Value → H} {w : World} {base : Nat} {spare : Nat → Bool} {held : Bool} {a : Addr}
    (h : ∀ (j : Nat) (t : TypeId), ([9, 4, 3, 3, 3, 9] : List TypeId)[j]? = some t → ∃ (v : Value) (y : DataW H × List MemPlace) (n : Nat), w.cell? (a.add j) = some v ∧ DataW.trod enc Tryz.prog w base spare held n t [v] = some y) :
    ∃ nd : Nd, NdIn w a nd ∧ nd.path.length ≤ maxLen ∧ nd.data.length ≤ maxLen := by
  obtain ⟨v0, y0, n0, c0, t0⟩ := h 0 _ rfl
  obtain ⟨v1, y1, n1, c1, t1⟩ := h 1 _ rfl
  obtain ⟨v2, y2, n2, c2, t2⟩ := h 2 _ rfl
  obtain ⟨v3, y3, n3, c3, t3⟩ := h 3 _ rfl
  obtain ⟨v4, y4, n4, c4, t4⟩ := h 4 _ rfl
  obtain ⟨v5, y5, n5, c5, t5⟩ := h 5 _ rfl
  obtain ⟨s0, e0, _, z0⟩ := DataW.trod_string Tryz.underlying9 t0
  obtain ⟨b1, e1, _⟩ := DataW.trod_bool Tryz.underlying4 t1
  obtain ⟨i2, e2, _⟩ := DataW.trod_int Tryz.underlying3 t2
  obtain ⟨i3, e3, _⟩ := DataW.trod_int Tryz.underlying3 t3
  obtain ⟨i4, e4, _⟩ := DataW.trod_int Tryz.underlying3 t4
  obtain ⟨s5, e5, _, z5⟩ := DataW.trod_string Tryz.underlying9 t5
  simp only [List.cons.injEq, and_true] at e0 e1 e2 e3 e4 e5
  subst e0 e1 e2 e3 e4 e5
  refine ⟨⟨s0.data.toList, b1, i2, i3, i4, s5.data.toList⟩, fun j v hj => ?_, by simpa using z0, by simpa using z5⟩
  match j, hj with
  | 0, hj => cases hj; rw [c0]; cases s0; simp [strOf]
  | 1, hj => cases hj; exact c1
  | 2, hj => cases hj; exact c2
  | 3, hj => cases hj; exact c3
  | 4, hj => cases hj; exact c4
  | 5, hj => cases hj; rw [c5]; cases s5; simp [strOf]
  | j + 6, hj => simp [nodeVals] at hj

/-- A list of what each number has. -/
theorem list_of {α : Type} {n : Nat} {R : Nat → α → Prop} (h : ∀ i, i < n → ∃ x, R i x) : ∃ l : List α, l.length = n ∧ ∀ i (hi : i < l.length), R i l[i] := by
  induction n with
  | zero => exact ⟨[], rfl, fun i hi => by simp at hi⟩
  | succ n ih =>
    obtain ⟨l, hl, hr⟩ := ih fun i hi => h i (by omega)
    obtain ⟨x, hx⟩ := h n (by omega)
    refine ⟨l ++ [x], by simp [hl], fun i hi => ?_⟩
    rw [List.getElem_append]
    split
    · next hlt => exact hr i hlt
    · next hge =>
      have : i = n := by simp at hi; omega
      subst this; simpa using hx

set_option maxRecDepth 100000 in
theorem open_tree {H : Type} {enc : TypeId × Value → H} {w : World} {base : Nat} {spare : Nat → Bool} {held : Bool} {r : Reach} {b0 : Nat} {v : Value} {dt : DataW H} {p : List MemPlace}
    (hv : Value.okWide Tryz.prog w r b0 54 v) (hr : DataW.Trod enc Tryz.prog w base spare held 54 v dt p) :
    ∃ (a : Option Addr) (len cap : Nat) (ns : List Nd) (next : Int), v = .agg #[.slice a len cap, .int .i64 next] ∧ NIn w a len cap ns ∧ (Lit.int .i64 next).wf = true := by
  obtain ⟨⟨l⟩, rfl, hsz⟩ := okWide_struct Tryz.underlying54 hv
  have hl2 : l.length = 2 := hsz.trans (by kernel_rfl)
  obtain ⟨c0, c1, rfl⟩ : ∃ c0 c1, l = [c0, c1] := by
    match l, hl2 with
    | [a, b], _ => exact ⟨a, b, rfl⟩
  obtain ⟨fuel, hf⟩ := hr
  obtain ⟨xs, n, _, hx, _, hlen, hg⟩ := DataW.trod_struct Tryz.underlying54 hf
  have one1 : Tryz.prog.cellsOf 3 = 1 := by kernel_rfl
  have one0 : Tryz.prog.cellsOf 52 = 1 := by kernel_rfl
  have xl : xs.length = 2 := hlen
  obtain ⟨y0, y1, rfl⟩ : ∃ y0 y1, xs = [y0, y1] := by
    match xs, xl with
    | [a, b], _ => exact ⟨a, b, rfl⟩
  have h0 : DataW.trod enc Tryz.prog w base spare held n 52 [c0] = some y0 := by simpa [Value.cells, one0] using hg 0 _ rfl
  have h1 : DataW.trod enc Tryz.prog w base spare held n 3 [c1] = some y1 := by simpa [Value.cells, one0, one1] using hg 1 _ rfl
  obtain ⟨z1, e1, _, w1⟩ := DataW.trod_int Tryz.underlying3 h1
  simp only [List.cons.injEq, and_true] at e1
  subst e1
  rcases open_rows Tryz.underlying52 Tryz.underlying141 (by kernel_rfl) (by kernel_rfl) h0 with e0 | ⟨x, len, cap, e0, hlc, hcm, hi⟩
  · simp only [List.cons.injEq, and_true] at e0
    subst e0
    exact ⟨none, 0, 0, [], z1, rfl, .inl ⟨rfl, rfl, rfl, rfl⟩, w1⟩
  · simp only [List.cons.injEq, and_true] at e0
    subst e0
    obtain ⟨ns, hl, hr⟩ := list_of (R := fun i nd => NdIn w (x.add (i * 6)) nd ∧ nd.path.length ≤ maxLen ∧ nd.data.length ≤ maxLen) (n := len) fun i hil => nd_of (enc := enc) (base := base) (spare := spare) (held := held) fun j t ht => by
      match j, ht with
      | 0, ht => cases ht; obtain ⟨v, y, n, hc, h⟩ := hi i hil 0 _ rfl; exact ⟨v, y, n, by rw [Go.Deep.add_add]; exact hc, h⟩
      | 1, ht => cases ht; obtain ⟨v, y, n, hc, h⟩ := hi i hil 1 _ rfl; exact ⟨v, y, n, by rw [Go.Deep.add_add]; exact hc, h⟩
      | 2, ht => cases ht; obtain ⟨v, y, n, hc, h⟩ := hi i hil 2 _ rfl; exact ⟨v, y, n, by rw [Go.Deep.add_add]; exact hc, h⟩
      | 3, ht => cases ht; obtain ⟨v, y, n, hc, h⟩ := hi i hil 3 _ rfl; exact ⟨v, y, n, by rw [Go.Deep.add_add]; exact hc, h⟩
      | 4, ht => cases ht; obtain ⟨v, y, n, hc, h⟩ := hi i hil 4 _ rfl; exact ⟨v, y, n, by rw [Go.Deep.add_add]; exact hc, h⟩
      | 5, ht => cases ht; obtain ⟨v, y, n, hc, h⟩ := hi i hil 5 _ rfl; exact ⟨v, y, n, by rw [Go.Deep.add_add]; exact hc, h⟩
      | j + 6, ht => simp at ht
    refine ⟨some x, len, cap, ns, z1, rfl, .inr ⟨x, rfl, hlc, hcm, hl, fun hn => ?_, fun n hn => ?_, fun i hi => (hr i hi).1⟩, w1⟩
    · cases ns with
      | nil => exact absurd rfl hn
      | cons nd r =>
        have hc := ((hr 0 (by simp)).1).cells.1
        have := cell_lt hc
        rwa [add_block] at this
    · obtain ⟨i, hi, rfl⟩ := List.getElem_of_mem hn
      exact (hr i hi).2
end Go.Proofs.YtipepbnmllbonaaGreatDoor
namespace Go.Proofs.YtipepbnmllbonaaGreatDoor
open Go.RowKit

def markNd (k : Nat) : Nd := ⟨markL k, ((k : Int) + 1) % 3 == 0, (k : Int) + 1 + 1, (k : Int) + 1 + 1 + 1, (k : Int) + 1 + 1 + 1 + 1, markL (k + 5)⟩
def marksN (k n : Nat) : List Nd := (List.range n).map fun j => markNd (k + 6 * j)
theorem marksN_len (k n : Nat) : (marksN k n).length = n := by simp [marksN]
theorem marksN_at (k n j : Nat) (h : j < n) : (marksN k n)[j]'(by rw [marksN_len]; exact h) = markNd (k + 6 * j) := by simp [marksN]
theorem eq_marksN {k n : Nat} {ms : List Nd} (hl : ms.length = n) (h : ∀ j (hj : j < ms.length), ms[j] = markNd (k + 6 * j)) : ms = marksN k n := by
  apply List.ext_getElem (by rw [hl, marksN_len])
  intro j h1 h2
  rw [h j h1, marksN_at k n j (by omega)]
theorem grownBy_sets {A B : World} {row : Option Nat} (h : A.grownBy B row) (a : Addr) (v : Value) (ha : row = some a.block) : A.grownBy (B.setCell a v) row :=
  ⟨h.os, h.tape, h.output, Nat.le_trans h.size (by simp [World.setCell]), fun k hk hr => (Below.heap_setCell B a v k (fun e => hr (by rw [ha, e]))).trans (h.block k hk hr)⟩
theorem grownBy_on {A B C : World} {row : Option Nat} (h : A.grownBy B row) (hb : Below B.heap.size B C) : A.grownBy C row :=
  ⟨hb.os.trans h.os, hb.tape.trans h.tape, hb.output.trans h.output, Nat.le_trans h.size hb.size, fun k hk hr => (hb.block k (Nat.lt_of_lt_of_le hk h.size)).trans (h.block k hk hr)⟩

set_option maxRecDepth 100000 in
set_option maxHeartbeats 8000000 in
theorem markNodeS (w : World) (B : Nat) (v : Value) (ns : List Nd) (k : Nat) (hk : 1 ≤ k) (hk2 : k ≤ 1000000000) (hm : ns.length ≤ 2000000) (h : NRow w B v ns) :
    Calls Tryz.prog 84 #[v, .int .i64 k] w fun e w' => e = .returned (.int .i64 ((k : Int) + 6 * ns.length)) ∧ NRow w' B v (marksN k ns.length) ∧ w.grownBy w' v.ownBlock := by
  rcases h.form with ⟨rfl, rfl⟩ | ⟨g, cap, rfl, hBg, hgw, hc, hf, hl, hcap⟩
  · go_enter Tryz.func84, Tryz.ntmps84
    go_wp2
    go_loop [1, 5] (fun q i => q = .int .i64 k ∧ i = .int .i64 0) (fun _ _ => 0)
    case atStart => exact ⟨rfl, rfl⟩
    case round =>
      obtain ⟨rfl, rfl⟩ := hrel
      go_wp2
      go_ret
      exact ⟨ret_int (by simp), h, World.grownBy.refl _ _⟩
  · unfold maxLen at hcap
    have HS := Lib.hid h
    clear h hc hf
    go_enter Tryz.func84, Tryz.ntmps84
    go_wp2
    go_loopw [1, 5] (fun q i W => ∃ (j u : Nat) (ms : List Nd), j ≤ ns.length ∧ q = .int .i64 u ∧ Hid (u = k + 6 * j) ∧ u ≤ 2000000000 ∧ 1 ≤ u ∧ i = .int .i64 j ∧ Hid (ms.length = ns.length) ∧ Hid (∀ i (hi : i < ms.length), i < j → ms[i] = markNd (k + 6 * i)) ∧ NRow W B (.slice (some ⟨g, 0, none⟩) ns.length cap) ms ∧ w.grownBy W (some g) ∧ g < W.heap.size) (fun _ i _ => ns.length - (intOf i).toNat)
    case atStart => exact ⟨0, k, ns, Nat.zero_le _, rfl, Lib.hid (by omega), by omega, hk, rfl, Lib.hid rfl, Lib.hid (fun i _ h => by omega), HS.out, World.grownBy.refl _ _, hgw⟩
    case round =>
      obtain ⟨j, u, ms, hj, rfl, HU, hu2, hu1, rfl, HL, HM, hS, hg, hgW⟩ := hrel
      have HS2 := Lib.hid hS
      have HG := Lib.hid hg
      clear hS hg
      by_cases hlt : j < ns.length
      · have hjl : j < ms.length := by have := HL.out; omega
        have hji : (j : Int) < (ns.length : Int) := by omega
        go_wp2_with fail
        refine (markTextI _ u _ (by omega) (by omega) (by omega)).mono ?_
        rintro e W1 ⟨rfl, hb1⟩
        have hR1 := HS2.out.on hb1
        have hR1' : NRow W1 B (.slice (some ⟨g, 0, none⟩) ms.length cap) ms := by rw [HL.out]; exact hR1
        have hat : ∀ o, o < 6 → ∃ x, W1.cell? ⟨g, j * 6 + o, none⟩ = some x := fun o ho => by
          have h1 := World.ownsRow.cellAt hR1'.own (j * 6 + o) (by omega)
          rw [h1, nodesVals_at ms j o hjl ho]
          exact ⟨_, List.getElem?_eq_getElem (by simp [nodeVals]; omega)⟩
        obtain ⟨x0, c0⟩ := hat 0 (by omega)
        obtain ⟨x1, c1⟩ := hat 1 (by omega)
        obtain ⟨x2, c2⟩ := hat 2 (by omega)
        obtain ⟨x3, c3⟩ := hat 3 (by omega)
        obtain ⟨x4, c4⟩ := hat 4 (by omega)
        rw [Nat.add_zero] at c0
        have fz := fun o => World.ownsRow.frozenAt hR1'.own o
        have hG1 := Lib.hid (grownBy_on HG.out hb1)
        have s0 := (World.ownsRow.stored hR1'.own (j * 6) (.string (strOf (markL u)))).1
        have s1 := (World.ownsRow.stored s0 (j * 6 + 1) (.bool (((u : Int) + 1) % 3 == 0))).1
        have s2 := (World.ownsRow.stored s1 (j * 6 + 2) (.int .i64 ((u : Int) + 1 + 1))).1
        have s3 := (World.ownsRow.stored s2 (j * 6 + 3) (.int .i64 ((u : Int) + 1 + 1 + 1))).1
        have s4 := (World.ownsRow.stored s3 (j * 6 + 4) (.int .i64 ((u : Int) + 1 + 1 + 1 + 1))).1
        have HS4 := Lib.hid s4
        have hgW1 : g < W1.heap.size := Nat.lt_of_lt_of_le hgW hb1.size
        clear s0 s1 s2 s3 s4 hR1 hR1' hat hb1
        go_wp2_with fail
        refine (markTextI _ (u + 5) _ (by omega) (by omega) (by omega)).mono ?_
        rintro e W2 ⟨rfl, hb2⟩
        have h5 := owns_on6 HS4.out hb2
        obtain ⟨x5, c5⟩ : ∃ x, W2.cell? ⟨g, j * 6 + 5, none⟩ = some x := by
          have h1 := World.ownsRow.cellAt h5 (j * 6 + 5) (by have := HL.out; omega)
          rw [h1]
          exact ⟨_, List.getElem?_eq_getElem (by simp [nodesVals_len]; omega)⟩
        have fy := fun o => World.ownsRow.frozenAt h5 o
        have s5 := Lib.hid (World.ownsRow.stored h5 (j * 6 + 5) (.string (strOf (markL (u + 5))))).1
        have HG2 := Lib.hid (grownBy_on (grownBy_sets (grownBy_sets (grownBy_sets (grownBy_sets (grownBy_sets hG1.out ⟨g, j * 6, none⟩ (.string (strOf (markL u))) rfl) ⟨g, j * 6 + 1, none⟩ (.bool (((u : Int) + 1) % 3 == 0)) rfl) ⟨g, j * 6 + 2, none⟩ (.int .i64 ((u : Int) + 1 + 1)) rfl) ⟨g, j * 6 + 3, none⟩ (.int .i64 ((u : Int) + 1 + 1 + 1)) rfl) ⟨g, j * 6 + 4, none⟩ (.int .i64 ((u : Int) + 1 + 1 + 1 + 1)) rfl) hb2)
        have hgW2 : g < W2.heap.size := by have := hb2.size; simp at this; omega
        clear h5 hb2
        go_wp2
        go_roundw
        case rel =>
          have hlen := HL.out
          refine ⟨j + 1, u + 6, ms.set j (markNd u), by omega, by go_num, Lib.hid (by have := HU.out; omega), by have := HU.out; omega, by omega, by go_num, Lib.hid (by simpa using hlen), Lib.hid (fun i hi hij => ?_), ?_, grownBy_sets HG2.out _ _ rfl, by simpa using hgW2⟩
          · rw [List.getElem_set]
            by_cases e : j = i
            · rw [if_pos e, ← e, HU.out]
            · rw [if_neg e]; exact HM.out i (by simpa using hi) (by omega)
          · unfold NRow
            rw [List.length_set, ← put6_set ms j (markNd u) hjl, ← hlen]
            exact s5.out
        case measure => simp [intOf]; omega
      · go_wp2
        go_ret
        refine ⟨ret_int (by have := HU.out; omega), ?_, HG.out⟩
        have e := eq_marksN HL.out (fun i hi => HM.out i hi (by have := HL.out; omega))
        rw [← e]; exact HS2.out
theorem markNodeS1 (w : World) (B : Nat) (v : Value) (ns : List Nd) (hm : ns.length ≤ 2000000) (h : NRow w B v ns) :
    Calls Tryz.prog 84 #[v, .int .i64 1] w fun e w' => e = .returned (.int .i64 (1 + 6 * (ns.length : Int))) ∧ NRow w' B v (marksN 1 ns.length) ∧ w.grownBy w' v.ownBlock := by
  have h1 := markNodeS w B v ns 1 (by omega) (by omega) hm h
  refine h1.mono ?_
  rintro e w' ⟨rfl, h2, h3⟩
  exact ⟨ret_int (by omega), h2, h3⟩
set_option maxRecDepth 100000 in
set_option maxHeartbeats 2000000 in
theorem markTree1 (w : World) (B : Nat) (v : Value) (ns : List Nd) (next : Int) (hm : ns.length ≤ 2000000) (h : NRow w B v ns) :
    Calls Tryz.prog 40 #[.agg #[v, .int .i64 next], .int .i64 1] w fun e w' => e = .returned (.int .i64 (1 + 6 * (ns.length : Int))) ∧ NRow w' B v (marksN 1 ns.length) ∧ w.grownBy w' v.ownBlock := by
  obtain ⟨a1, k1, rfl⟩ := h.shape
  have hb := ((Below.refl w.heap.size w).alloc (Nat.le_refl _) (.cells #[.slice a1 ns.length k1, .int .i64 next] 26))
  have CM := markNodeS1 _ B _ ns hm (h.on hb)
  have HG := Lib.hid (World.grownBy_alloc w (.cells #[.slice a1 ns.length k1, .int .i64 next] 26) (Value.ownBlock (.slice a1 ns.length k1)))
  have hl : (ns.length : Int) ≤ 2000000 := by omega
  clear h hb
  go_enter Tryz.func40, Tryz.ntmps40
  go_wp2_with fail
  refine CM.mono ?_
  rintro e W1 ⟨rfl, hR, hg⟩
  have HR := Lib.hid hR
  have HG1 := Lib.hid (HG.out.trans hg)
  clear hR hg
  go_wp2
  go_ret
  exact ⟨rfl, HR.out, HG1.out⟩
theorem strs_kept {w w' : World} {B : Nat} {v : Value} {ls : List (List UInt8)} {row : Option Nat} (h : Strs w B v ls) (hg : w.grownBy w' row) (hr : ∀ k, row = some k → k < B) : Strs w' B v ls := by
  refine World.ownsRow.kept h hg ?_
  rcases h.form with ⟨rfl, _⟩ | ⟨g, cap, rfl, hB, _⟩
  · exact .inl rfl
  · refine .inr fun e => ?_
    have := hr g e.symm
    omega
theorem strs_kept_up {w w' : World} {B U : Nat} {v : Value} {ls : List (List UInt8)} {row : Option Nat} (h : Strs w B v ls) (hg : w.grownBy w' row) (hu : ∀ k, v.ownBlock = some k → k < U) (hr : ∀ k, row = some k → U ≤ k) : Strs w' B v ls := by
  refine World.ownsRow.kept h hg ?_
  rcases h.form with ⟨rfl, _⟩ | ⟨g, cap, rfl, hB, _⟩
  · exact .inl rfl
  · refine .inr fun e => ?_
    have h1 := hr g e.symm
    have h2 := hu g rfl
    omega
end Go.Proofs.YtipepbnmllbonaaGreatDoor
