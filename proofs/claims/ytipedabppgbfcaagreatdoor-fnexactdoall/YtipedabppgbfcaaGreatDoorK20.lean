/- A tree that comes in by value: a slice of nodes and a number; what is known of it, and that it reads so again. An op that comes in by value, a list of them; laws.toOp, szOp, eqOp, and those on lists; an op's cells. -/
import Derived.Test.YtipedabppgbfcaaGreatDoorK9
import Derived.ChangeSame
import Derived.ChangeArms
import Derived.Deep.Slices
import Derived.Deep.Fields
import Derived.WideShapes
import Derived.Test.YtipedabppgbfcaaGreatDoorK6
set_option linter.all false
namespace Go.Proofs.YtipedabppgbfcaaGreatDoor
open Go.RowKit Go.ChangeShapes Go.WideShapes Go.Deep

section
variable {H : Type} {enc : TypeId × Value → H} {P : Program} {w : World} {base : Nat} {spare : Nat → Bool} {held : Bool}
/-- A slice of structs of one-cell fields: each field of each element. -/
theorem open_rows {t e : TypeId} {fs : Array Field} {fuel : Nat} {cs : List Value} {x : DataW H × List MemPlace} (ht : P.underlying t = some (.slice e)) (he : P.underlying e = some (.struct fs))
    (hone : oneCellFields P fs = true) (hC : P.cellsOf e = fs.size) (h : DataW.trod enc P w base spare held fuel t cs = some x) :
    cs = [.slice none 0 0] ∨
    ∃ (a : Addr) (len cap : Nat), cs = [.slice (some a) len cap] ∧ len ≤ cap ∧ cap ≤ maxLen ∧
      ∀ i, i < len → ∀ (j : Nat) (f : Field), fs[j]? = some f → ∃ (v : Value) (y : DataW H × List MemPlace) (n : Nat), w.cell? (a.add (i * fs.size + j)) = some v ∧ DataW.trod enc P w base spare held n f.type [v] = some y := by
  rcases open_slice ht h with h0 | ⟨a, len, cap, m, n, D, Pl, hcs, hb, hl, hm, hmm, hx, hi⟩
  · exact .inl h0.1
  · refine .inr ⟨a, len, cap, hcs, hl, hm, fun i hil j f hj => ?_⟩
    have him : i < m := by rw [hmm]; split <;> omega
    obtain ⟨cs', hc, ht'⟩ := hi i him
    rw [hC] at hc
    obtain ⟨ys, n', hn', hy, hlen, hyl, hf⟩ := DataW.trod_struct he ht'
    obtain ⟨_, hcl, hat⟩ := World.cells?_some hc
    obtain ⟨ho, hk⟩ := hone_of hone j f hj
    have hjl : j < fs.size := (Array.getElem?_eq_some_iff.1 hj).1
    have hcell := hat j hjl
    have hv : cs'[j]? = some (cs'[j]'(by omega)) := List.getElem?_eq_getElem (by omega)
    have h1 := hf j f hj
    rw [ho, hk] at h1
    have hone' : (cs'.drop j).take 1 = [cs'[j]'(by omega)] := by
      rw [List.drop_eq_getElem_cons (by omega)]
      rfl
    rw [hone'] at h1
    have hys : ys[j]? = some (ys[j]'(by omega)) := List.getElem?_eq_getElem (by omega)
    refine ⟨_, _, _, ?_, h1.trans hys⟩
    rw [← Go.Deep.add_add, hcell, hv]
end

theorem cell_lt {w : World} {a : Addr} {v : Value} (h : w.cell? a = some v) : a.block < w.heap.size := by
  cases hb : w.heap[a.block]? with
  | none => simp [World.cell?, hb] at h
  | some o => exact (Array.getElem?_eq_some_iff.1 hb).1

/-- A node out of six cells. -/
theorem nd_of {H : Type} {enc : TypeId × Value → H} {w : World} {base : Nat} {spare : Nat → Bool} {held : Bool} {a : Addr}
    (h : ∀ (j : Nat) (t : TypeId), ([9, 4, 3, 3, 3, 9] : List TypeId)[j]? = some t → ∃ (v : Value) (y : DataW H × List MemPlace) (n : Nat), w.cell? (a.add j) = some v ∧ DataW.trod enc Tryz.prog w base spare held n t [v] = some y) :
    ∃ nd : Nd, NdIn w a nd ∧ nd.path.length ≤ maxLen ∧ nd.data.length ≤ maxLen := by
  obtain ⟨v0, y0, n0, c0, t0⟩ := h 0 _ rfl
  obtain ⟨v1, y1, n1, c1, t1⟩ := h 1 _ rfl
  obtain ⟨v2, y2, n2, c2, t2⟩ := h 2 _ rfl
  obtain ⟨v3, y3, n3, c3, t3⟩ := h 3 _ rfl
  obtain ⟨v4, y4, n4, c4, t4⟩ := h 4 _ rfl
  obtain ⟨v5, y5, n5, c5, t5⟩ := h 5 _ rfl
  obtain ⟨s0, e0, _, z0⟩ := DataW.trod_string Tryz.underlying9 t0
  obtain ⟨b1, e1, _⟩ := DataW.trod_bool Tryz.underlying4 t1
  obtain ⟨i2, e2, _⟩ := DataW.trod_int Tryz.underlying3 t2
  obtain ⟨i3, e3, _⟩ := DataW.trod_int Tryz.underlying3 t3
  obtain ⟨i4, e4, _⟩ := DataW.trod_int Tryz.underlying3 t4
  obtain ⟨s5, e5, _, z5⟩ := DataW.trod_string Tryz.underlying9 t5
  simp only [List.cons.injEq, and_true] at e0 e1 e2 e3 e4 e5
  subst e0 e1 e2 e3 e4 e5
  refine ⟨⟨s0.data.toList, b1, i2, i3, i4, s5.data.toList⟩, fun j v hj => ?_, by simpa using z0, by simpa using z5⟩
  match j, hj with
  | 0, hj => cases hj; rw [c0]; cases s0; simp [strOf]
  | 1, hj => cases hj; exact c1
  | 2, hj => cases hj; exact c2
  | 3, hj => cases hj; exact c3
  | 4, hj => cases hj; exact c4
  | 5, hj => cases hj; rw [c5]; cases s5; simp [strOf]
  | j + 6, hj => simp [nodeVals] at hj

/-- A list of what each number has. -/
theorem list_of {α : Type} {n : Nat} {R : Nat → α → Prop} (h : ∀ i, i < n → ∃ x, R i x) : ∃ l : List α, l.length = n ∧ ∀ i (hi : i < l.length), R i l[i] := by
  induction n with
  | zero => exact ⟨[], rfl, fun i hi => by simp at hi⟩
  | succ n ih =>
    obtain ⟨l, hl, hr⟩ := ih fun i hi => h i (by omega)
    obtain ⟨x, hx⟩ := h n (by omega)
    refine ⟨l ++ [x], by simp [hl], fun i hi => ?_⟩
    rw [List.getElem_append]
    split
    · next hlt => exact hr i hlt
    · next hge =>
      have : i = n := by simp at hi; omega
      subst this; simpa using hx

set_option maxRecDepth 100000 in
theorem open_tree {H : Type} {enc : TypeId × Value → H} {w : World} {base : Nat} {spare : Nat → Bool} {held : Bool} {r : Reach} {b0 : Nat} {v : Value} {dt : DataW H} {p : List MemPlace}
    (hv : Value.okWide Tryz.prog w r b0 56 v) (hr : DataW.Trod enc Tryz.prog w base spare held 56 v dt p) :
    ∃ (a : Option Addr) (len cap : Nat) (ns : List Nd) (next : Int), v = .agg #[.slice a len cap, .int .i64 next] ∧ NIn w a len cap ns ∧ (Lit.int .i64 next).wf = true := by
  obtain ⟨⟨l⟩, rfl, hsz⟩ := okWide_struct Tryz.underlying56 hv
  have hl2 : l.length = 2 := hsz.trans (by kernel_rfl)
  obtain ⟨c0, c1, rfl⟩ : ∃ c0 c1, l = [c0, c1] := by
    match l, hl2 with
    | [a, b], _ => exact ⟨a, b, rfl⟩
  obtain ⟨fuel, hf⟩ := hr
  obtain ⟨xs, n, _, hx, _, hlen, hg⟩ := DataW.trod_struct Tryz.underlying56 hf
  have one1 : Tryz.prog.cellsOf 3 = 1 := by kernel_rfl
  have one0 : Tryz.prog.cellsOf 54 = 1 := by kernel_rfl
  have xl : xs.length = 2 := hlen
  obtain ⟨y0, y1, rfl⟩ : ∃ y0 y1, xs = [y0, y1] := by
    match xs, xl with
    | [a, b], _ => exact ⟨a, b, rfl⟩
  have h0 : DataW.trod enc Tryz.prog w base spare held n 54 [c0] = some y0 := by simpa [Value.cells, one0] using hg 0 _ rfl
  have h1 : DataW.trod enc Tryz.prog w base spare held n 3 [c1] = some y1 := by simpa [Value.cells, one0, one1] using hg 1 _ rfl
  obtain ⟨z1, e1, _, w1⟩ := DataW.trod_int Tryz.underlying3 h1
  simp only [List.cons.injEq, and_true] at e1
  subst e1
  rcases open_rows Tryz.underlying54 Tryz.underlying155 (by kernel_rfl) (by kernel_rfl) h0 with e0 | ⟨x, len, cap, e0, hlc, hcm, hi⟩
  · simp only [List.cons.injEq, and_true] at e0
    subst e0
    exact ⟨none, 0, 0, [], z1, rfl, .inl ⟨rfl, rfl, rfl, rfl⟩, w1⟩
  · simp only [List.cons.injEq, and_true] at e0
    subst e0
    obtain ⟨ns, hl, hr⟩ := list_of (R := fun i nd => NdIn w (x.add (i * 6)) nd ∧ nd.path.length ≤ maxLen ∧ nd.data.length ≤ maxLen) (n := len) fun i hil => nd_of (enc := enc) (base := base) (spare := spare) (held := held) fun j t ht => by
      match j, ht with
      | 0, ht => cases ht; obtain ⟨v, y, n, hc, h⟩ := hi i hil 0 _ rfl; exact ⟨v, y, n, by rw [Go.Deep.add_add]; exact hc, h⟩
      | 1, ht => cases ht; obtain ⟨v, y, n, hc, h⟩ := hi i hil 1 _ rfl; exact ⟨v, y, n, by rw [Go.Deep.add_add]; exact hc, h⟩
      | 2, ht => cases ht; obtain ⟨v, y, n, hc, h⟩ := hi i hil 2 _ rfl; exact ⟨v, y, n, by rw [Go.Deep.add_add]; exact hc, h⟩
      | 3, ht => cases ht; obtain ⟨v, y, n, hc, h⟩ := hi i hil 3 _ rfl; exact ⟨v, y, n, by rw [Go.Deep.add_add]; exact hc, h⟩
      | 4, ht => cases ht; obtain ⟨v, y, n, hc, h⟩ := hi i hil 4 _ rfl; exact ⟨v, y, n, by rw [Go.Deep.add_add]; exact hc, h⟩
      | 5, ht => cases ht; obtain ⟨v, y, n, hc, h⟩ := hi i hil 5 _ rfl; exact ⟨v, y, n, by rw [Go.Deep.add_add]; exact hc, h⟩
      | j + 6, ht => simp at ht
    refine ⟨some x, len, cap, ns, z1, rfl, .inr ⟨x, rfl, hlc, hcm, hl, fun hn => ?_, fun n hn => ?_, fun i hi => (hr i hi).1⟩, w1⟩
    · cases ns with
      | nil => exact absurd rfl hn
      | cons nd r =>
        have hc := ((hr 0 (by simp)).1).cells.1
        have := cell_lt hc
        rwa [add_block] at this
    · obtain ⟨i, hi, rfl⟩ := List.getElem_of_mem hn
      exact (hr i hi).2
end Go.Proofs.YtipedabppgbfcaaGreatDoor
namespace Go.Proofs.YtipedabppgbfcaaGreatDoor
open Go.RowKit Go.ChangeShapes Go.WideShapes Go.Deep

def opVals (o : Ov) : List Value := [.int .i64 o.kind, .string (strOf o.path), .string (strOf o.dest), .string (strOf o.data), .int .i64 o.mode, .int .i64 o.time]
/-- What is known of an op that came in. -/
structure Ov.Wf (o : Ov) : Prop where
  path : o.path.length ≤ maxLen
  dest : o.dest.length ≤ maxLen
  data : o.data.length ≤ maxLen
def szO (o : Ov) : Nat := o.path.length + o.dest.length + o.data.length

set_option maxRecDepth 100000 in
theorem open_op {H : Type} {enc : TypeId × Value → H} {w : World} {base : Nat} {spare : Nat → Bool} {held : Bool} {r : Reach} {b0 : Nat} {v : Value} {dt : DataW H} {p : List MemPlace}
    (hv : Value.okWide Tryz.prog w r b0 57 v) (hr : DataW.Trod enc Tryz.prog w base spare held 57 v dt p) :
    ∃ o : Ov, v = .agg #[.int .i64 o.kind, .string (strOf o.path), .string (strOf o.dest), .string (strOf o.data), .int .i64 o.mode, .int .i64 o.time] ∧ o.Wf := by
  obtain ⟨⟨l⟩, rfl, hsz⟩ := okWide_struct Tryz.underlying57 hv
  have hl6 : l.length = 6 := hsz.trans (by kernel_rfl)
  obtain ⟨c0, c1, c2, c3, c4, c5, rfl⟩ : ∃ c0 c1 c2 c3 c4 c5, l = [c0, c1, c2, c3, c4, c5] := by
    match l, hl6 with
    | [a, b, c, d, e, f], _ => exact ⟨a, b, c, d, e, f, rfl⟩
  obtain ⟨fuel, hf⟩ := hr
  obtain ⟨xs, n, _, hx, _, hlen, hg⟩ := DataW.trod_struct Tryz.underlying57 hf
  have one1 : Tryz.prog.cellsOf 3 = 1 := by kernel_rfl
  have one0 : Tryz.prog.cellsOf 9 = 1 := by kernel_rfl
  have xl : xs.length = 6 := hlen
  obtain ⟨y0, y1, y2, y3, y4, y5, rfl⟩ : ∃ y0 y1 y2 y3 y4 y5, xs = [y0, y1, y2, y3, y4, y5] := by
    match xs, xl with
    | [a, b, c, d, e, f], _ => exact ⟨a, b, c, d, e, f, rfl⟩
  have h0 : DataW.trod enc Tryz.prog w base spare held n 3 [c0] = some y0 := by simpa [Value.cells, one1] using hg 0 _ rfl
  have h1 : DataW.trod enc Tryz.prog w base spare held n 9 [c1] = some y1 := by simpa [Value.cells, one0, one1] using hg 1 _ rfl
  have h2 : DataW.trod enc Tryz.prog w base spare held n 9 [c2] = some y2 := by simpa [Value.cells, one0, one1] using hg 2 _ rfl
  have h3 : DataW.trod enc Tryz.prog w base spare held n 9 [c3] = some y3 := by simpa [Value.cells, one0, one1] using hg 3 _ rfl
  have h4 : DataW.trod enc Tryz.prog w base spare held n 3 [c4] = some y4 := by simpa [Value.cells, one0, one1] using hg 4 _ rfl
  have h5 : DataW.trod enc Tryz.prog w base spare held n 3 [c5] = some y5 := by simpa [Value.cells, one0, one1] using hg 5 _ rfl
  obtain ⟨z0, e0, _, _⟩ := DataW.trod_int Tryz.underlying3 h0
  obtain ⟨z1, e1, _, w1⟩ := DataW.trod_string Tryz.underlying9 h1
  obtain ⟨z2, e2, _, w2⟩ := DataW.trod_string Tryz.underlying9 h2
  obtain ⟨z3, e3, _, w3⟩ := DataW.trod_string Tryz.underlying9 h3
  obtain ⟨z4, e4, _, _⟩ := DataW.trod_int Tryz.underlying3 h4
  obtain ⟨z5, e5, _, _⟩ := DataW.trod_int Tryz.underlying3 h5
  simp only [List.cons.injEq, and_true] at e0 e1 e2 e3 e4 e5
  subst e0 e1 e2 e3 e4 e5
  have sb : ∀ s : ByteArray, strOf s.data.toList = s := fun s => by cases s; simp [strOf]
  refine ⟨⟨z0, z1.data.toList, z2.data.toList, z3.data.toList, z4, z5⟩, ?_, ⟨by simpa using w1, by simpa using w2, by simpa using w3⟩⟩
  simp only [sb]

set_option maxRecDepth 100000 in
set_option maxHeartbeats 1000000 in
theorem toOp (o : Ov) (w : World) :
    Calls Tryz.prog 40 #[.agg #[.int .i64 o.kind, .string (strOf o.path), .string (strOf o.dest), .string (strOf o.data), .int .i64 o.mode, .int .i64 o.time]] w fun e w' => e = .returned (.agg #[.int .i64 o.kind, .string (strOf o.path), .string (strOf o.dest), .string (strOf o.data), .int .i64 o.mode, .int .i64 o.time]) ∧ Below w.heap.size w w' := by
  go_enter Tryz.func40, Tryz.ntmps40
  go_wp2
  refine bodyPost_ret (v := .agg #[.int .i64 o.kind, .string (strOf o.path), .string (strOf o.dest), .string (strOf o.data), .int .i64 o.mode, .int .i64 o.time]) (by simp [results, Tryz.results40, go_sem]) rfl ⟨rfl, ?_⟩
  repeat (first | exact Below.refl _ _ | refine Below.alloc ?_ (by simp <;> omega) _ | refine Below.setCell ?_ (by simp) _)

set_option maxRecDepth 100000 in
set_option maxHeartbeats 2000000 in
theorem szOp (o : Ov) (hw : o.Wf) (left : Int) (w : World) (h0 : 0 ≤ left) (h1 : left ≤ 1048576) :
    Calls Tryz.prog 38 #[.agg #[.int .i64 o.kind, .string (strOf o.path), .string (strOf o.dest), .string (strOf o.data), .int .i64 o.mode, .int .i64 o.time], .int .i64 left] w fun e w' => e = .returned (.int .i64 (leftV left (szO o))) ∧ Below w.heap.size w w' := by
  obtain ⟨h2, h3, h4⟩ := hw
  have e1 := strOf_size o.path
  have e2 := strOf_size o.dest
  have e3 := strOf_size o.data
  unfold maxLen at h2 h3 h4
  unfold szO
  generalize strOf o.path = p at e1
  generalize strOf o.dest = q at e2
  generalize strOf o.data = d at e3
  rw [← e1, ← e2, ← e3]
  have h2' : p.size ≤ 9223372036854775807 := by omega
  have h3' : q.size ≤ 9223372036854775807 := by omega
  have h4' : d.size ≤ 9223372036854775807 := by omega
  clear e1 e2 e3 h2 h3 h4
  by_cases c1 : (p.size : Int) ≤ left
  rotate_left
  · have d1 : left - (p.size : Int) < 0 := by omega
    go_enter Tryz.func38, Tryz.ntmps38
    go_wp2
    go_ret
    exact ⟨ret_int (by rw [leftV_out (by omega)]), (Below.refl _ _).alloc (Nat.le_refl _) _⟩
  have d1 : ¬ left - (p.size : Int) < 0 := by omega
  by_cases c2 : (q.size : Int) ≤ left - p.size
  rotate_left
  · have d2 : left - (p.size : Int) - q.size < 0 := by omega
    go_enter Tryz.func38, Tryz.ntmps38
    go_wp2
    go_ret
    exact ⟨ret_int (by rw [leftV_out (by omega)]), (Below.refl _ _).alloc (Nat.le_refl _) _⟩
  have d2 : ¬ left - (p.size : Int) - q.size < 0 := by omega
  by_cases c3 : (d.size : Int) ≤ left - p.size - q.size
  rotate_left
  · have d3 : left - (p.size : Int) - q.size - d.size < 0 := by omega
    go_enter Tryz.func38, Tryz.ntmps38
    go_wp2
    go_ret
    exact ⟨ret_int (by rw [leftV_out (by omega)]), (Below.refl _ _).alloc (Nat.le_refl _) _⟩
  have d3 : ¬ left - (p.size : Int) - q.size - d.size < 0 := by omega
  go_enter Tryz.func38, Tryz.ntmps38
  go_wp2
  go_ret
  exact ⟨ret_int (by rw [leftV_in (by omega)]; omega), (Below.refl _ _).alloc (Nat.le_refl _) _⟩
end Go.Proofs.YtipedabppgbfcaaGreatDoor
