/- A tree that comes in by value: a slice of nodes and a number; what is known of it, and that it reads so again. -/
import Derived.Test.YtipepbnmllbonaaDoorTreeFind
import Derived.ChangeSame
import Derived.ChangeArms
import Derived.Deep.Slices
import Derived.Deep.Fields
import Derived.WideShapes
namespace Go.Proofs.YtipepbnmllbonaaDoor
open Go.RowKit Go.ChangeShapes Go.WideShapes Go.Deep

section
variable {H : Type} {enc : TypeId × Value → H} {P : Program} {w : World} {base : Nat} {spare : Nat → Bool} {held : Bool}
/-- A slice of structs of one-cell fields: each field of each element. -/
theorem open_rows {t e : TypeId} {fs : Array Field} {fuel : Nat} {cs : List Value} {x : DataW H × List MemPlace} (ht : P.underlying t = some (.slice e)) (he : P.underlying e = some (.struct fs))
    (hone : oneCellFields P fs = true) (hC : P.cellsOf e = fs.size) (h : DataW.trod enc P w base spare held fuel t cs = some x) :
    cs = [.slice none 0 0] ∨
    ∃ (a : Addr) (len cap : Nat), cs = [.slice (some a) len cap] ∧ len ≤ cap ∧ cap ≤ maxLen ∧
      ∀ i, i < len → ∀ (j : Nat) (f : Field), fs[j]? = some f → ∃ (v : Value) (y : DataW H × List MemPlace) (n : Nat), w.cell? (a.add (i * fs.size + j)) = some v ∧ DataW.trod enc P w base spare held n f.type [v] = some y := by
  rcases open_slice ht h with h0 | ⟨a, len, cap, m, n, D, Pl, hcs, hb, hl, hm, hmm, hx, hi⟩
  · exact .inl h0.1
  · refine .inr ⟨a, len, cap, hcs, hl, hm, fun i hil j f hj => ?_⟩
    have him : i < m := by rw [hmm]; split <;> omega
    obtain ⟨cs', hc, ht'⟩ := hi i him
    rw [hC] at hc
    obtain ⟨ys, n', hn', hy, hlen, hyl, hf⟩ := DataW.trod_struct he ht'
    obtain ⟨_, hcl, hat⟩ := World.cells?_some hc
    obtain ⟨ho, hk⟩ := hone_of hone j f hj
    have hjl : j < fs.size := (Array.getElem?_eq_some_iff.1 hj).1
    have hcell := hat j hjl
    have hv : cs'[j]? = some (cs'[j]'(by omega)) := List.getElem?_eq_getElem (by omega)
    have h1 := hf j f hj
    rw [ho, hk] at h1
    have hone' : (cs'.drop j).take 1 = [cs'[j]'(by omega)] := by
      rw [List.drop_eq_getElem_cons (by omega)]
      rfl
    rw [hone'] at h1
    have hys : ys[j]? = some (ys[j]'(by omega)) := List.getElem?_eq_getElem (by omega)
    refine ⟨_, _, _, ?_, h1.trans hys⟩
    rw [← Go.Deep.add_add, hcell, hv]
end

theorem cell_lt {w : World} {a : Addr} {v : Value} (h : w.cell? a = some v) : a.block < w.heap.size := by
  cases hb : w.heap[a.block]? with
  | none => simp [World.cell?, hb] at h
  | some o => exact (Array.getElem?_eq_some_iff.1 hb).1

/-- A node out of six cells. -/
theorem nd_of {H : Type} {enc : TypeId × Value → H} {w : World} {base : Nat} {spare : Nat → Bool} {held : Bool} {a : Addr}
    (h : ∀ (j : Nat) (t : TypeId), ([9, 4, 3, 3, 3, 9] : List TypeId)[j]? = some t → ∃ (v : Value) (y : DataW H × List MemPlace) (n : Nat), w.cell? (a.add j) = some v ∧ DataW.trod enc Tryd.prog w base spare held n t [v] = some y) :
    ∃ nd : Nd, NdIn w a nd ∧ nd.path.length ≤ maxLen ∧ nd.data.length ≤ maxLen := by
  obtain ⟨v0, y0, n0, c0, t0⟩ := h 0 _ rfl
  obtain ⟨v1, y1, n1, c1, t1⟩ := h 1 _ rfl
  obtain ⟨v2, y2, n2, c2, t2⟩ := h 2 _ rfl
  obtain ⟨v3, y3, n3, c3, t3⟩ := h 3 _ rfl
  obtain ⟨v4, y4, n4, c4, t4⟩ := h 4 _ rfl
  obtain ⟨v5, y5, n5, c5, t5⟩ := h 5 _ rfl
  obtain ⟨s0, e0, _, z0⟩ := DataW.trod_string Tryd.underlying9 t0
  obtain ⟨b1, e1, _⟩ := DataW.trod_bool Tryd.underlying4 t1
  obtain ⟨i2, e2, _⟩ := DataW.trod_int Tryd.underlying3 t2
  obtain ⟨i3, e3, _⟩ := DataW.trod_int Tryd.underlying3 t3
  obtain ⟨i4, e4, _⟩ := DataW.trod_int Tryd.underlying3 t4
  obtain ⟨s5, e5, _, z5⟩ := DataW.trod_string Tryd.underlying9 t5
  simp only [List.cons.injEq, and_true] at e0 e1 e2 e3 e4 e5
  subst e0 e1 e2 e3 e4 e5
  refine ⟨⟨s0.data.toList, b1, i2, i3, i4, s5.data.toList⟩, fun j v hj => ?_, by simpa using z0, by simpa using z5⟩
  match j, hj with
  | 0, hj => cases hj; rw [c0]; cases s0; simp [strOf]
  | 1, hj => cases hj; exact c1
  | 2, hj => cases hj; exact c2
  | 3, hj => cases hj; exact c3
  | 4, hj => cases hj; exact c4
  | 5, hj => cases hj; rw [c5]; cases s5; simp [strOf]
  | j + 6, hj => simp [nodeVals] at hj

/-- A list of what each number has. -/
theorem list_of {α : Type} {n : Nat} {R : Nat → α → Prop} (h : ∀ i, i < n → ∃ x, R i x) : ∃ l : List α, l.length = n ∧ ∀ i (hi : i < l.length), R i l[i] := by
  induction n with
  | zero => exact ⟨[], rfl, fun i hi => by simp at hi⟩
  | succ n ih =>
    obtain ⟨l, hl, hr⟩ := ih fun i hi => h i (by omega)
    obtain ⟨x, hx⟩ := h n (by omega)
    refine ⟨l ++ [x], by simp [hl], fun i hi => ?_⟩
    rw [List.getElem_append]
    split
    · next hlt => exact hr i hlt
    · next hge =>
      have : i = n := by simp at hi; omega
      subst this; simpa using hx

set_option maxRecDepth 100000 in
theorem open_tree {H : Type} {enc : TypeId × Value → H} {w : World} {base : Nat} {spare : Nat → Bool} {held : Bool} {r : Reach} {b0 : Nat} {v : Value} {dt : DataW H} {p : List MemPlace}
    (hv : Value.okWide Tryd.prog w r b0 24 v) (hr : DataW.Trod enc Tryd.prog w base spare held 24 v dt p) :
    ∃ (a : Option Addr) (len cap : Nat) (ns : List Nd) (next : Int), v = .agg #[.slice a len cap, .int .i64 next] ∧ NIn w a len cap ns ∧ (Lit.int .i64 next).wf = true := by
  obtain ⟨⟨l⟩, rfl, hsz⟩ := okWide_struct Tryd.underlying24 hv
  have hl2 : l.length = 2 := hsz.trans (by kernel_rfl)
  obtain ⟨c0, c1, rfl⟩ : ∃ c0 c1, l = [c0, c1] := by
    match l, hl2 with
    | [a, b], _ => exact ⟨a, b, rfl⟩
  obtain ⟨fuel, hf⟩ := hr
  obtain ⟨xs, n, _, hx, _, hlen, hg⟩ := DataW.trod_struct Tryd.underlying24 hf
  have one1 : Tryd.prog.cellsOf 3 = 1 := by kernel_rfl
  have one0 : Tryd.prog.cellsOf 22 = 1 := by kernel_rfl
  have xl : xs.length = 2 := hlen
  obtain ⟨y0, y1, rfl⟩ : ∃ y0 y1, xs = [y0, y1] := by
    match xs, xl with
    | [a, b], _ => exact ⟨a, b, rfl⟩
  have h0 : DataW.trod enc Tryd.prog w base spare held n 22 [c0] = some y0 := by simpa [Value.cells, one0] using hg 0 _ rfl
  have h1 : DataW.trod enc Tryd.prog w base spare held n 3 [c1] = some y1 := by simpa [Value.cells, one0, one1] using hg 1 _ rfl
  obtain ⟨z1, e1, _, w1⟩ := DataW.trod_int Tryd.underlying3 h1
  simp only [List.cons.injEq, and_true] at e1
  subst e1
  rcases open_rows Tryd.underlying22 Tryd.underlying55 (by kernel_rfl) (by kernel_rfl) h0 with e0 | ⟨x, len, cap, e0, hlc, hcm, hi⟩
  · simp only [List.cons.injEq, and_true] at e0
    subst e0
    exact ⟨none, 0, 0, [], z1, rfl, .inl ⟨rfl, rfl, rfl, rfl⟩, w1⟩
  · simp only [List.cons.injEq, and_true] at e0
    subst e0
    obtain ⟨ns, hl, hr⟩ := list_of (R := fun i nd => NdIn w (x.add (i * 6)) nd ∧ nd.path.length ≤ maxLen ∧ nd.data.length ≤ maxLen) (n := len) fun i hil => nd_of (enc := enc) (base := base) (spare := spare) (held := held) fun j t ht => by
      match j, ht with
      | 0, ht => cases ht; obtain ⟨v, y, n, hc, h⟩ := hi i hil 0 _ rfl; exact ⟨v, y, n, by rw [Go.Deep.add_add]; exact hc, h⟩
      | 1, ht => cases ht; obtain ⟨v, y, n, hc, h⟩ := hi i hil 1 _ rfl; exact ⟨v, y, n, by rw [Go.Deep.add_add]; exact hc, h⟩
      | 2, ht => cases ht; obtain ⟨v, y, n, hc, h⟩ := hi i hil 2 _ rfl; exact ⟨v, y, n, by rw [Go.Deep.add_add]; exact hc, h⟩
      | 3, ht => cases ht; obtain ⟨v, y, n, hc, h⟩ := hi i hil 3 _ rfl; exact ⟨v, y, n, by rw [Go.Deep.add_add]; exact hc, h⟩
      | 4, ht => cases ht; obtain ⟨v, y, n, hc, h⟩ := hi i hil 4 _ rfl; exact ⟨v, y, n, by rw [Go.Deep.add_add]; exact hc, h⟩
      | 5, ht => cases ht; obtain ⟨v, y, n, hc, h⟩ := hi i hil 5 _ rfl; exact ⟨v, y, n, by rw [Go.Deep.add_add]; exact hc, h⟩
      | j + 6, ht => simp at ht
    refine ⟨some x, len, cap, ns, z1, rfl, .inr ⟨x, rfl, hlc, hcm, hl, fun hn => ?_, fun n hn => ?_, fun i hi => (hr i hi).1⟩, w1⟩
    · cases ns with
      | nil => exact absurd rfl hn
      | cons nd r =>
        have hc := ((hr 0 (by simp)).1).cells.1
        have := cell_lt hc
        rwa [add_block] at this
    · obtain ⟨i, hi, rfl⟩ := List.getElem_of_mem hn
      exact (hr i hi).2
end Go.Proofs.YtipepbnmllbonaaDoor
