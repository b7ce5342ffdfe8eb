/- A block of cells of the call's own: what it holds, through other work. Rows of nodes, six cells each: own rows, and rows that are read. -/
import Derived.Test.YtipedabppgbfcaaGreatDoorK1
import Derived.Test.YtipedabppgbfcaaGreatDoorK3
import Derived.OwnWalk
import Derived.Laws.OwnMore
import Derived.Laws.AppendOwn
import Derived.Lib.QuietBelow
import Derived.Maps.AppendAt
import Derived.Shelf.SlicesQ.Load
set_option linter.all false
namespace Go.Proofs.YtipedabppgbfcaaGreatDoor
open Go.RowKit

/-- Block b holds these cells, none of them frozen. -/
structure Blk (W : World) (b : Nat) (cs : Array Value) (t : TypeId) : Prop where
  blk : W.heap[b]? = some (.cells cs t (0, 0))
theorem Blk.lt {W : World} {b : Nat} {cs : Array Value} {t : TypeId} (h : Blk W b cs t) : b < W.heap.size := (Array.getElem?_eq_some_iff.1 h.blk).1
theorem Blk.cell {W : World} {b : Nat} {cs : Array Value} {t : TypeId} (h : Blk W b cs t) (j : Nat) : W.cell? ⟨b, j, none⟩ = cs[j]? := by simp [World.cell?, h.blk]
theorem Blk.frozen {W : World} {b : Nat} {cs : Array Value} {t : TypeId} (h : Blk W b cs t) (j : Nat) : W.frozen? ⟨b, j, none⟩ = false := by simp [World.frozen?, h.blk]
theorem Blk.new (W : World) (cs : Array Value) (t : TypeId) : Blk (W.alloc (.cells cs t)) W.heap.size cs t := ⟨heap_alloc_new W _⟩
theorem Blk.alloc {W : World} {b : Nat} {cs : Array Value} {t : TypeId} (h : Blk W b cs t) (o : Obj) : Blk (W.alloc o) b cs t := ⟨(Below.heap_alloc W o b h.lt).trans h.blk⟩
theorem Blk.on {W W' : World} {b : Nat} {cs : Array Value} {t : TypeId} (h : Blk W b cs t) (hb : Below W.heap.size W W') : Blk W' b cs t := ⟨(hb.block b h.lt).trans h.blk⟩
theorem Blk.below {W W' : World} {b B : Nat} {cs : Array Value} {t : TypeId} (h : Blk W b cs t) (hb : Below B W W') (hB : b < B) : Blk W' b cs t := ⟨(hb.block b hB).trans h.blk⟩
theorem Blk.grown {W W' : World} {b : Nat} {row : Option Nat} {cs : Array Value} {t : TypeId} (h : Blk W b cs t) (hg : W.grownBy W' row) (hne : some b ≠ row) : Blk W' b cs t := ⟨(hg.block b h.lt hne).trans h.blk⟩
theorem Blk.drew {W : World} {b : Nat} {cs : Array Value} {t : TypeId} (h : Blk W b cs t) (n : Nat) : Blk (W.drewN n) b cs t := ⟨h.blk⟩
theorem Blk.other {W : World} {b : Nat} {cs : Array Value} {t : TypeId} (h : Blk W b cs t) (a : Addr) (v : Value) (hne : b ≠ a.block) : Blk (W.setCell a v) b cs t := ⟨(Below.heap_setCell W a v b hne).trans h.blk⟩
theorem Blk.set {W : World} {b : Nat} {cs : Array Value} {t : TypeId} (h : Blk W b cs t) (j : Nat) (v : Value) : Blk (W.setCell ⟨b, j, none⟩ v) b (cs.setIfInBounds j v) t := by
  refine ⟨?_⟩
  simp only [World.setCell, Array.getElem?_modify, if_true, h.blk]
  rfl
end Go.Proofs.YtipedabppgbfcaaGreatDoor
namespace Go.Proofs.YtipedabppgbfcaaGreatDoor
open Go.RowKit

def nodeVals (n : Nd) : List Value := [.string (strOf n.path), .bool n.dir, .int .i64 n.mode, .int .i64 n.time, .int .i64 n.id, .string (strOf n.data)]
def nodesVals (ns : List Nd) : List Value := ns.flatMap nodeVals
theorem nodesVals_cons (n : Nd) (ns : List Nd) : nodesVals (n :: ns) = nodeVals n ++ nodesVals ns := by simp [nodesVals]
theorem nodesVals_append (a b : List Nd) : nodesVals (a ++ b) = nodesVals a ++ nodesVals b := by simp [nodesVals]
theorem nodesVals_one (n : Nd) : nodesVals [n] = nodeVals n := by simp [nodesVals]
theorem nodesVals_len (ns : List Nd) : (nodesVals ns).length = ns.length * 6 := by
  induction ns with
  | nil => rfl
  | cons n r ih => rw [nodesVals_cons, List.length_append, ih]; simp [nodeVals]; omega
theorem nodesVals_at : ∀ (ns : List Nd) (i j : Nat) (hi : i < ns.length), j < 6 → (nodesVals ns)[i * 6 + j]? = (nodeVals ns[i])[j]?
  | n :: r, 0, j, _, hj => by
    rw [nodesVals_cons, List.getElem?_append_left (by simp [nodeVals]; omega)]
    simp
  | n :: r, i + 1, j, hi, hj => by
    rw [nodesVals_cons, List.getElem?_append_right (by simp [nodeVals]; omega)]
    have : (i + 1) * 6 + j - (nodeVals n).length = i * 6 + j := by simp [nodeVals]; omega
    rw [this, nodesVals_at r i j (by simpa using hi) hj]
    rfl
/-- Six stores. -/
def put6 (xs : List Value) (o : Nat) (n : Nd) : List Value := (((((xs.set o (.string (strOf n.path))).set (o + 1) (.bool n.dir)).set (o + 2) (.int .i64 n.mode)).set (o + 3) (.int .i64 n.time)).set (o + 4) (.int .i64 n.id)).set (o + 5) (.string (strOf n.data))
theorem put6_zero (n m : Nd) (xs : List Value) : put6 (nodeVals m ++ xs) 0 n = nodeVals n ++ xs := rfl
theorem put6_more (n m : Nd) (xs : List Value) (o : Nat) : put6 (nodeVals m ++ xs) (o + 6) n = nodeVals m ++ put6 xs o n := rfl
theorem put6_set : ∀ (ns : List Nd) (i : Nat) (n : Nd), i < ns.length → put6 (nodesVals ns) (i * 6) n = nodesVals (ns.set i n)
  | m :: r, 0, n, _ => by rw [nodesVals_cons, Nat.zero_mul, put6_zero, List.set_cons_zero, nodesVals_cons]
  | m :: r, i + 1, n, h => by
    rw [nodesVals_cons, show (i + 1) * 6 = i * 6 + 6 by omega, put6_more, put6_set r i n (by simpa using h), List.set_cons_succ, nodesVals_cons]

/-- Six cells hold a node. -/
structure NdAt (w : World) (g o : Nat) (n : Nd) : Prop where
  c0 : w.cell? ⟨g, o, none⟩ = some (.string (strOf n.path))
  c1 : w.cell? ⟨g, o + 1, none⟩ = some (.bool n.dir)
  c2 : w.cell? ⟨g, o + 2, none⟩ = some (.int .i64 n.mode)
  c3 : w.cell? ⟨g, o + 3, none⟩ = some (.int .i64 n.time)
  c4 : w.cell? ⟨g, o + 4, none⟩ = some (.int .i64 n.id)
  c5 : w.cell? ⟨g, o + 5, none⟩ = some (.string (strOf n.data))
theorem NdAt.on {w w' : World} {g o : Nat} {n : Nd} (h : NdAt w g o n) (hg : g < w.heap.size) (hb : Below w.heap.size w w') : NdAt w' g o n :=
  ⟨(hb.cell (p := ⟨g, o, none⟩) hg).trans h.c0, (hb.cell (p := ⟨g, o + 1, none⟩) hg).trans h.c1, (hb.cell (p := ⟨g, o + 2, none⟩) hg).trans h.c2, (hb.cell (p := ⟨g, o + 3, none⟩) hg).trans h.c3, (hb.cell (p := ⟨g, o + 4, none⟩) hg).trans h.c4, (hb.cell (p := ⟨g, o + 5, none⟩) hg).trans h.c5⟩
theorem NdAt.load {w : World} {g o : Nat} {n : Nd} (h : NdAt w g o n) : Sem.run Tryz.prog (loadCellsFrom ⟨g, o, none⟩ 0 6 #[]) w = .ok #[.string (strOf n.path), .bool n.dir, .int .i64 n.mode, .int .i64 n.time, .int .i64 n.id, .string (strOf n.data)] w :=
  run_loadCellsFrom_list Tryz.prog w ⟨g, o, none⟩ (nodeVals n) 6 rfl (fun j v hj => by
    rw [show (⟨g, o, none⟩ : Addr).add j = ⟨g, o + j, none⟩ by unfold Addr.add; split <;> simp_all]
    match j, hj with
    | 0, hj => cases hj; exact h.c0
    | 1, hj => cases hj; exact h.c1
    | 2, hj => cases hj; exact h.c2
    | 3, hj => cases hj; exact h.c3
    | 4, hj => cases hj; exact h.c4
    | 5, hj => cases hj; exact h.c5
    | j + 6, hj => simp [nodeVals] at hj)

/-- The slice v, whose row lies from block B on, holds these nodes. -/
def NRow (w : World) (B : Nat) (v : Value) (ns : List Nd) : Prop := w.ownsRow B 37 6 v ns.length (nodesVals ns)
theorem NRow.own {w : World} {B : Nat} {v : Value} {ns : List Nd} (h : NRow w B v ns) : w.ownsRow B 37 6 v ns.length (nodesVals ns) := h
theorem NRow.nil (w : World) (B : Nat) : NRow w B (.slice none 0 0) [] := World.ownsRow_nil _ _ _ _
theorem NRow.snoc {w : World} {B : Nat} {v : Value} {ns : List Nd} {n : Nd} (h : w.ownsRow B 37 6 v (ns.length + 1) (nodesVals ns ++ nodeVals n)) : NRow w B v (ns ++ [n]) := by
  unfold NRow
  rw [List.length_append, nodesVals_append, nodesVals_one]
  exact h
theorem owns_on6 {w w' : World} {B : Nat} {e : TypeId} {size : Nat} {v : Value} {n : Nat} {xs : List Value} (h : w.ownsRow B e size v n xs) (hb : Below w.heap.size w w') : w'.ownsRow B e size v n xs := by
  refine h.kept (row := none) ⟨hb.os, hb.tape, hb.output, hb.size, fun k hk _ => hb.block k hk⟩ ?_
  rcases h.2 with ⟨rfl, _⟩ | ⟨g, cap, cur, rfl, _⟩
  · exact .inl rfl
  · exact .inr (by simp [Value.ownBlock])
theorem NRow.on {w w' : World} {B : Nat} {v : Value} {ns : List Nd} (h : NRow w B v ns) (hb : Below w.heap.size w w') : NRow w' B v ns := owns_on6 h hb
theorem NRow.form {w : World} {B : Nat} {v : Value} {ns : List Nd} (h : NRow w B v ns) :
    (v = .slice none 0 0 ∧ ns = []) ∨ ∃ g cap, v = .slice (some ⟨g, 0, none⟩) ns.length cap ∧ B ≤ g ∧ g < w.heap.size ∧ (∀ i (hi : i < ns.length), NdAt w g (i * 6) ns[i]) ∧ (∀ j, w.frozen? ⟨g, j, none⟩ = false) ∧ ns.length ≤ cap ∧ cap ≤ maxLen := by
  have h' : w.ownsRow B 37 6 v ns.length (nodesVals ns) := h
  rcases h.2 with ⟨hv, hn⟩ | ⟨g, cap, cur, hv, hb, hg, hc, hm, hs, ht⟩
  · exact .inl ⟨hv, List.eq_nil_of_length_eq_zero hn⟩
  · subst hv
    refine .inr ⟨g, cap, rfl, hb, (Array.getElem?_eq_some_iff.1 hg).1, fun i hi => ?_, fun j => World.ownsRow.frozenAt h' j, hc, hm⟩
    have hat : ∀ j, j < 6 → w.cell? ⟨g, i * 6 + j, none⟩ = (nodeVals ns[i])[j]? := fun j hj => by
      rw [World.ownsRow.cellAt h' (i * 6 + j) (by omega), nodesVals_at ns i j hi hj]
    exact ⟨hat 0 (by omega), hat 1 (by omega), hat 2 (by omega), hat 3 (by omega), hat 4 (by omega), hat 5 (by omega)⟩
theorem owns_base {w : World} {B B' : Nat} {e : TypeId} {size : Nat} {v : Value} {n : Nat} {xs : List Value} (h : w.ownsRow B e size v n xs) (hB : B' ≤ B) : w.ownsRow B' e size v n xs := by
  refine ⟨h.1, ?_⟩
  rcases h.2 with h | ⟨g, cap, cur, hv, hb, rest⟩
  · exact .inl h
  · exact .inr ⟨g, cap, cur, hv, Nat.le_trans hB hb, rest⟩
theorem owns_other {w : World} {B : Nat} {e : TypeId} {size : Nat} {v : Value} {n : Nat} {xs : List Value} (h : w.ownsRow B e size v n xs) (a : Addr) (u : Value) (ha : a.block < B) : (w.setCell a u).ownsRow B e size v n xs := by
  refine ⟨h.1, ?_⟩
  rcases h.2 with h | ⟨g, cap, cur, hv, hb, hg, rest⟩
  · exact .inl h
  · exact .inr ⟨g, cap, cur, hv, hb, (Below.heap_setCell w a u g (by omega)).trans hg, rest⟩
theorem NRow.base {w : World} {B B' : Nat} {v : Value} {ns : List Nd} (h : NRow w B v ns) (hB : B' ≤ B) : NRow w B' v ns := owns_base h hB
theorem NRow.other {w : World} {B : Nat} {v : Value} {ns : List Nd} (h : NRow w B v ns) (a : Addr) (u : Value) (ha : a.block < B) : NRow (w.setCell a u) B v ns := owns_other h a u ha
theorem NRow.shape {w : World} {B : Nat} {v : Value} {ns : List Nd} (h : NRow w B v ns) : ∃ a cap, v = .slice a ns.length cap := by
  rcases h.form with ⟨rfl, rfl⟩ | ⟨g, cap, rfl, _⟩
  · exact ⟨_, _, rfl⟩
  · exact ⟨_, _, rfl⟩
theorem NRow.len {w : World} {B g n cap : Nat} {ns : List Nd} (h : NRow w B (.slice (some ⟨g, 0, none⟩) n cap) ns) : n = ns.length := by
  rcases h.2 with ⟨hv, _⟩ | ⟨g', cap', cur, hv, _⟩
  · cases hv
  · cases hv; rfl
/-- Six stores into a row. -/
theorem NRow.put {w : World} {B g cap : Nat} {ns : List Nd} (h : NRow w B (.slice (some ⟨g, 0, none⟩) ns.length cap) ns) (i : Nat) (hi : i < ns.length) (n : Nd) :
    NRow ((((((w.setCell ⟨g, i * 6, none⟩ (.string (strOf n.path))).setCell ⟨g, i * 6 + 1, none⟩ (.bool n.dir)).setCell ⟨g, i * 6 + 2, none⟩ (.int .i64 n.mode)).setCell ⟨g, i * 6 + 3, none⟩ (.int .i64 n.time)).setCell ⟨g, i * 6 + 4, none⟩ (.int .i64 n.id)).setCell ⟨g, i * 6 + 5, none⟩ (.string (strOf n.data))) B (.slice (some ⟨g, 0, none⟩) ns.length cap) (ns.set i n) := by
  have h0 := (World.ownsRow.stored h (i * 6) (.string (strOf n.path))).1
  have h1 := (World.ownsRow.stored h0 (i * 6 + 1) (.bool n.dir)).1
  have h2 := (World.ownsRow.stored h1 (i * 6 + 2) (.int .i64 n.mode)).1
  have h3 := (World.ownsRow.stored h2 (i * 6 + 3) (.int .i64 n.time)).1
  have h4 := (World.ownsRow.stored h3 (i * 6 + 4) (.int .i64 n.id)).1
  have h5 := (World.ownsRow.stored h4 (i * 6 + 5) (.string (strOf n.data))).1
  unfold NRow
  rw [List.length_set, ← put6_set ns i n hi]
  exact h5

/-- The slice v reads as these nodes. -/
def NRd (w : World) (v : Value) (ns : List Nd) : Prop :=
  ∃ a cap, v = .slice a ns.length cap ∧ ns.length ≤ cap ∧ cap ≤ maxLen ∧ (ns = [] ∨ ∃ g, a = some ⟨g, 0, none⟩ ∧ g < w.heap.size ∧ ∀ i (hi : i < ns.length), NdAt w g (i * 6) ns[i])
theorem NRow.rd {w : World} {B : Nat} {v : Value} {ns : List Nd} (h : NRow w B v ns) : NRd w v ns := by
  rcases h.form with ⟨rfl, rfl⟩ | ⟨g, cap, rfl, _, hg, hc, _, hl, hm⟩
  · exact ⟨none, 0, rfl, Nat.le_refl _, Nat.zero_le _, .inl rfl⟩
  · exact ⟨_, cap, rfl, hl, hm, .inr ⟨g, rfl, hg, hc⟩⟩
theorem NRd.on {w w' : World} {v : Value} {ns : List Nd} (h : NRd w v ns) (hb : Below w.heap.size w w') : NRd w' v ns := by
  obtain ⟨a, cap, hv, hl, hm, h⟩ := h
  refine ⟨a, cap, hv, hl, hm, ?_⟩
  rcases h with h | ⟨g, ha, hg, hc⟩
  · exact .inl h
  · exact .inr ⟨g, ha, Nat.lt_of_lt_of_le hg hb.size, fun i hi => (hc i hi).on hg hb⟩
theorem NRd.at {w : World} {v : Value} {ns : List Nd} (h : NRd w v ns) (hn : ns ≠ []) : ∃ g cap, v = .slice (some ⟨g, 0, none⟩) ns.length cap ∧ g < w.heap.size ∧ ns.length ≤ cap ∧ cap ≤ maxLen ∧ ∀ i (hi : i < ns.length), NdAt w g (i * 6) ns[i] := by
  obtain ⟨a, cap, hv, hl, hm, h⟩ := h
  rcases h with h | ⟨g, rfl, hg, hc⟩
  · exact absurd h hn
  · exact ⟨g, cap, hv, hg, hl, hm, hc⟩
end Go.Proofs.YtipedabppgbfcaaGreatDoor
