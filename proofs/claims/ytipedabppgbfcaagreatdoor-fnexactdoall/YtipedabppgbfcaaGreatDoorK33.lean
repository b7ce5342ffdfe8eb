/- Rows of ops, six cells each: as Nodes and NodeRows have it for nodes (written by tools/gen_oprows.py). Disks, plainly: what is right, what Put and Cut tell. -/
import Derived.Test.YtipedabppgbfcaaGreatDoorK20
import Derived.Test.YtipedabppgbfcaaGreatDoorK5
import Derived.Test.YtipedabppgbfcaaGreatDoorK8
set_option linter.all false
namespace Go.Proofs.YtipedabppgbfcaaGreatDoor.OpR
open Go.Proofs.YtipedabppgbfcaaGreatDoor Go.RowKit

def nodeVals (n : Ov) : List Value := [.int .i64 n.kind, .string (strOf n.path), .string (strOf n.dest), .string (strOf n.data), .int .i64 n.mode, .int .i64 n.time]
def nodesVals (ns : List Ov) : List Value := ns.flatMap nodeVals
theorem nodesVals_cons (n : Ov) (ns : List Ov) : nodesVals (n :: ns) = nodeVals n ++ nodesVals ns := by simp [nodesVals]
theorem nodesVals_append (a b : List Ov) : nodesVals (a ++ b) = nodesVals a ++ nodesVals b := by simp [nodesVals]
theorem nodesVals_one (n : Ov) : nodesVals [n] = nodeVals n := by simp [nodesVals]
theorem nodesVals_len (ns : List Ov) : (nodesVals ns).length = ns.length * 6 := by
  induction ns with
  | nil => rfl
  | cons n r ih => rw [nodesVals_cons, List.length_append, ih]; simp [nodeVals]; omega
theorem nodesVals_at : ∀ (ns : List Ov) (i j : Nat) (hi : i < ns.length), j < 6 → (nodesVals ns)[i * 6 + j]? = (nodeVals ns[i])[j]?
  | n :: r, 0, j, _, hj => by
    rw [nodesVals_cons, List.getElem?_append_left (by simp [nodeVals]; omega)]
    simp
  | n :: r, i + 1, j, hi, hj => by
    rw [nodesVals_cons, List.getElem?_append_right (by simp [nodeVals]; omega)]
    have : (i + 1) * 6 + j - (nodeVals n).length = i * 6 + j := by simp [nodeVals]; omega
    rw [this, nodesVals_at r i j (by simpa using hi) hj]
    rfl
/-- Six stores. -/
def put6 (xs : List Value) (o : Nat) (n : Ov) : List Value := (((((xs.set o (.int .i64 n.kind)).set (o + 1) (.string (strOf n.path))).set (o + 2) (.string (strOf n.dest))).set (o + 3) (.string (strOf n.data))).set (o + 4) (.int .i64 n.mode)).set (o + 5) (.int .i64 n.time)
theorem put6_zero (n m : Ov) (xs : List Value) : put6 (nodeVals m ++ xs) 0 n = nodeVals n ++ xs := rfl
theorem put6_more (n m : Ov) (xs : List Value) (o : Nat) : put6 (nodeVals m ++ xs) (o + 6) n = nodeVals m ++ put6 xs o n := rfl
theorem put6_set : ∀ (ns : List Ov) (i : Nat) (n : Ov), i < ns.length → put6 (nodesVals ns) (i * 6) n = nodesVals (ns.set i n)
  | m :: r, 0, n, _ => by rw [nodesVals_cons, Nat.zero_mul, put6_zero, List.set_cons_zero, nodesVals_cons]
  | m :: r, i + 1, n, h => by
    rw [nodesVals_cons, show (i + 1) * 6 = i * 6 + 6 by omega, put6_more, put6_set r i n (by simpa using h), List.set_cons_succ, nodesVals_cons]

/-- Six cells hold a node. -/
structure NdAt (w : World) (g o : Nat) (n : Ov) : Prop where
  c0 : w.cell? ⟨g, o, none⟩ = some (.int .i64 n.kind)
  c1 : w.cell? ⟨g, o + 1, none⟩ = some (.string (strOf n.path))
  c2 : w.cell? ⟨g, o + 2, none⟩ = some (.string (strOf n.dest))
  c3 : w.cell? ⟨g, o + 3, none⟩ = some (.string (strOf n.data))
  c4 : w.cell? ⟨g, o + 4, none⟩ = some (.int .i64 n.mode)
  c5 : w.cell? ⟨g, o + 5, none⟩ = some (.int .i64 n.time)
theorem NdAt.on {w w' : World} {g o : Nat} {n : Ov} (h : NdAt w g o n) (hg : g < w.heap.size) (hb : Below w.heap.size w w') : NdAt w' g o n :=
  ⟨(hb.cell (p := ⟨g, o, none⟩) hg).trans h.c0, (hb.cell (p := ⟨g, o + 1, none⟩) hg).trans h.c1, (hb.cell (p := ⟨g, o + 2, none⟩) hg).trans h.c2, (hb.cell (p := ⟨g, o + 3, none⟩) hg).trans h.c3, (hb.cell (p := ⟨g, o + 4, none⟩) hg).trans h.c4, (hb.cell (p := ⟨g, o + 5, none⟩) hg).trans h.c5⟩
theorem NdAt.load {w : World} {g o : Nat} {n : Ov} (h : NdAt w g o n) : Sem.run Tryz.prog (loadCellsFrom ⟨g, o, none⟩ 0 6 #[]) w = .ok #[.int .i64 n.kind, .string (strOf n.path), .string (strOf n.dest), .string (strOf n.data), .int .i64 n.mode, .int .i64 n.time] w :=
  run_loadCellsFrom_list Tryz.prog w ⟨g, o, none⟩ (nodeVals n) 6 rfl (fun j v hj => by
    rw [show (⟨g, o, none⟩ : Addr).add j = ⟨g, o + j, none⟩ by unfold Addr.add; split <;> simp_all]
    match j, hj with
    | 0, hj => cases hj; exact h.c0
    | 1, hj => cases hj; exact h.c1
    | 2, hj => cases hj; exact h.c2
    | 3, hj => cases hj; exact h.c3
    | 4, hj => cases hj; exact h.c4
    | 5, hj => cases hj; exact h.c5
    | j + 6, hj => simp [nodeVals] at hj)

/-- The slice v, whose row lies from block B on, holds these nodes. -/
def NRow (w : World) (B : Nat) (v : Value) (ns : List Ov) : Prop := w.ownsRow B 28 6 v ns.length (nodesVals ns)
theorem NRow.own {w : World} {B : Nat} {v : Value} {ns : List Ov} (h : NRow w B v ns) : w.ownsRow B 28 6 v ns.length (nodesVals ns) := h
theorem NRow.nil (w : World) (B : Nat) : NRow w B (.slice none 0 0) [] := World.ownsRow_nil _ _ _ _
theorem NRow.snoc {w : World} {B : Nat} {v : Value} {ns : List Ov} {n : Ov} (h : w.ownsRow B 28 6 v (ns.length + 1) (nodesVals ns ++ nodeVals n)) : NRow w B v (ns ++ [n]) := by
  unfold NRow
  rw [List.length_append, nodesVals_append, nodesVals_one]
  exact h
theorem owns_on6 {w w' : World} {B : Nat} {e : TypeId} {size : Nat} {v : Value} {n : Nat} {xs : List Value} (h : w.ownsRow B e size v n xs) (hb : Below w.heap.size w w') : w'.ownsRow B e size v n xs := by
  refine h.kept (row := none) ⟨hb.os, hb.tape, hb.output, hb.size, fun k hk _ => hb.block k hk⟩ ?_
  rcases h.2 with ⟨rfl, _⟩ | ⟨g, cap, cur, rfl, _⟩
  · exact .inl rfl
  · exact .inr (by simp [Value.ownBlock])
theorem NRow.on {w w' : World} {B : Nat} {v : Value} {ns : List Ov} (h : NRow w B v ns) (hb : Below w.heap.size w w') : NRow w' B v ns := owns_on6 h hb
theorem NRow.form {w : World} {B : Nat} {v : Value} {ns : List Ov} (h : NRow w B v ns) :
    (v = .slice none 0 0 ∧ ns = []) ∨ ∃ g cap, v = .slice (some ⟨g, 0, none⟩) ns.length cap ∧ B ≤ g ∧ g < w.heap.size ∧ (∀ i (hi : i < ns.length), NdAt w g (i * 6) ns[i]) ∧ (∀ j, w.frozen? ⟨g, j, none⟩ = false) ∧ ns.length ≤ cap ∧ cap ≤ maxLen := by
  have h' : w.ownsRow B 28 6 v ns.length (nodesVals ns) := h
  rcases h.2 with ⟨hv, hn⟩ | ⟨g, cap, cur, hv, hb, hg, hc, hm, hs, ht⟩
  · exact .inl ⟨hv, List.eq_nil_of_length_eq_zero hn⟩
  · subst hv
    refine .inr ⟨g, cap, rfl, hb, (Array.getElem?_eq_some_iff.1 hg).1, fun i hi => ?_, fun j => World.ownsRow.frozenAt h' j, hc, hm⟩
    have hat : ∀ j, j < 6 → w.cell? ⟨g, i * 6 + j, none⟩ = (nodeVals ns[i])[j]? := fun j hj => by
      rw [World.ownsRow.cellAt h' (i * 6 + j) (by omega), nodesVals_at ns i j hi hj]
    exact ⟨hat 0 (by omega), hat 1 (by omega), hat 2 (by omega), hat 3 (by omega), hat 4 (by omega), hat 5 (by omega)⟩
theorem owns_base {w : World} {B B' : Nat} {e : TypeId} {size : Nat} {v : Value} {n : Nat} {xs : List Value} (h : w.ownsRow B e size v n xs) (hB : B' ≤ B) : w.ownsRow B' e size v n xs := by
  refine ⟨h.1, ?_⟩
  rcases h.2 with h | ⟨g, cap, cur, hv, hb, rest⟩
  · exact .inl h
  · exact .inr ⟨g, cap, cur, hv, Nat.le_trans hB hb, rest⟩
theorem owns_other {w : World} {B : Nat} {e : TypeId} {size : Nat} {v : Value} {n : Nat} {xs : List Value} (h : w.ownsRow B e size v n xs) (a : Addr) (u : Value) (ha : a.block < B) : (w.setCell a u).ownsRow B e size v n xs := by
  refine ⟨h.1, ?_⟩
  rcases h.2 with h | ⟨g, cap, cur, hv, hb, hg, rest⟩
  · exact .inl h
  · exact .inr ⟨g, cap, cur, hv, hb, (Below.heap_setCell w a u g (by omega)).trans hg, rest⟩
theorem NRow.base {w : World} {B B' : Nat} {v : Value} {ns : List Ov} (h : NRow w B v ns) (hB : B' ≤ B) : NRow w B' v ns := owns_base h hB
theorem NRow.other {w : World} {B : Nat} {v : Value} {ns : List Ov} (h : NRow w B v ns) (a : Addr) (u : Value) (ha : a.block < B) : NRow (w.setCell a u) B v ns := owns_other h a u ha
theorem NRow.shape {w : World} {B : Nat} {v : Value} {ns : List Ov} (h : NRow w B v ns) : ∃ a cap, v = .slice a ns.length cap := by
  rcases h.form with ⟨rfl, rfl⟩ | ⟨g, cap, rfl, _⟩
  · exact ⟨_, _, rfl⟩
  · exact ⟨_, _, rfl⟩
theorem NRow.len {w : World} {B g n cap : Nat} {ns : List Ov} (h : NRow w B (.slice (some ⟨g, 0, none⟩) n cap) ns) : n = ns.length := by
  rcases h.2 with ⟨hv, _⟩ | ⟨g', cap', cur, hv, _⟩
  · cases hv
  · cases hv; rfl
/-- Six stores into a row. -/
theorem NRow.put {w : World} {B g cap : Nat} {ns : List Ov} (h : NRow w B (.slice (some ⟨g, 0, none⟩) ns.length cap) ns) (i : Nat) (hi : i < ns.length) (n : Ov) :
    NRow ((((((w.setCell ⟨g, i * 6, none⟩ (.int .i64 n.kind)).setCell ⟨g, i * 6 + 1, none⟩ (.string (strOf n.path))).setCell ⟨g, i * 6 + 2, none⟩ (.string (strOf n.dest))).setCell ⟨g, i * 6 + 3, none⟩ (.string (strOf n.data))).setCell ⟨g, i * 6 + 4, none⟩ (.int .i64 n.mode)).setCell ⟨g, i * 6 + 5, none⟩ (.int .i64 n.time)) B (.slice (some ⟨g, 0, none⟩) ns.length cap) (ns.set i n) := by
  have h0 := (World.ownsRow.stored h (i * 6) (.int .i64 n.kind)).1
  have h1 := (World.ownsRow.stored h0 (i * 6 + 1) (.string (strOf n.path))).1
  have h2 := (World.ownsRow.stored h1 (i * 6 + 2) (.string (strOf n.dest))).1
  have h3 := (World.ownsRow.stored h2 (i * 6 + 3) (.string (strOf n.data))).1
  have h4 := (World.ownsRow.stored h3 (i * 6 + 4) (.int .i64 n.mode)).1
  have h5 := (World.ownsRow.stored h4 (i * 6 + 5) (.int .i64 n.time)).1
  unfold NRow
  rw [List.length_set, ← put6_set ns i n hi]
  exact h5

/-- The slice v reads as these nodes. -/
def NRd (w : World) (v : Value) (ns : List Ov) : Prop :=
  ∃ a cap, v = .slice a ns.length cap ∧ ns.length ≤ cap ∧ cap ≤ maxLen ∧ (ns = [] ∨ ∃ g, a = some ⟨g, 0, none⟩ ∧ g < w.heap.size ∧ ∀ i (hi : i < ns.length), NdAt w g (i * 6) ns[i])
theorem NRow.rd {w : World} {B : Nat} {v : Value} {ns : List Ov} (h : NRow w B v ns) : NRd w v ns := by
  rcases h.form with ⟨rfl, rfl⟩ | ⟨g, cap, rfl, _, hg, hc, _, hl, hm⟩
  · exact ⟨none, 0, rfl, Nat.le_refl _, Nat.zero_le _, .inl rfl⟩
  · exact ⟨_, cap, rfl, hl, hm, .inr ⟨g, rfl, hg, hc⟩⟩
theorem NRd.on {w w' : World} {v : Value} {ns : List Ov} (h : NRd w v ns) (hb : Below w.heap.size w w') : NRd w' v ns := by
  obtain ⟨a, cap, hv, hl, hm, h⟩ := h
  refine ⟨a, cap, hv, hl, hm, ?_⟩
  rcases h with h | ⟨g, ha, hg, hc⟩
  · exact .inl h
  · exact .inr ⟨g, ha, Nat.lt_of_lt_of_le hg hb.size, fun i hi => (hc i hi).on hg hb⟩
theorem NRd.at {w : World} {v : Value} {ns : List Ov} (h : NRd w v ns) (hn : ns ≠ []) : ∃ g cap, v = .slice (some ⟨g, 0, none⟩) ns.length cap ∧ g < w.heap.size ∧ ns.length ≤ cap ∧ cap ≤ maxLen ∧ ∀ i (hi : i < ns.length), NdAt w g (i * 6) ns[i] := by
  obtain ⟨a, cap, hv, hl, hm, h⟩ := h
  rcases h with h | ⟨g, rfl, hg, hc⟩
  · exact absurd h hn
  · exact ⟨g, cap, hv, hg, hl, hm, hc⟩

/-- Six cells, wherever they lie, hold a node. -/
def NdIn (w : World) (y : Addr) (n : Ov) : Prop := ∀ (j : Nat) (v : Value), (nodeVals n)[j]? = some v → w.cell? (y.add j) = some v
/-- What is known of a slice of nodes that came in. -/
def NIn (w : World) (a : Option Addr) (len cap : Nat) (ns : List Ov) : Prop :=
  (a = none ∧ len = 0 ∧ cap = 0 ∧ ns = []) ∨
  ∃ x, a = some x ∧ len ≤ cap ∧ cap ≤ maxLen ∧ ns.length = len ∧ (ns ≠ [] → x.block < w.heap.size) ∧ (∀ n ∈ ns, n.Wf) ∧ ∀ i (hi : i < ns.length), NdIn w (x.add (i * 6)) ns[i]
theorem add_block (x : Addr) (j : Nat) : (x.add j).block = x.block := by unfold Addr.add; split <;> rfl
theorem NIn.on {w w' : World} {a : Option Addr} {len cap : Nat} {ns : List Ov} (h : NIn w a len cap ns) (hb : Below w.heap.size w w') : NIn w' a len cap ns := by
  rcases h with h | ⟨x, h1, h2, h3, h4, h5, h6, h7⟩
  · exact .inl h
  · refine .inr ⟨x, h1, h2, h3, h4, fun hn => Nat.lt_of_lt_of_le (h5 hn) hb.size, h6, fun i hi j v hj => ?_⟩
    rw [hb.cell (p := (x.add (i * 6)).add j) (by rw [add_block, add_block]; exact h5 (by intro e; subst e; simp at hi))]
    exact h7 i hi j v hj
theorem NIn.len {w : World} {a : Option Addr} {len cap : Nat} {ns : List Ov} (h : NIn w a len cap ns) : ns.length = len := by
  rcases h with ⟨_, h, _, rfl⟩ | ⟨x, _, _, _, h, _⟩
  · exact h.symm
  · exact h
theorem NdIn.cells {w : World} {y : Addr} {n : Ov} (h : NdIn w y n) : w.cell? y = some (.int .i64 n.kind) ∧ w.cell? ⟨y.block, y.off + 1, none⟩ = some (.string (strOf n.path)) ∧ w.cell? ⟨y.block, y.off + 2, none⟩ = some (.string (strOf n.dest)) ∧ w.cell? ⟨y.block, y.off + 3, none⟩ = some (.string (strOf n.data)) ∧ w.cell? ⟨y.block, y.off + 4, none⟩ = some (.int .i64 n.mode) ∧ w.cell? ⟨y.block, y.off + 5, none⟩ = some (.int .i64 n.time) :=
  ⟨h 0 _ rfl, h 1 _ rfl, h 2 _ rfl, h 3 _ rfl, h 4 _ rfl, h 5 _ rfl⟩
theorem NdIn.load {w : World} {y : Addr} {n : Ov} (h : NdIn w y n) : Sem.run Tryz.prog (loadCellsFrom y 0 6 #[]) w = .ok #[.int .i64 n.kind, .string (strOf n.path), .string (strOf n.dest), .string (strOf n.data), .int .i64 n.mode, .int .i64 n.time] w :=
  run_loadCellsFrom_list Tryz.prog w y (nodeVals n) 6 rfl h

theorem infoN : (Tryz.prog.info? 28).map (fun i => (i.zero, i.size, i.bytes)) = some (some (.agg #[.int .i64 0, .string ⟨#[]⟩, .string ⟨#[]⟩, .string ⟨#[]⟩, .int .i64 0, .int .i64 0]), 6, 72) := by kernel_rfl
def zeroN : Ov := ⟨0, [], [], [], 0, 0⟩
theorem nodes_zero (n : Nat) : (madeCells #[.int .i64 0, .string ⟨#[]⟩, .string ⟨#[]⟩, .string ⟨#[]⟩, .int .i64 0, .int .i64 0] (n * 6)).toList = nodesVals (List.replicate n zeroN) := by
  apply List.ext_getElem?
  intro j
  by_cases hj : j < n * 6
  · have h1 : j / 6 < n := by omega
    have h2 := nodesVals_at (List.replicate n zeroN) (j / 6) (j % 6) (by simpa using h1) (by omega)
    rw [show j / 6 * 6 + j % 6 = j by omega] at h2
    rw [h2]
    simp [madeCells, hj, nodeVals, zeroN]
    rcases (by omega : j % 6 = 0 ∨ j % 6 = 1 ∨ j % 6 = 2 ∨ j % 6 = 3 ∨ j % 6 = 4 ∨ j % 6 = 5) with h | h | h | h | h | h <;> simp [h] <;> rfl
  · rw [List.getElem?_eq_none (l := nodesVals _) (by rw [nodesVals_len]; simp; omega)]
    simp [madeCells, hj]
theorem makeNodes (n : Nat) (h : n ≤ 1048576) (w : World) :
    ∃ w', (Instr.makeSlice 38 (.int .i64 (n : Int)) (.int .i64 (n : Int))).run Tryz.prog w = .ok (.slice (some ⟨w.heap.size, 0, none⟩) n n) w' ∧ NRow w' w.heap.size (.slice (some ⟨w.heap.size, 0, none⟩) n n) (List.replicate n zeroN) ∧ w.grownBy w' none := by
  obtain ⟨i0, hi, hz0, hz1, hz2⟩ := info_parts infoN
  obtain ⟨w', h1, h2, h3⟩ := run_make_full (P := Tryz.prog) w w.heap.size 38 28 i0 _ 6 Tryz.underlying38 hi hz0 hz1 .i64 .i64 n (by rw [hz2]; omega) (by unfold maxLen; omega) (Nat.le_refl _)
  refine ⟨w', h1, ?_, h3⟩
  unfold NRow
  rw [List.length_replicate, ← nodes_zero]
  simp only [Value.cells] at h2
  exact h2

set_option maxRecDepth 100000 in
set_option maxHeartbeats 2000000 in
theorem toOpS (w : World) (a : Option Addr) (len cap : Nat) (ns : List Ov) (h : NIn w a len cap ns) (hl : len ≤ 1048576) :
    Calls Tryz.prog 45 #[.slice a len cap] w fun e w' => ∃ v, e = .returned v ∧ NRow w' w.heap.size v ns ∧ Below w.heap.size w w' := by
  obtain ⟨w1, hmk, hR1, hg1⟩ := makeNodes len hl w
  have hb1 : Below w.heap.size w w1 := (Below.refl _ _).grown hg1 (Nat.le_refl _) (fun k e => by cases e)
  have hlen := h.len
  have HN := Lib.hid h
  have hli : (len : Int) ≤ 1048576 := by omega
  have HL := Lib.hid hlen
  have hgw : w.heap.size < w1.heap.size := by
    rcases hR1.form with ⟨h, _⟩ | ⟨g, c, h, _, h2, _⟩
    · cases h
    · simp only [Value.slice.injEq, Option.some.injEq, Addr.mk.injEq] at h
      rw [h.1.1]; exact h2
  clear h hlen hg1
  go_enter Tryz.func45, Tryz.ntmps45
  go_wp2
  go_loopw [4] (fun i W => ∃ (k : Nat) (ms : List Ov), k ≤ len ∧ i = .int .i64 k ∧ ms.length = len ∧ (∀ j (hj : j < ms.length), j < k → ns[j]? = some ms[j]) ∧ NRow W w.heap.size (.slice (some ⟨w.heap.size, 0, none⟩) len len) ms ∧ Below w.heap.size w W ∧ w.heap.size < W.heap.size) (fun i _ => len - (intOf i).toNat)
  case atStart => exact ⟨0, List.replicate len zeroN, Nat.zero_le _, rfl, by simp, fun j _ hj => by omega, hR1, hb1, hgw⟩
  case round =>
    obtain ⟨k, ms, hk, rfl, hml, hmk2, hR, hb, hgW⟩ := hrel
    have HM := Lib.hid hmk2
    have HML := Lib.hid hml
    have HR := Lib.hid hR
    have HB := Lib.hid hb
    clear hmk2 hml hR hb
    by_cases hlt : k < len
    · have hki : (k : Int) < (len : Int) := by omega
      rcases HN.out.on HB.out with ⟨_, h, _⟩ | ⟨x, rfl, hlc, hcm, hnl, hxb, hsz, hx⟩
      · omega
      have hkn : k < ns.length := by omega
      obtain ⟨nd, hnd⟩ : ∃ nd, ns[k] = nd := ⟨_, rfl⟩
      have hcs := hx k hkn
      rw [hnd] at hcs
      obtain ⟨d0, d1, d2, d3, d4, d5⟩ := hcs.cells
      have HND := Lib.hid hnd
      have HX := Lib.hid hx
      unfold maxLen at hcm
      clear hx hnd hsz hcs
      go_wp2_with fail
      refine (toOp nd _).mono ?_
      rintro e W1 ⟨rfl, hb2⟩
      have hR2 := HR.out.on hb2
      have HB2 := Lib.hid (HB.out.trans (hb2.mono HB.out.size))
      obtain ⟨hf, hcl⟩ : (∀ j, W1.frozen? ⟨w.heap.size, j, none⟩ = false) ∧ NdAt W1 w.heap.size (k * 6) (ms[k]'(by have := HML.out; omega)) := by
        rcases hR2.form with ⟨h, _⟩ | ⟨g, c, h, _, _, h3, h4, _⟩
        · cases h
        · cases h; exact ⟨h4, h3 k (by have := HML.out; omega)⟩
      have c0 := hcl.c0
      have c1 := hcl.c1
      have c2 := hcl.c2
      have c3 := hcl.c3
      have c4 := hcl.c4
      have c5 := hcl.c5
      have HR2 := Lib.hid hR2
      have hgW1 : w.heap.size < W1.heap.size := by have := hb2.size; omega
      clear hcl hR2 hb2
      go_wp2
      go_roundw
      case rel =>
        have hlm := HML.out
        refine ⟨k + 1, ms.set k nd, by omega, by go_num, by simpa using hlm, fun j hj hjk => ?_, ?_, ?_, ?_⟩
        · rw [List.getElem_set]
          by_cases e : k = j
          · subst e; rw [if_pos rfl, List.getElem?_eq_getElem hkn, HND.out]
          · rw [if_neg e]; exact HM.out j (by simpa using hj) (by omega)
        · have h3 := HR2.out
          rw [← hlm] at h3 ⊢
          exact h3.put k (by omega) nd
        · iterate 6 (refine Below.setCell ?_ (by simp) _)
          exact HB2.out
        · simpa using hgW1
      case measure => simp [intOf]; omega
    · go_wp2
      go_ret
      refine ⟨_, rfl, ?_, HB.out⟩
      have e : ms = ns := by
        have h1 := HML.out
        have h2 := HL.out
        apply List.ext_getElem (by omega)
        intro j hj hj2
        have h3 := HM.out j hj (by omega)
        rw [List.getElem?_eq_getElem hj2] at h3
        exact (Option.some.inj h3).symm
      rw [← e]; exact HR.out
end Go.Proofs.YtipedabppgbfcaaGreatDoor.OpR
namespace Go.Proofs.YtipedabppgbfcaaGreatDoor

/-- The ops one after another, whatever each tells. -/
def runV : Tv → List Ov → Tv
  | t, [] => t
  | t, o :: r => runV (doV t o).1 r
theorem runV_append : ∀ (a b : List Ov) (t : Tv), runV t (a ++ b) = runV (runV t a) b
  | [], _, _ => rfl
  | _ :: r, b, t => runV_append r b _
theorem runV_right : ∀ (os : List Ov) {t : Tv}, Right t.ns t.next → Right (runV t os).ns (runV t os).next
  | [], _, h => h
  | _ :: r, _, h => runV_right r (do_right h)
theorem runV_snoc (t : Tv) (os : List Ov) (k : Nat) (h : k < os.length) : runV t (os.take (k + 1)) = (doV (runV t (os.take k)) os[k]).1 := by
  rw [List.take_succ_eq_append_getElem h, runV_append]; rfl
/-- All of them are done. -/
theorem go_all : ∀ (os : List Ov) (t : Tv) (k : Nat), (doGo t os k).2.2 = 0 → doGo t os k = (runV t os, k + os.length, 0)
  | [], t, k, _ => by simp [doGo, runV]
  | o :: r, t, k, h => by
    unfold doGo at h ⊢
    by_cases h0 : (doV t o).2 = 0
    · rw [if_pos h0] at h ⊢
      rw [go_all r _ _ h]
      simp only [runV, List.length_cons]
      rw [show k + 1 + r.length = k + (r.length + 1) by omega]
    · rw [if_neg h0] at h; exact absurd h h0
theorem go_take : ∀ (os : List Ov) (t : Tv) (k j : Nat), (doGo t os k).2.2 = 0 → (doGo t (os.take j) k).2.2 = 0
  | [], t, k, j, _ => by simp [doGo]
  | o :: r, t, k, 0, _ => by simp [doGo]
  | o :: r, t, k, j + 1, h => by
    rw [List.take_succ_cons]
    unfold doGo at h ⊢
    by_cases h0 : (doV t o).2 = 0
    · rw [if_pos h0] at h ⊢; exact go_take r _ _ j h
    · rw [if_neg h0] at h; exact absurd h h0
/-- What one more op tells. -/
theorem go_snoc : ∀ (os : List Ov) (t : Tv) (o : Ov) (k : Nat), (doGo t os k).2.2 = 0 → (doGo t (os ++ [o]) k).2.2 = (doV (runV t os) o).2
  | [], t, o, k, _ => by
    rw [List.nil_append]
    unfold doGo
    by_cases h0 : (doV t o).2 = 0
    · rw [if_pos h0]; simp [doGo, runV, h0]
    · rw [if_neg h0]; rfl
  | x :: r, t, o, k, h => by
    rw [List.cons_append]
    unfold doGo at h ⊢
    by_cases h0 : (doV t x).2 = 0
    · rw [if_pos h0] at h ⊢; exact go_snoc r _ o _ h
    · rw [if_neg h0] at h; exact absurd h h0

/-- A disk: what is safe, and what waits. -/
structure Kv where
  s : Tv
  os : List Ov
def diskB (d : Kv) : Bool := decide (d.os.length ≤ 300) && (treeB d.s.ns d.s.next && decide ((doAllV d.s d.os).2.2 = 0))
structure Disk (d : Kv) : Prop where
  len : d.os.length ≤ 300
  tree : treeB d.s.ns d.s.next = true
  right : Right d.s.ns d.s.next
  all : ∀ k, doGo d.s d.os k = (runV d.s d.os, k + d.os.length, 0)
  live : Right (runV d.s d.os).ns (runV d.s d.os).next
theorem all_tree {t : Tv} {os : List Ov} (h : treeB t.ns t.next = true) : doAllV t os = doGo t os 0 := by unfold doAllV; rw [if_pos h]
theorem go_code : ∀ (os : List Ov) (t : Tv) (k j : Nat), (doGo t os k).2.2 = (doGo t os j).2.2
  | [], _, _, _ => rfl
  | o :: r, t, k, j => by
    unfold doGo
    by_cases h0 : (doV t o).2 = 0
    · rw [if_pos h0, if_pos h0]; exact go_code r _ _ _
    · rw [if_neg h0, if_neg h0]
theorem Disk.of {d : Kv} (h : diskB d = true) : Disk d := by
  unfold diskB at h
  simp only [Bool.and_eq_true, decide_eq_true_eq] at h
  obtain ⟨h1, h2, h3⟩ := h
  rw [all_tree h2] at h3
  have hr := Right.of h2
  exact ⟨h1, h2, hr, fun k => go_all _ _ _ (by rw [go_code _ _ k 0]; exact h3), runV_right _ hr⟩
theorem Disk.ok {d : Kv} (h : Disk d) : diskB d = true := by
  unfold diskB
  simp only [Bool.and_eq_true, decide_eq_true_eq]
  exact ⟨h.len, h.tree, by rw [all_tree h.tree, h.all 0]⟩
theorem Disk.allV {d : Kv} (h : Disk d) : doAllV d.s d.os = (runV d.s d.os, d.os.length, 0) := by rw [all_tree h.tree, h.all 0, Nat.zero_add]
theorem Disk.take {d : Kv} (h : Disk d) (k : Nat) : doAllV d.s (d.os.take k) = (runV d.s (d.os.take k), (d.os.take k).length, 0) := by
  rw [all_tree h.tree, go_all _ _ _ (go_take _ _ _ k (by rw [h.all 0])), Nat.zero_add]
theorem Disk.one {d : Kv} (h : Disk d) (o : Ov) : doOneV (runV d.s d.os) o = doV (runV d.s d.os) o := by unfold doOneV; rw [if_pos h.live.tree]
def noDisk : Kv := ⟨⟨[], 0⟩, []⟩
def newDisk (t : Tv) : Kv := if treeB t.ns t.next = true then ⟨t, []⟩ else noDisk
def liveV (d : Kv) : Tv := if diskB d = true then runV d.s d.os else ⟨[], 0⟩
/-- What Put tells of a right disk. -/
def putR (d : Kv) (o : Ov) : Kv × Int :=
  if (doV (runV d.s d.os) o).2 ≠ 0 then (d, (doV (runV d.s d.os) o).2)
  else if o.kind = 8 then (⟨runV d.s d.os, []⟩, 0)
  else if d.os.length = 300 then (d, 5)
  else (⟨d.s, d.os ++ [o]⟩, 0)
def putV (d : Kv) (o : Ov) : Kv × Int := if diskB d = true then putR d o else (noDisk, 1)
def cutV (d : Kv) (k : Int) : Kv := if diskB d = true then ⟨runV d.s (d.os.take k.toNat), []⟩ else noDisk
end Go.Proofs.YtipedabppgbfcaaGreatDoor
