/- The laws' helpers on nodes: a node, its copy, its size, whether two are alike. The laws' helpers on rows of nodes and on trees: copies, sizes, whether two are alike. -/
import Derived.Test.YtipedabppgbfcaaGreatDoorK4
set_option linter.all false
namespace Go.Proofs.YtipedabppgbfcaaGreatDoor
open Go.RowKit
set_option maxRecDepth 100000 in
set_option maxHeartbeats 1000000 in
theorem toNode (n : Nd) (w : World) :
    Calls Tryz.prog 129 #[.agg #[.string (strOf n.path), .bool n.dir, .int .i64 n.mode, .int .i64 n.time, .int .i64 n.id, .string (strOf n.data)]] w fun e w' => e = .returned (.agg #[.string (strOf n.path), .bool n.dir, .int .i64 n.mode, .int .i64 n.time, .int .i64 n.id, .string (strOf n.data)]) ∧ Below w.heap.size w w' := by
  go_enter Tryz.func129, Tryz.ntmps129
  go_wp2
  refine bodyPost_ret (v := .agg #[.string (strOf n.path), .bool n.dir, .int .i64 n.mode, .int .i64 n.time, .int .i64 n.id, .string (strOf n.data)]) (by simp [results, Tryz.results129, go_sem]) rfl ⟨rfl, ?_⟩
  repeat (first | exact Below.refl _ _ | refine Below.alloc ?_ (by simp <;> omega) _ | refine Below.setCell ?_ (by simp) _)

/-- How much a node tells. -/
def szN (n : Nd) : Nat := n.path.length + n.data.length
/-- What is left of a limit; -1 where it is passed by. -/
def leftV (left : Int) (n : Nat) : Int := if (n : Int) ≤ left then left - n else -1
theorem leftV_in {left : Int} {n : Nat} (h : (n : Int) ≤ left) : leftV left n = left - n := if_pos h
theorem leftV_out {left : Int} {n : Nat} (h : ¬ (n : Int) ≤ left) : leftV left n = -1 := if_neg h
def szNs (ns : List Nd) : Nat := (ns.map szN).sum
set_option maxRecDepth 100000 in
set_option maxHeartbeats 1000000 in
theorem szNode (n : Nd) (left : Int) (w : World) (h0 : 0 ≤ left) (h1 : left ≤ 1048576) (h2 : n.path.length ≤ maxLen) (h3 : n.data.length ≤ maxLen) :
    Calls Tryz.prog 128 #[.agg #[.string (strOf n.path), .bool n.dir, .int .i64 n.mode, .int .i64 n.time, .int .i64 n.id, .string (strOf n.data)], .int .i64 left] w fun e w' => e = .returned (.int .i64 (leftV left (szN n))) ∧ Below w.heap.size w w' := by
  have e1 := strOf_size n.path
  have e2 := strOf_size n.data
  unfold maxLen at h2 h3
  unfold szN
  generalize strOf n.path = p at e1
  generalize strOf n.data = d at e2
  rw [← e1, ← e2]
  have h2' : p.size ≤ 9223372036854775807 := by omega
  have h3' : d.size ≤ 9223372036854775807 := by omega
  clear e1 e2 h2 h3
  by_cases c1 : (p.size : Int) ≤ left
  · by_cases c2 : (d.size : Int) ≤ left - p.size
    · have d1 : ¬ left - (p.size : Int) < 0 := by omega
      have d2 : ¬ left - (p.size : Int) - d.size < 0 := by omega
      go_enter Tryz.func128, Tryz.ntmps128
      go_wp2
      go_ret
      exact ⟨ret_int (by rw [leftV_in (by omega)]; omega), (Below.refl _ _).alloc (Nat.le_refl _) _⟩
    · have d1 : ¬ left - (p.size : Int) < 0 := by omega
      have d2 : left - (p.size : Int) - d.size < 0 := by omega
      go_enter Tryz.func128, Tryz.ntmps128
      go_wp2
      go_ret
      exact ⟨ret_int (by rw [leftV_out (by omega)]), (Below.refl _ _).alloc (Nat.le_refl _) _⟩
  · have d1 : left - (p.size : Int) < 0 := by omega
    go_enter Tryz.func128, Tryz.ntmps128
    go_wp2
    go_ret
    exact ⟨ret_int (by rw [leftV_out (by omega)]), (Below.refl _ _).alloc (Nat.le_refl _) _⟩

set_option maxRecDepth 100000 in
set_option maxHeartbeats 1000000 in
theorem eqNode (n : Nd) (w : World) :
    Calls Tryz.prog 130 #[.agg #[.string (strOf n.path), .bool n.dir, .int .i64 n.mode, .int .i64 n.time, .int .i64 n.id, .string (strOf n.data)], .agg #[.string (strOf n.path), .bool n.dir, .int .i64 n.mode, .int .i64 n.time, .int .i64 n.id, .string (strOf n.data)]] w fun e w' => e = .returned (.bool true) ∧ Below w.heap.size w w' := by
  generalize strOf n.path = p
  generalize strOf n.data = d
  go_enter Tryz.func130, Tryz.ntmps130
  go_wp2
  go_ret
  exact ⟨rfl, ((Below.refl _ _).alloc (Nat.le_refl _) _).alloc (by simp) _⟩
end Go.Proofs.YtipedabppgbfcaaGreatDoor
namespace Go.Proofs.YtipedabppgbfcaaGreatDoor
open Go.RowKit

/-- Six cells, wherever they lie, hold a node. -/
def NdIn (w : World) (y : Addr) (n : Nd) : Prop := ∀ (j : Nat) (v : Value), (nodeVals n)[j]? = some v → w.cell? (y.add j) = some v
/-- What is known of a slice of nodes that came in. -/
def NIn (w : World) (a : Option Addr) (len cap : Nat) (ns : List Nd) : Prop :=
  (a = none ∧ len = 0 ∧ cap = 0 ∧ ns = []) ∨
  ∃ x, a = some x ∧ len ≤ cap ∧ cap ≤ maxLen ∧ ns.length = len ∧ (ns ≠ [] → x.block < w.heap.size) ∧ (∀ n ∈ ns, n.path.length ≤ maxLen ∧ n.data.length ≤ maxLen) ∧ ∀ i (hi : i < ns.length), NdIn w (x.add (i * 6)) ns[i]
theorem add_block (x : Addr) (j : Nat) : (x.add j).block = x.block := by unfold Addr.add; split <;> rfl
theorem NIn.on {w w' : World} {a : Option Addr} {len cap : Nat} {ns : List Nd} (h : NIn w a len cap ns) (hb : Below w.heap.size w w') : NIn w' a len cap ns := by
  rcases h with h | ⟨x, h1, h2, h3, h4, h5, h6, h7⟩
  · exact .inl h
  · refine .inr ⟨x, h1, h2, h3, h4, fun hn => Nat.lt_of_lt_of_le (h5 hn) hb.size, h6, fun i hi j v hj => ?_⟩
    rw [hb.cell (p := (x.add (i * 6)).add j) (by rw [add_block, add_block]; exact h5 (by intro e; subst e; simp at hi))]
    exact h7 i hi j v hj
theorem NIn.len {w : World} {a : Option Addr} {len cap : Nat} {ns : List Nd} (h : NIn w a len cap ns) : ns.length = len := by
  rcases h with ⟨_, h, _, rfl⟩ | ⟨x, _, _, _, h, _⟩
  · exact h.symm
  · exact h
theorem NdIn.cells {w : World} {y : Addr} {n : Nd} (h : NdIn w y n) : w.cell? y = some (.string (strOf n.path)) ∧ w.cell? ⟨y.block, y.off + 1, none⟩ = some (.bool n.dir) ∧ w.cell? ⟨y.block, y.off + 2, none⟩ = some (.int .i64 n.mode) ∧ w.cell? ⟨y.block, y.off + 3, none⟩ = some (.int .i64 n.time) ∧ w.cell? ⟨y.block, y.off + 4, none⟩ = some (.int .i64 n.id) ∧ w.cell? ⟨y.block, y.off + 5, none⟩ = some (.string (strOf n.data)) :=
  ⟨h 0 _ rfl, h 1 _ rfl, h 2 _ rfl, h 3 _ rfl, h 4 _ rfl, h 5 _ rfl⟩
theorem NdIn.load {w : World} {y : Addr} {n : Nd} (h : NdIn w y n) : Sem.run Tryz.prog (loadCellsFrom y 0 6 #[]) w = .ok #[.string (strOf n.path), .bool n.dir, .int .i64 n.mode, .int .i64 n.time, .int .i64 n.id, .string (strOf n.data)] w :=
  run_loadCellsFrom_list Tryz.prog w y (nodeVals n) 6 rfl h

theorem infoN : (Tryz.prog.info? 37).map (fun i => (i.zero, i.size, i.bytes)) = some (some (.agg #[.string ⟨#[]⟩, .bool false, .int .i64 0, .int .i64 0, .int .i64 0, .string ⟨#[]⟩]), 6, 64) := by kernel_rfl
def zeroN : Nd := ⟨[], false, 0, 0, 0, []⟩
theorem nodes_zero (n : Nat) : (madeCells #[.string ⟨#[]⟩, .bool false, .int .i64 0, .int .i64 0, .int .i64 0, .string ⟨#[]⟩] (n * 6)).toList = nodesVals (List.replicate n zeroN) := by
  apply List.ext_getElem?
  intro j
  by_cases hj : j < n * 6
  · have h1 : j / 6 < n := by omega
    have h2 := nodesVals_at (List.replicate n zeroN) (j / 6) (j % 6) (by simpa using h1) (by omega)
    rw [show j / 6 * 6 + j % 6 = j by omega] at h2
    rw [h2]
    simp [madeCells, hj, nodeVals, zeroN]
    rcases (by omega : j % 6 = 0 ∨ j % 6 = 1 ∨ j % 6 = 2 ∨ j % 6 = 3 ∨ j % 6 = 4 ∨ j % 6 = 5) with h | h | h | h | h | h <;> simp [h] <;> rfl
  · rw [List.getElem?_eq_none (l := nodesVals _) (by rw [nodesVals_len]; simp; omega)]
    simp [madeCells, hj]
theorem makeNodes (n : Nat) (h : n ≤ 1048576) (w : World) :
    ∃ w', (Instr.makeSlice 24 (.int .i64 (n : Int)) (.int .i64 (n : Int))).run Tryz.prog w = .ok (.slice (some ⟨w.heap.size, 0, none⟩) n n) w' ∧ NRow w' w.heap.size (.slice (some ⟨w.heap.size, 0, none⟩) n n) (List.replicate n zeroN) ∧ w.grownBy w' none := by
  obtain ⟨i0, hi, hz0, hz1, hz2⟩ := info_parts infoN
  obtain ⟨w', h1, h2, h3⟩ := run_make_full (P := Tryz.prog) w w.heap.size 24 37 i0 _ 6 Tryz.underlying24 hi hz0 hz1 .i64 .i64 n (by rw [hz2]; omega) (by unfold maxLen; omega) (Nat.le_refl _)
  refine ⟨w', h1, ?_, h3⟩
  unfold NRow
  rw [List.length_replicate, ← nodes_zero]
  simp only [Value.cells] at h2
  exact h2

set_option maxRecDepth 100000 in
set_option maxHeartbeats 2000000 in
theorem toNodeS (w : World) (a : Option Addr) (len cap : Nat) (ns : List Nd) (h : NIn w a len cap ns) (hl : len ≤ 1048576) :
    Calls Tryz.prog 84 #[.slice a len cap] w fun e w' => ∃ v, e = .returned v ∧ NRow w' w.heap.size v ns ∧ Below w.heap.size w w' := by
  obtain ⟨w1, hmk, hR1, hg1⟩ := makeNodes len hl w
  have hb1 : Below w.heap.size w w1 := (Below.refl _ _).grown hg1 (Nat.le_refl _) (fun k e => by cases e)
  have hlen := h.len
  have HN := Lib.hid h
  have hli : (len : Int) ≤ 1048576 := by omega
  have HL := Lib.hid hlen
  have hgw : w.heap.size < w1.heap.size := by
    rcases hR1.form with ⟨h, _⟩ | ⟨g, c, h, _, h2, _⟩
    · cases h
    · simp only [Value.slice.injEq, Option.some.injEq, Addr.mk.injEq] at h
      rw [h.1.1]; exact h2
  clear h hlen hg1
  go_enter Tryz.func84, Tryz.ntmps84
  go_wp2
  go_loopw [4] (fun i W => ∃ (k : Nat) (ms : List Nd), k ≤ len ∧ i = .int .i64 k ∧ ms.length = len ∧ (∀ j (hj : j < ms.length), j < k → ns[j]? = some ms[j]) ∧ NRow W w.heap.size (.slice (some ⟨w.heap.size, 0, none⟩) len len) ms ∧ Below w.heap.size w W ∧ w.heap.size < W.heap.size) (fun i _ => len - (intOf i).toNat)
  case atStart => exact ⟨0, List.replicate len zeroN, Nat.zero_le _, rfl, by simp, fun j _ hj => by omega, hR1, hb1, hgw⟩
  case round =>
    obtain ⟨k, ms, hk, rfl, hml, hmk2, hR, hb, hgW⟩ := hrel
    have HM := Lib.hid hmk2
    have HML := Lib.hid hml
    have HR := Lib.hid hR
    have HB := Lib.hid hb
    clear hmk2 hml hR hb
    by_cases hlt : k < len
    · have hki : (k : Int) < (len : Int) := by omega
      rcases HN.out.on HB.out with ⟨_, h, _⟩ | ⟨x, rfl, hlc, hcm, hnl, hxb, hsz, hx⟩
      · omega
      have hkn : k < ns.length := by omega
      obtain ⟨nd, hnd⟩ : ∃ nd, ns[k] = nd := ⟨_, rfl⟩
      have hcs := hx k hkn
      rw [hnd] at hcs
      obtain ⟨d0, d1, d2, d3, d4, d5⟩ := hcs.cells
      have HND := Lib.hid hnd
      have HX := Lib.hid hx
      unfold maxLen at hcm
      clear hx hnd hsz hcs
      go_wp2_with fail
      refine (toNode nd _).mono ?_
      rintro e W1 ⟨rfl, hb2⟩
      have hR2 := HR.out.on hb2
      have HB2 := Lib.hid (HB.out.trans (hb2.mono HB.out.size))
      obtain ⟨hf, hcl⟩ : (∀ j, W1.frozen? ⟨w.heap.size, j, none⟩ = false) ∧ NdAt W1 w.heap.size (k * 6) (ms[k]'(by have := HML.out; omega)) := by
        rcases hR2.form with ⟨h, _⟩ | ⟨g, c, h, _, _, h3, h4, _⟩
        · cases h
        · cases h; exact ⟨h4, h3 k (by have := HML.out; omega)⟩
      have c0 := hcl.c0
      have c1 := hcl.c1
      have c2 := hcl.c2
      have c3 := hcl.c3
      have c4 := hcl.c4
      have c5 := hcl.c5
      have HR2 := Lib.hid hR2
      have hgW1 : w.heap.size < W1.heap.size := by have := hb2.size; omega
      clear hcl hR2 hb2
      go_wp2
      go_roundw
      case rel =>
        have hlm := HML.out
        refine ⟨k + 1, ms.set k nd, by omega, by go_num, by simpa using hlm, fun j hj hjk => ?_, ?_, ?_, ?_⟩
        · rw [List.getElem_set]
          by_cases e : k = j
          · subst e; rw [if_pos rfl, List.getElem?_eq_getElem hkn, HND.out]
          · rw [if_neg e]; exact HM.out j (by simpa using hj) (by omega)
        · have h3 := HR2.out
          rw [← hlm] at h3 ⊢
          exact h3.put k (by omega) nd
        · iterate 6 (refine Below.setCell ?_ (by simp) _)
          exact HB2.out
        · simpa using hgW1
      case measure => simp [intOf]; omega
    · go_wp2
      go_ret
      refine ⟨_, rfl, ?_, HB.out⟩
      have e : ms = ns := by
        have h1 := HML.out
        have h2 := HL.out
        apply List.ext_getElem (by omega)
        intro j hj hj2
        have h3 := HM.out j hj (by omega)
        rw [List.getElem?_eq_getElem hj2] at h3
        exact (Option.some.inj h3).symm
      rw [← e]; exact HR.out
end Go.Proofs.YtipedabppgbfcaaGreatDoor
