/- The disk that is worked on, through work on its trees and on its queue. The queue of ops: size, add, first, empty. -/
import Derived.Test.YtipedabppgbfcaaGreatDoorK34
import Derived.Test.YtipedabppgbfcaaGreatDoorK36
import Derived.Test.YtipedabppgbfcaaGreatDoorK19
import Derived.Lib.SliceRun
set_option linter.all false
namespace Go.Proofs.YtipedabppgbfcaaGreatDoor
open Go.RowKit

theorem Trees.two {U : Nat} {W W' : World} {x y : Option Nat} (h : Two W W' x y) (hx : ∀ k, x = some k → ∀ o, W.heap[k]? = some o → Free o) (hy : ∀ k, y = some k → ∀ o, W.heap[k]? = some o → Free o) : Trees U W W' := fun k _ o ho hn =>
  (h.block k (Array.getElem?_eq_some_iff.1 ho).1 (fun e => hn (hx k e.symm o ho)) (fun e => hn (hy k e.symm o ho))).trans ho
theorem SafeAt.other {W W' : World} {B q U : Nat} {x vq : Value} {p : Nat} {v : Value} {ps : List (Nat × Nd)} {d : Kv} (h : SafeAt W B q U x vq p v ps d) (hb : Below U W W') (ho : Others W W') : SafeAt W' B q U x vq p v ps d :=
  ⟨h.lo, ho.blk h.top (by decide) (by decide) (by decide) (by decide), ho.nrow h.row, h.safe.keep h.under (Trees.below hb), h.ns, h.under, h.right⟩
theorem SafeAt.two {W W' : World} {B q U V : Nat} {x vq : Value} {p : Nat} {v : Value} {ps : List (Nat × Nd)} {d : Kv} (h : SafeAt W B q U x vq p v ps d) (ht : Two W W' vq.ownBlock (some q)) : Trees V W W' :=
  Trees.two ht (free_row h.row.own (by decide) (by decide) (by decide) (by decide)) (fun k e => by
    have : q = k := Option.some.inj e
    subst this
    exact free_blk h.top (by decide) (by decide) (by decide) (by decide))
theorem SafeAt.queue {W W' : World} {B q U : Nat} {x vq vq' : Value} {p : Nat} {v : Value} {ps : List (Nat × Nd)} {d : Kv} {os' : List Ov} (h : SafeAt W B q U x vq p v ps d) (h2 : Blk W' q #[.pointer (some ⟨p, 0, none⟩), x, vq'] 109) (hr : OpR.NRow W' B vq' os') (ht : Two W W' vq.ownBlock (some q)) : SafeAt W' B q U x vq' p v ps ⟨d.s, os'⟩ :=
  ⟨h.lo, h2, hr, h.safe.keep h.under (h.two ht), h.ns, h.under, h.right⟩
theorem Work.queue {R W W' : World} {B B' q U : Nat} {x vq : Value} {p p2 : Nat} {v v2 : Value} {ps ls : List (Nat × Nd)} {d : Kv} {next : Int} (hw : Work R W B' p2 v2 ls next) (h : SafeAt W B q U x vq p v ps d) (ht : Two W W' vq.ownBlock (some q)) : Work W' W' B' p2 v2 ls next := hw.keep hw.under (h.two ht)
theorem SafeAt.below {W W' : World} {B q U : Nat} {x vq : Value} {p : Nat} {v : Value} {ps : List (Nat × Nd)} {d : Kv} (h : SafeAt W B q U x vq p v ps d) (ht : Two W W' vq.ownBlock (some q)) : Below B W W' :=
  ht.below (by have := h.top.lt; have := h.lo; omega) (fun k e => (own_lt h.row.own k e).1) (fun k e => by have : q = k := Option.some.inj e; have := h.lo; omega)
end Go.Proofs.YtipedabppgbfcaaGreatDoor
namespace Go.Proofs.YtipedabppgbfcaaGreatDoor
open Go.RowKit

theorem own_not {W : World} {B size b : Nat} {e t : TypeId} {v : Value} {n : Nat} {xs : List Value} {cs : Array Value} (h : W.ownsRow B e size v n xs) (hb : Blk W b cs t) (ht : t ≠ e) : some b ≠ v.ownBlock := by
  intro e2
  rcases h.2 with ⟨rfl, _⟩ | ⟨g, cap, cur, rfl, _, hg, _⟩
  · cases e2
  · have e3 : b = g := by simpa [Value.ownBlock] using e2
    subst e3
    have := hb.blk
    rw [hg] at this
    simp at this
    exact ht this.2.symm
theorem infoO : (Tryz.prog.info? 28).map (fun i => (i.zero, i.size, i.bytes)) = some (some (.agg #[.int .i64 0, .string ⟨#[]⟩, .string ⟨#[]⟩, .string ⟨#[]⟩, .int .i64 0, .int .i64 0]), 6, 72) := by kernel_rfl
theorem cell_op_new (w : World) (n : Ov) (t : TypeId) : ∀ j u, (OpR.nodeVals n)[j]? = some u → (w.alloc (.cells #[.int .i64 n.kind, .string (strOf n.path), .string (strOf n.dest), .string (strOf n.data), .int .i64 n.mode, .int .i64 n.time] t)).cell? ((⟨w.heap.size, 0, none⟩ : Addr).add j) = some u := fun j u hj => by
  have h := (Blk.new w #[.int .i64 n.kind, .string (strOf n.path), .string (strOf n.dest), .string (strOf n.data), .int .i64 n.mode, .int .i64 n.time] t).cell j
  rw [show (⟨w.heap.size, 0, none⟩ : Addr).add j = ⟨w.heap.size, j, none⟩ by unfold Addr.add; split <;> simp_all, h, ← hj]
  match j with
  | 0 => rfl
  | 1 => rfl
  | 2 => rfl
  | 3 => rfl
  | 4 => rfl
  | 5 => rfl
  | j + 6 => simp [OpR.nodeVals]
theorem cell_op_at (w : World) (n : Ov) (t : TypeId) (q : Nat) (hq : w.heap.size = q) : ∀ j u, (OpR.nodeVals n)[j]? = some u → (w.alloc (.cells #[.int .i64 n.kind, .string (strOf n.path), .string (strOf n.dest), .string (strOf n.data), .int .i64 n.mode, .int .i64 n.time] t)).cell? ((⟨q, 0, none⟩ : Addr).add j) = some u := by
  subst hq; exact cell_op_new w n t
theorem opVals_one (n : Ov) : ∀ u ∈ OpR.nodeVals n, u.oneCell' = true := by
  intro u hu
  simp only [OpR.nodeVals, List.mem_cons, List.not_mem_nil, or_false] at hu
  rcases hu with rfl | rfl | rfl | rfl | rfl | rfl <;> rfl
theorem ops_news {w : World} {g : Nat} {ns : List Ov} (h : ∀ i (hi : i < ns.length), OpR.NdAt w g (i * 6) ns[i]) : ∀ j u, (OpR.nodesVals ns)[j]? = some u → w.cell? ((⟨g, 0, none⟩ : Addr).add j) = some u := fun j u hj => by
  have hlt : j < ns.length * 6 := by
    have := (List.getElem?_eq_some_iff.1 hj).1
    rwa [OpR.nodesVals_len] at this
  have hi : j / 6 < ns.length := by omega
  have e : j / 6 * 6 + j % 6 = j := by omega
  have h2 := OpR.nodesVals_at ns (j / 6) (j % 6) hi (by omega)
  rw [e, hj] at h2
  have hn := h (j / 6) hi
  have ha : (⟨g, 0, none⟩ : Addr).add j = ⟨g, j / 6 * 6 + j % 6, none⟩ := by
    rw [e]; unfold Addr.add; split <;> simp_all
  rw [ha]
  generalize ns[j / 6] = nd at h2 hn
  generalize j / 6 * 6 = o at hn ⊢
  rcases (by omega : j % 6 = 0 ∨ j % 6 = 1 ∨ j % 6 = 2 ∨ j % 6 = 3 ∨ j % 6 = 4 ∨ j % 6 = 5) with h | h | h | h | h | h <;> rw [h] at h2 ⊢ <;> simp only [OpR.nodeVals, List.getElem?_cons_zero, List.getElem?_cons_succ, Option.some.injEq] at h2 <;> subst h2
  · exact hn.c0
  · exact hn.c1
  · exact hn.c2
  · exact hn.c3
  · exact hn.c4
  · exact hn.c5
theorem opsVals_oneCell (ns : List Ov) : ∀ u ∈ OpR.nodesVals ns, u.oneCell' = true := by
  intro u hu
  obtain ⟨n, _, h⟩ := List.mem_flatMap.1 hu
  exact opVals_one n u h
theorem elemO : Tryz.prog.elem 38 = 28 := by kernel_rfl
theorem sliceO_to (W : World) (g n cap k : Nat) (x : Int) (hx : x = k) (hk : k ≤ cap) :
    (Instr.slice 38 (.slice (some ⟨g, 0, none⟩) n cap) none (some (.int .i64 x)) none).run Tryz.prog W = .ok (.slice (some ⟨g, 0, none⟩) k cap) W := by
  subst hx
  rw [run_slice_h W 38 (some ⟨g, 0, none⟩) n cap (by kernel_rfl) .i64 k (by omega) (by omega), elemO, Tryz.sizeOf28]
  have e : (⟨g, 0, none⟩ : Addr).add (0 * 6) = ⟨g, 0, none⟩ := by unfold Addr.add; split <;> simp_all
  simp only [Result.andThen, sliced, Option.map, e, Int.toNat_natCast, Nat.sub_zero, ite_self]
theorem sliceO_nil (W : World) (x : Int) (hx : x = 0) :
    (Instr.slice 38 (.slice none 0 0) none (some (.int .i64 x)) none).run Tryz.prog W = .ok (.slice none 0 0) W := by
  subst hx
  rw [run_slice_h W 38 none 0 0 (by kernel_rfl) .i64 0 (by omega) (by omega), elemO, Tryz.sizeOf28]
  rfl

theorem qSize (w : World) (q : Nat) (a : Option Addr) (n c : Nat) (h : w.cell? ⟨q, 2, none⟩ = some (.slice a n c)) :
    Calls Tryz.prog 125 #[.pointer (some ⟨q, 2, none⟩)] w fun e w' => e = .returned (.int .i64 n) ∧ w' = w := by
  go_enter Tryz.func125, Tryz.ntmps125
  go_wp2
  go_ret
  exact ⟨rfl, rfl⟩

set_option maxRecDepth 100000 in
set_option maxHeartbeats 2000000 in
theorem qAdd (w : World) (B q : Nat) (x y vq : Value) (os : List Ov) (o : Ov) (hB : B ≤ q) (ht : Blk w q #[x, y, vq] 109) (hr : OpR.NRow w B vq os) (hl : os.length ≤ 2000000) :
    Calls Tryz.prog 124 #[.pointer (some ⟨q, 2, none⟩), .agg #[.int .i64 o.kind, .string (strOf o.path), .string (strOf o.dest), .string (strOf o.data), .int .i64 o.mode, .int .i64 o.time]] w fun e w' => e = .returned (.tuple #[]) ∧ ∃ vq', Blk w' q #[x, y, vq'] 109 ∧ OpR.NRow w' B vq' (os ++ [o]) ∧ Two w w' vq.ownBlock (some q) := by
  obtain ⟨j0, ji, jz0, jz1, jz2⟩ := info_parts infoO
  obtain ⟨wa, hwa⟩ : ∃ W, w.alloc (.cells #[.int .i64 o.kind, .string (strOf o.path), .string (strOf o.dest), .string (strOf o.data), .int .i64 o.mode, .int .i64 o.time] 28) = W := ⟨_, rfl⟩
  have hsa : wa.heap.size = w.heap.size + 1 := by rw [← hwa]; simp
  have ba : Below w.heap.size w wa := by rw [← hwa]; exact (Below.refl _ _).alloc (Nat.le_refl _) _
  have HO := Lib.hid (show Blk wa w.heap.size #[.int .i64 o.kind, .string (strOf o.path), .string (strOf o.dest), .string (strOf o.data), .int .i64 o.mode, .int .i64 o.time] 28 by rw [← hwa]; exact Blk.new _ _ _)
  have HT := Lib.hid (ht.on ba)
  have HR := Lib.hid (hr.on ba)
  have HBA := Lib.hid ba
  have hBw : B ≤ w.heap.size := by have := ht.lt; omega
  have hqw := ht.lt
  obtain ⟨a1, k1, rfl⟩ := hr.shape
  have HQ := Lib.hid (fun (ob : Obj) (w1 : World) (hg : (wa.alloc ob).drew.grownBy w1 (Value.ownBlock (.slice a1 os.length k1))) => ((HT.out.alloc ob).drew 1).grown hg (own_not hr.own ht (by decide)))
  have t2 := HT.out.cell 2
  have tA := fun ob => (HT.out.alloc ob).cell 2
  have s0 := HO.out.cell 0
  have s1 := HO.out.cell 1
  have s2 := HO.out.cell 2
  have s3 := HO.out.cell 3
  have s4 := HO.out.cell 4
  have s5 := HO.out.cell 5
  simp at t2 tA s0 s1 s2 s3 s4 s5
  clear ht hr ba
  go_enter Tryz.func124, Tryz.ntmps124
  go_wp2_with fail
  go_region_law (refine step_append_lies _ (by rfl) _ _ _ (by rfl) B 28 j0 (.agg #[.int .i64 0, .string ⟨#[]⟩, .string ⟨#[]⟩, .string ⟨#[]⟩, .int .i64 0, .int .i64 0]) 6 72 Tryz.underlying38 ji jz0 jz1 jz2 rfl (by omega) _ os.length (OpR.nodesVals os) (by rfl) (ownsN_push HR.out.own (by rfl)) ⟨w.heap.size + 1, 0, none⟩ 1 1 (OpR.nodeVals o) (by rfl) (by rfl) (cell_op_at _ _ _ _ hsa) (opVals_one _) (by omega) (by unfold maxLen; omega) (by omega) (by simp; omega) (w.heap.size + 2) (by simp [hsa]) ?_; intro g1 cap1 w1 hown1 hgrow1 hat1 hlt1; (have hO8 := HQ.out _ _ hgrow1); (have o8 := hO8.cell 2); (have p8 := hO8.frozen 2); simp at o8)
  all_goals
    have HO8 := Lib.hid hO8
    have HN8 := Lib.hid (OpR.NRow.snoc hown1)
    have HG8 := Lib.hid hgrow1
    clear hO8 hown1 hgrow1 hat1
    go_wp2
    go_end0
    refine ⟨rfl, _, HO8.out.set 2 _, ?_, ?_⟩
    · have h9 := HN8.out
      have e9 : (os ++ [o]).length = os.length + 1 := by simp
      refine own_apart h9.own (grownBy_sets (World.grownBy.refl _ _) ⟨q, 2, none⟩ _ rfl) (fun k hk e => ?_)
      exact own_not h9.own HO8.out (by decide) (by rw [hk]; exact e)
    · exact Two.of (grown_from (HBA.out.trans ((((Below.refl _ wa).alloc (Nat.le_refl _) _).drew).mono (by omega))) HG8.out) (grownBy_sets (World.grownBy.refl _ _) ⟨q, 2, none⟩ _ rfl)

theorem clampO (k : Int) (n : Nat) : ∃ m : Nat, m = min k.toNat n ∧ m ≤ n ∧ min (max k 0) (n : Int) = (m : Int) := ⟨_, rfl, by omega, by omega⟩
theorem take_clamp {α : Type} (l : List α) (k : Nat) : l.take k = l.take (min k l.length) := by
  by_cases h : k ≤ l.length
  · rw [Nat.min_eq_left h]
  · rw [Nat.min_eq_right (by omega), List.take_of_length_le (by omega), List.take_length]
theorem take_row {w : World} {B : Nat} {v : Value} {os : List Ov} {g n cap m : Nat} (h : OpR.NRow w B v os) (hv : v = .slice (some ⟨g, 0, none⟩) n cap) (hm : m ≤ os.length) : (∀ j u, (OpR.nodesVals (os.take m))[j]? = some u → w.cell? ((⟨g, 0, none⟩ : Addr).add j) = some u) ∧ m ≤ cap ∧ cap ≤ maxLen := by
  rcases h.form with ⟨e, _⟩ | ⟨g2, cap2, e, _, _, hc, _, hl, hcap⟩
  · rw [hv] at e; cases e
  · rw [hv] at e
    cases e
    refine ⟨ops_news fun i hi => ?_, by omega, hcap⟩
    rw [List.getElem_take]
    exact hc i (by simp at hi; omega)

set_option maxRecDepth 100000 in
set_option maxHeartbeats 2000000 in
theorem qFirst (w : World) (B q : Nat) (x y vq : Value) (os : List Ov) (k : Int) (ht : Blk w q #[x, y, vq] 109) (hr : OpR.NRow w B vq os) (hl : os.length ≤ 2000000) :
    Calls Tryz.prog 126 #[.pointer (some ⟨q, 2, none⟩), .int .i64 k] w fun e w' => ∃ u, e = .returned u ∧ OpR.NRow w' w.heap.size u (os.take k.toNat) ∧ Below w.heap.size w w' := by
  obtain ⟨j0, ji, jz0, jz1, jz2⟩ := info_parts infoO
  have t2 := ht.cell 2
  obtain ⟨m, hm, hmn, hc⟩ := clampO k os.length
  have HTK := Lib.hid (show os.take k.toNat = os.take m by rw [hm]; exact take_clamp os k.toNat)
  have HTL := Lib.hid (show (os.take m).length = m by rw [List.length_take]; omega)
  rw [HTK.out]
  rcases hr.form with ⟨rfl, rfl⟩ | ⟨g, cap, rfl, _⟩
  · simp at t2 hmn
    subst hmn
    have hc0 : min (max k 0) 0 = 0 := hc
    have HNIL := Lib.hid (World.ownsRow_nil w.drew w.heap.size 28 6)
    have hsl := fun W => sliceO_nil W 0 rfl
    clear ht hr HTK HTL hm hc
    go_enter Tryz.func126, Tryz.ntmps126
    go_wp2_with fail
    go_region_law (refine step_append_own_none _ (by rfl) _ _ _ (by rfl) w.heap.size 28 j0 6 Tryz.underlying38 ji _ 0 [] (by rfl) HNIL.out (by rfl) ?_)
    all_goals
      go_wp2
      go_ret
      exact ⟨_, rfl, OpR.NRow.nil _ _, (Below.refl _ _).drew⟩
  · have HNIL := Lib.hid (World.ownsRow_nil w.drew w.heap.size 28 6)
    obtain ⟨hnew, hcap, hcm⟩ := take_row hr rfl hmn
    have HNEW := Lib.hid (show ∀ j u, (OpR.nodesVals (os.take m))[j]? = some u → w.drew.cell? ((⟨g, 0, none⟩ : Addr).add j) = some u from hnew)
    have hsl := fun W => sliceO_to W g os.length cap m (m : Int) rfl hcap
    simp at t2
    clear ht hr hm hnew
    go_enter Tryz.func126, Tryz.ntmps126
    go_wp2_with fail
    go_region_law (refine step_append_own _ (by rfl) _ _ _ (by rfl) w.heap.size 28 j0 (.agg #[.int .i64 0, .string ⟨#[]⟩, .string ⟨#[]⟩, .string ⟨#[]⟩, .int .i64 0, .int .i64 0]) 6 72 Tryz.underlying38 ji jz0 jz1 jz2 rfl (by omega) _ 0 [] (by rfl) HNIL.out ⟨g, 0, none⟩ m cap (OpR.nodesVals (os.take m)) (by rfl) (by rw [OpR.nodesVals_len, HTL.out]) HNEW.out (opsVals_oneCell _) (by unfold maxLen; omega) (by omega) (by simp) ?_; intro v1 w1 hown1 hgrow1; (obtain ⟨a2, k2, hv2⟩ := own_slice hown1); subst hv2)
    all_goals
      go_wp2
      go_ret
      refine ⟨.slice a2 m k2, rfl, ?_, ?_⟩
      · have h2 := hown1
        rw [List.nil_append] at h2
        have e : 0 + m = m := by omega
        unfold OpR.NRow
        rw [HTL.out, ← e]
        rw [e] at h2 ⊢
        exact h2
      · exact ((Below.refl _ _).drew).grown hgrow1 (by simp) (fun j e => by cases e)
end Go.Proofs.YtipedabppgbfcaaGreatDoor
