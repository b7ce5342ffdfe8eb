/- The disk that is worked on: two trees, a queue of ops; what each keeps while the other is worked on. Sizes of rows of ops, whether two are alike: as NodeTrees has it for nodes (written by tools/gen_oprows.py). -/
import Derived.Test.YtipedabppgbfcaaGreatDoorK32
import Derived.Test.YtipedabppgbfcaaGreatDoorK19
import Derived.Test.YtipedabppgbfcaaGreatDoorK30
import Derived.Test.YtipedabppgbfcaaGreatDoorK33
import Derived.Test.YtipedabppgbfcaaGreatDoorK6
set_option linter.all false
namespace Go.Proofs.YtipedabppgbfcaaGreatDoor
open Go.RowKit

/-- Below U the blocks that trees are made of are as they were. -/
def Trees (U : Nat) (W W' : World) : Prop := ∀ (k : Nat), k < U → ∀ (o : Obj), W.heap[k]? = some o → ¬ Free o → W'.heap[k]? = some o
theorem Trees.trans {U : Nat} {A B C : World} (h : Trees U A B) (k : Trees U B C) : Trees U A C := fun i hi o ho hf => k i hi o (h i hi o ho hf) hf
theorem Trees.below {U : Nat} {W W' : World} (h : Below U W W') : Trees U W W' := fun k hk o ho _ => (h.block k hk).trans ho
theorem Trees.mono {U V : Nat} {W W' : World} (h : Trees U W W') (hv : V ≤ U) : Trees V W W' := fun k hk => h k (Nat.lt_of_lt_of_le hk hv)
/-- Blocks that no tree is made of are written. -/
theorem Trees.free {U : Nat} {W W' : World} {row : Option Nat} (h : W.grownBy W' row) (hf : ∀ k, row = some k → ∀ o, W.heap[k]? = some o → Free o) : Trees U W W' := fun k _ o ho hn =>
  (h.block k (Array.getElem?_eq_some_iff.1 ho).1 (fun e => hn (hf k e.symm o ho))).trans ho
theorem Trees.set {U : Nat} {W : World} (a : Addr) (v : Value) (hf : ∀ o, W.heap[a.block]? = some o → Free o) : Trees U W (W.setCell a v) := fun k _ o ho hn =>
  (Below.heap_setCell W a v k (fun e => hn (hf o (by rw [← e]; exact ho)))).trans ho
theorem free_blk {W : World} {b : Nat} {cs : Array Value} {t : TypeId} (h : Blk W b cs t) (h1 : t ≠ 137) (h2 : t ≠ 149) (h3 : t ≠ 142) (h4 : t ≠ 145) : ∀ o, W.heap[b]? = some o → Free o := fun o ho cs' t' m' e => by
  rw [h.blk] at ho
  cases ho
  cases e
  exact ⟨h1, h2, h3, h4⟩
theorem free_row {W : World} {B n size : Nat} {e : TypeId} {v : Value} {xs : List Value} (h : W.ownsRow B e size v n xs) (h1 : e ≠ 137) (h2 : e ≠ 149) (h3 : e ≠ 142) (h4 : e ≠ 145) : ∀ k, v.ownBlock = some k → ∀ o, W.heap[k]? = some o → Free o := fun k hk o ho cs' t' m' e => by
  rcases h.2 with ⟨hv, _⟩ | ⟨g, cap, cur, hv, _, hg, _⟩
  · rw [hv] at hk; cases hk
  · rw [hv] at hk
    have e2 : g = k := by simpa [Value.ownBlock] using hk
    subst e2
    rw [hg] at ho
    cases ho
    cases e
    exact ⟨h1, h2, h3, h4⟩
theorem Others.blk {W W' : World} {b : Nat} {cs : Array Value} {t : TypeId} (h : Others W W') (hb : Blk W b cs t) (h1 : t ≠ 137) (h2 : t ≠ 149) (h3 : t ≠ 142) (h4 : t ≠ 145) : Blk W' b cs t :=
  ⟨h b _ hb.blk (free_blk hb h1 h2 h3 h4 _ hb.blk)⟩
theorem Others.row {W W' : World} {B n size : Nat} {e : TypeId} {v : Value} {xs : List Value} (h : Others W W') (ho : W.ownsRow B e size v n xs) (h1 : e ≠ 137) (h2 : e ≠ 149) (h3 : e ≠ 142) (h4 : e ≠ 145) : W'.ownsRow B e size v n xs := by
  refine ⟨ho.1, ?_⟩
  have hf := free_row ho h1 h2 h3 h4
  rcases ho.2 with h0 | ⟨g, cap, cur, hv, hb, hg, rest⟩
  · exact .inl h0
  · exact .inr ⟨g, cap, cur, hv, hb, h g _ hg (hf g (by rw [hv]; rfl) _ hg), rest⟩
theorem Others.nrow {W W' : World} {B : Nat} {v : Value} {os : List Ov} (h : Others W W') (ho : OpR.NRow W B v os) : OpR.NRow W' B v os := h.row ho (by decide) (by decide) (by decide) (by decide)

/-- All blocks of a tree that is worked on lie below U. -/
def Under (U p : Nat) (v : Value) (ps : List (Nat × Nd)) : Prop := p < U ∧ (∀ k, v.ownBlock = some k → k < U) ∧ ∀ q ∈ ps, q.1 < U
theorem Work.under {R W : World} {B p : Nat} {v : Value} {ps : List (Nat × Nd)} {next : Int} (h : Work R W B p v ps next) : Under W.heap.size p v ps :=
  ⟨h.plt.2, fun k e => (World.ownsRow.lt h.row k e).2, fun q hq => (h.node q hq).2.lt⟩
theorem Under.mono {U V p : Nat} {v : Value} {ps : List (Nat × Nd)} (h : Under U p v ps) (hv : U ≤ V) : Under V p v ps :=
  ⟨Nat.lt_of_lt_of_le h.1 hv, fun k e => Nat.lt_of_lt_of_le (h.2.1 k e) hv, fun q hq => Nat.lt_of_lt_of_le (h.2.2 q hq) hv⟩
theorem Work.keep {R W W' : World} {B U p : Nat} {v : Value} {ps : List (Nat × Nd)} {next : Int} (h : Work R W B p v ps next) (hu : Under U p v ps) (ht : Trees U W W') : Work W' W' B p v ps next := by
  refine ⟨h.lo, ⟨ht p hu.1 _ h.top.blk (h.top.bound (.inl rfl) _ h.top.blk)⟩, ?_, fun q hq => ?_, h.apart, .refl W'⟩
  · refine ⟨h.row.1, ?_⟩
    rcases h.row.2 with h0 | ⟨g, cap, cur, hv, hb, hg, rest⟩
    · exact .inl h0
    · have hk : v.ownBlock = some g := by rw [hv]; rfl
      exact .inr ⟨g, cap, cur, hv, hb, ht g (hu.2.1 g hk) _ hg (row_bound h.row g hk _ hg), rest⟩
  · obtain ⟨h1, h2⟩ := h.node q hq
    exact ⟨h1, ⟨⟨ht q.1 (hu.2.2 q hq) _ h2.blk.blk (h2.bound _ h2.blk.blk)⟩, h2.data⟩⟩

/-- What is safe of a disk that is worked on, and its queue. -/
structure SafeAt (W : World) (B q U : Nat) (x vq : Value) (p : Nat) (v : Value) (ps : List (Nat × Nd)) (d : Kv) : Prop where
  lo : B ≤ q
  top : Blk W q #[.pointer (some ⟨p, 0, none⟩), x, vq] 109
  row : OpR.NRow W B vq d.os
  safe : Work W W B p v ps d.s.next
  ns : nds ps = d.s.ns
  under : Under U p v ps
  right : Right d.s.ns d.s.next
/-- The disk that is worked on. -/
structure DiskAt (W : World) (B q U : Nat) (vq : Value) (p : Nat) (v : Value) (ps : List (Nat × Nd)) (p2 : Nat) (v2 : Value) (ls : List (Nat × Nd)) (d : Kv) : Prop where
  one : SafeAt W B q U (.pointer (some ⟨p2, 0, none⟩)) vq p v ps d
  hB : B ≤ U
  live : Work W W U p2 v2 ls (runV d.s d.os).next
  ls : nds ls = (runV d.s d.os).ns
theorem SafeAt.on {W W' : World} {B q U : Nat} {x vq : Value} {p : Nat} {v : Value} {ps : List (Nat × Nd)} {d : Kv} (h : SafeAt W B q U x vq p v ps d) (hb : Below W.heap.size W W') : SafeAt W' B q U x vq p v ps d :=
  ⟨h.lo, h.top.on hb, h.row.on hb, (h.safe.on hb).now, h.ns, h.under, h.right⟩
theorem DiskAt.on {W W' : World} {B q U : Nat} {vq : Value} {p : Nat} {v : Value} {ps : List (Nat × Nd)} {p2 : Nat} {v2 : Value} {ls : List (Nat × Nd)} {d : Kv} (h : DiskAt W B q U vq p v ps p2 v2 ls d) (hb : Below W.heap.size W W') : DiskAt W' B q U vq p v ps p2 v2 ls d :=
  ⟨h.one.on hb, h.hB, (h.live.on hb).now, h.ls⟩
end Go.Proofs.YtipedabppgbfcaaGreatDoor
namespace Go.Proofs.YtipedabppgbfcaaGreatDoor.OpR
open Go.Proofs.YtipedabppgbfcaaGreatDoor Go.RowKit
def szOs (os : List Ov) : Nat := (os.map szO).sum
theorem eqOp (o : Ov) (w : World) :
    Calls Tryz.prog 88 #[.agg #[.int .i64 o.kind, .string (strOf o.path), .string (strOf o.dest), .string (strOf o.data), .int .i64 o.mode, .int .i64 o.time], .agg #[.int .i64 o.kind, .string (strOf o.path), .string (strOf o.dest), .string (strOf o.data), .int .i64 o.mode, .int .i64 o.time]] w fun e w' => e = .returned (.bool true) ∧ Below w.heap.size w w' := by
  generalize strOf o.path = p
  generalize strOf o.data = d
  generalize strOf o.dest = q
  go_enter Tryz.func88, Tryz.ntmps88
  go_wp2
  go_ret
  exact ⟨rfl, ((Below.refl _ _).alloc (Nat.le_refl _) _).alloc (by simp) _⟩

theorem szOs_succ {ns : List Ov} {k : Nat} (h : k < ns.length) : szOs (ns.take (k + 1)) = szOs (ns.take k) + szO ns[k] := by
  unfold szOs
  rw [List.take_succ_eq_append_getElem h, List.map_append, List.sum_append]; simp
theorem szOs_take (ns : List Ov) (k : Nat) : szOs (ns.take k) ≤ szOs ns := by
  have : szOs ns = szOs (ns.take k) + szOs (ns.drop k) := by
    unfold szOs
    rw [← List.sum_append, ← List.map_append, List.take_append_drop]
  omega
theorem szOs_mem {ns : List Ov} {n : Ov} (h : n ∈ ns) : szO n ≤ szOs ns := by
  obtain ⟨i, hi, rfl⟩ := List.getElem_of_mem h
  have h1 := szOs_succ hi
  have h2 := szOs_take ns (i + 1)
  omega
/-- How much a tree's nodes count. -/
def bulkO (ns : List Ov) : Nat := ns.length + szOs ns

set_option maxRecDepth 100000 in
set_option maxHeartbeats 2000000 in
theorem szOpS (w : World) (a : Option Addr) (len cap : Nat) (ns : List Ov) (left : Int) (h0 : 0 ≤ left) (h1 : left ≤ 1048576) (h : NIn w a len cap ns) :
    Calls Tryz.prog 44 #[.slice a len cap, .int .i64 left] w fun e w' => e = .returned (.int .i64 (leftV left (bulkO ns))) ∧ Below w.heap.size w w' := by
  have hlen := h.len
  have hcap : (len : Int) ≤ 9223372036854775807 := by
    rcases h with ⟨_, h, _⟩ | ⟨x, _, h2, h3, _⟩
    · omega
    · unfold maxLen at h3; omega
  by_cases hbig : (len : Int) ≤ left
  · have d1 : ¬ left - (len : Int) < 0 := by omega
    have HN := Lib.hid h
    have HLEN := Lib.hid hlen
    clear h hlen
    go_enter Tryz.func44, Tryz.ntmps44
    go_wp2
    go_loopw [1, 5] (fun l i W => ∃ k : Nat, k ≤ len ∧ i = .int .i64 k ∧ l = .int .i64 (left - len - (szOs (ns.take k) : Nat)) ∧ (szOs (ns.take k) : Int) ≤ left - len ∧ Below w.heap.size w W) (fun _ i _ => len - (intOf i).toNat)
    case atStart => exact ⟨0, Nat.zero_le _, rfl, by simp [szOs], by simp [szOs]; omega, Below.refl _ _⟩
    case round =>
      obtain ⟨k, hk, rfl, rfl, hle, hb⟩ := hrel
      have HB := Lib.hid hb
      clear hb
      by_cases hlt : k < len
      · have hki : (k : Int) < (len : Int) := by omega
        rcases HN.out.on HB.out with ⟨_, h, _⟩ | ⟨x, rfl, hlc, hcm, hnl, hxb, hsz, hx⟩
        · omega
        have hkn : k < ns.length := by omega
        have hz1 := hsz ns[k] (List.getElem_mem hkn)
        have HS := Lib.hid (szOs_succ hkn)
        have HT := Lib.hid (szOs_take ns (k + 1))
        obtain ⟨nd, hnd⟩ : ∃ nd, ns[k] = nd := ⟨_, rfl⟩
        have hcs := hx k hkn
        rw [hnd] at hcs hz1 HS
        obtain ⟨d0, d1, d2, d3, d4, d5⟩ := hcs.cells
        obtain ⟨u, hu⟩ : ∃ u, szOs (ns.take k) = u := ⟨_, rfl⟩
        rw [hu] at HS hle ⊢
        have HU := Lib.hid hu
        unfold maxLen at hcm
        clear hx hnd hsz hcs hu
        by_cases hfit : (szO nd : Int) ≤ left - len - u
        · have CS := szOp nd hz1 (left - len - u) wr (by omega) (by omega)
          rw [leftV_in hfit] at CS
          have d7 : ¬ left - (len : Int) - u - (szO nd : Int) < 0 := by omega
          clear hz1
          go_wp2_with (go_at_call 38; refine CS.mono ?_; rintro e W1 ⟨rfl, hb2⟩)
          go_roundw
          case rel => exact ⟨k + 1, by omega, by go_num, by rw [HS.out]; go_num, by rw [HS.out]; omega, HB.out.trans (hb2.mono HB.out.size)⟩
          case measure => simp [intOf]; omega
        · have CS := szOp nd hz1 (left - len - u) wr (by omega) (by omega)
          rw [leftV_out hfit] at CS
          clear hz1
          go_wp2_with (go_at_call 38; refine CS.mono ?_; rintro e W1 ⟨rfl, hb2⟩)
          go_ret
          refine ⟨ret_int ?_, HB.out.trans (hb2.mono HB.out.size)⟩
          have h1 := HS.out
          have h2 := HT.out
          have h3 := HLEN.out
          rw [leftV_out (by unfold bulkO; omega)]
      · have hke : k = len := by omega
        have hki : ¬ (k : Int) < (len : Int) := by omega
        have HU := Lib.hid (show szOs (ns.take k) = szOs ns by rw [List.take_of_length_le (by have := HLEN.out; omega)])
        have HK := Lib.hid hke
        clear hke
        go_wp2
        go_ret
        refine ⟨ret_int ?_, HB.out⟩
        have h3 := HLEN.out
        have h4 := HU.out
        rw [h4] at hle ⊢
        rw [leftV_in (by unfold bulkO; omega)]
        unfold bulkO; omega
  · have d1 : left - (len : Int) < 0 := by omega
    clear h
    go_enter Tryz.func44, Tryz.ntmps44
    go_wp2
    go_ret
    exact ⟨ret_int (by rw [leftV_out (by unfold bulkO; omega)]), Below.refl _ _⟩

set_option maxRecDepth 100000 in
set_option maxHeartbeats 2000000 in
theorem eqOpS (w : World) (v1 v2 : Value) (ns : List Ov) (h1 : NRd w v1 ns) (h2 : NRd w v2 ns) :
    Calls Tryz.prog 46 #[v1, v2] w fun e w' => e = .returned (.bool true) ∧ Below w.heap.size w w' := by
  by_cases hn : ns = []
  · subst hn
    obtain ⟨a1, c1, rfl, _⟩ := h1
    obtain ⟨a2, c2, rfl, _⟩ := h2
    go_enter Tryz.func46, Tryz.ntmps46
    go_wp2
    go_loop [5] (fun i => i = .int .i64 0) (fun _ => 0)
    case atStart => rfl
    case round =>
      subst hrel
      go_wp2
      go_ret
      exact ⟨rfl, Below.refl _ _⟩
  · obtain ⟨g1, c1, rfl, hg1, hl1, hm1, hc1⟩ := h1.at hn
    obtain ⟨g2, c2, rfl, hg2, hl2, hm2, hc2⟩ := h2.at hn
    clear h1 h2 hn
    unfold maxLen at hm1 hm2
    have HC1 := Lib.hid hc1
    have HC2 := Lib.hid hc2
    clear hc1 hc2
    go_enter Tryz.func46, Tryz.ntmps46
    go_wp2
    go_loopw [5] (fun i W => ∃ k : Nat, k ≤ ns.length ∧ i = .int .i64 k ∧ Below w.heap.size w W) (fun i _ => ns.length - (intOf i).toNat)
    case atStart => exact ⟨0, Nat.zero_le _, rfl, Below.refl _ _⟩
    case round =>
      obtain ⟨k, hk, rfl, hb⟩ := hrel
      by_cases h : k < ns.length
      · have hki : (k : Int) < (ns.length : Int) := by omega
        have hk1 := (HC1.out k h).on hg1 hb
        have hk2 := (HC2.out k h).on hg2 hb
        generalize ns[k] = nd at hk1 hk2
        have cE : ∀ d os, Calls Tryz.prog 88 #[.agg #[.int .i64 nd.kind, .string (strOf nd.path), .string (strOf nd.dest), .string (strOf nd.data), .int .i64 nd.mode, .int .i64 nd.time], .agg #[.int .i64 nd.kind, .string (strOf nd.path), .string (strOf nd.dest), .string (strOf nd.data), .int .i64 nd.mode, .int .i64 nd.time]] (Sort.grow (redrawn wr d) os) fun e w'' => e = .returned (.bool true) ∧ ∃ p : Regrown, w'' = Sort.grow (redrawn wr p.d) p.os :=
          fun d os => Calls.regrown_of (eqOp nd _)
        have CE := Lib.hid cE
        have a0 : ∀ d os, (Sort.grow (redrawn wr d) os).cell? ⟨g1, k * 6, none⟩ = _ := fun d os => cell_regrown hk1.c0 d os
        have a1 : ∀ d os, (Sort.grow (redrawn wr d) os).cell? ⟨g1, k * 6 + 1, none⟩ = _ := fun d os => cell_regrown hk1.c1 d os
        have a2 : ∀ d os, (Sort.grow (redrawn wr d) os).cell? ⟨g1, k * 6 + 2, none⟩ = _ := fun d os => cell_regrown hk1.c2 d os
        have a3 : ∀ d os, (Sort.grow (redrawn wr d) os).cell? ⟨g1, k * 6 + 3, none⟩ = _ := fun d os => cell_regrown hk1.c3 d os
        have a4 : ∀ d os, (Sort.grow (redrawn wr d) os).cell? ⟨g1, k * 6 + 4, none⟩ = _ := fun d os => cell_regrown hk1.c4 d os
        have a5 : ∀ d os, (Sort.grow (redrawn wr d) os).cell? ⟨g1, k * 6 + 5, none⟩ = _ := fun d os => cell_regrown hk1.c5 d os
        have b0 : ∀ d os, (Sort.grow (redrawn wr d) os).cell? ⟨g2, k * 6, none⟩ = _ := fun d os => cell_regrown hk2.c0 d os
        have b1 : ∀ d os, (Sort.grow (redrawn wr d) os).cell? ⟨g2, k * 6 + 1, none⟩ = _ := fun d os => cell_regrown hk2.c1 d os
        have b2 : ∀ d os, (Sort.grow (redrawn wr d) os).cell? ⟨g2, k * 6 + 2, none⟩ = _ := fun d os => cell_regrown hk2.c2 d os
        have b3 : ∀ d os, (Sort.grow (redrawn wr d) os).cell? ⟨g2, k * 6 + 3, none⟩ = _ := fun d os => cell_regrown hk2.c3 d os
        have b4 : ∀ d os, (Sort.grow (redrawn wr d) os).cell? ⟨g2, k * 6 + 4, none⟩ = _ := fun d os => cell_regrown hk2.c4 d os
        have b5 : ∀ d os, (Sort.grow (redrawn wr d) os).cell? ⟨g2, k * 6 + 5, none⟩ = _ := fun d os => cell_regrown hk2.c5 d os
        clear cE hk1 hk2
        go_wp2
        refine wp_region_quiet_below (by kernel_rfl) (by kernel_rfl) ?_
        repeat (quiet_step (exact CE.out _ _))
        refine wpQuiet_nil ?_
        intro w2 hw2
        obtain ⟨p, rfl⟩ := hw2
        go_wp2
        go_roundw
        case rel => exact ⟨k + 1, by omega, by go_num, hb.trans ((below_regrown wr p.d p.os).mono hb.size)⟩
        case measure => simp [intOf]; omega
      · go_wp2
        go_ret
        exact ⟨rfl, hb⟩

end Go.Proofs.YtipedabppgbfcaaGreatDoor.OpR
