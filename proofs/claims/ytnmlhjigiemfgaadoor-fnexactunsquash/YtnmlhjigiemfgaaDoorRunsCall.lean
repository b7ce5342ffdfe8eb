/- A run of bytes told, and spread, in company: whatever the others do to the channel's block. -/
import Derived.Test.YtnmlhjigiemfgaaDoorRunsChild
import Derived.Conc.CompanyMem
import Derived.Conc.AppendWalk
import Derived.Laws.NewBlocks
import Derived.Below
namespace Go.Proofs.YtnmlhjigiemfgaaDoor
open Go Go.Conc Go.RowKit

/-- What goroutine 0's own step leaves: the blocks ahead of N + 4, but N. -/
structure Keeps (N : Nat) (w w' : World) : Prop where
  os : w'.os = w.os
  tape : w'.tape = w.tape
  output : w'.output = w.output
  size : w.heap.size ≤ w'.heap.size
  block : ∀ k, k < N + 4 → k ≠ N → w'.heap[k]? = w.heap[k]?
theorem Keeps.refl (N : Nat) (w : World) : Keeps N w w := ⟨rfl, rfl, rfl, Nat.le_refl _, fun _ _ _ => rfl⟩
theorem Keeps.alloc {N : Nat} {w : World} (h : N + 4 ≤ w.heap.size) (o : Obj) : Keeps N w (w.alloc o) := ⟨rfl, rfl, rfl, by simp, fun k hk _ => heap_alloc_old w o (by omega)⟩
theorem Keeps.grown {N : Nat} {w w' : World} {row : Option Nat} (h : N + 4 ≤ w.heap.size) (hg : w.grownBy w' row) (hr : ∀ k, row = some k → N + 4 ≤ k) : Keeps N w w' :=
  ⟨hg.os, hg.tape, hg.output, hg.size, fun k hk _ => hg.block k (by omega) fun e => by have := hr k e.symm; omega⟩
theorem evA_readR {N : Nat} (l : Loc) (s : Bool) (h : ∀ m, l ≠ .mark m) : EvA (MineR N) ⟨l, false, s⟩ := ⟨fun m e => (h m e).elim, fun h => by cases h⟩

def RowB (o : Obj) : Prop := ∃ cur, o = .cells cur 5 (0, 0)
/-- WHAT GOROUTINE 0 KNOWS: the row v of the bytes l, from block N + 4 on; the blocks ahead of N as they were; some blocks that it has made itself, which are no rows of bytes. -/
structure AF (N : Nat) (W : World) (K : List (Nat × Obj)) (v : Value) (l : List UInt8) (w : World) : Prop where
  own : Bytes w (N + 4) v l
  below : Below N W w
  size : N + 4 ≤ w.heap.size
  kn : ∀ p ∈ K, p.1 ≠ N + 2 ∧ w.heap[p.1]? = some p.2 ∧ ¬ RowB p.2
theorem Bytes.aside {c B : Nat} {v : Value} {l : List UInt8} {w w₁ : World} (h : Bytes w B v l) (ha : Aside c w w₁) (hc : c < B) : Bytes w₁ B v l := by
  refine ⟨h.1, ?_⟩
  rcases h.2 with h0 | ⟨g, cp, cur, e, hg, hh, r⟩
  · exact .inl h0
  · exact .inr ⟨g, cp, cur, e, hg, (ha.block g (by omega)).trans hh, r⟩
theorem AF.aside {N : Nat} {W : World} {K : List (Nat × Obj)} {v : Value} {l : List UInt8} {w w₁ : World} (h : AF N W K v l w) (ha : Aside (N + 2) w w₁) : AF N W K v l w₁ :=
  ⟨h.own.aside ha (by omega), ⟨ha.os.trans h.below.os, ha.tape.trans h.below.tape, ha.output.trans h.below.output, by rw [ha.size]; exact h.below.size, fun k hk => (ha.block k (by omega)).trans (h.below.block k hk)⟩, by rw [ha.size]; exact h.size,
    fun p hp => ⟨(h.kn p hp).1, (ha.block _ (h.kn p hp).1).trans (h.kn p hp).2.1, (h.kn p hp).2.2⟩⟩
theorem AF.cell {N : Nat} {W : World} {K : List (Nat × Obj)} {v : Value} {l : List UInt8} {w : World} (h : AF N W K v l w) {M : Nat} {o : Obj} (hm : (M, o) ∈ K) : w.heap[M]? = some o := (h.kn _ hm).2.1
theorem AF.alloc0 {N : Nat} {W : World} {K : List (Nat × Obj)} {v : Value} {l : List UInt8} {w : World} (h : AF N W K v l w) (o : Obj) : AF N W K v l (w.alloc o) := by
  refine ⟨h.own.alloc o, h.below.alloc (by have := h.size; omega) o, by have := h.size; simp; omega, fun p hp => ?_⟩
  have h1 := (h.kn p hp).2.1
  have h2 := (Array.getElem?_eq_some_iff.1 h1).1
  exact ⟨(h.kn p hp).1, (heap_alloc_old w o h2).trans h1, (h.kn p hp).2.2⟩
theorem AF.alloc {N : Nat} {W : World} {K : List (Nat × Obj)} {v : Value} {l : List UInt8} {w : World} (h : AF N W K v l w) (o : Obj) (ho : ¬ RowB o) : AF N W ((w.heap.size, o) :: K) v l (w.alloc o) := by
  refine ⟨(h.alloc0 o).own, (h.alloc0 o).below, (h.alloc0 o).size, fun p hp => ?_⟩
  rcases List.mem_cons.1 hp with rfl | hp
  · exact ⟨by have := h.size; simp; omega, heap_alloc_new w o, ho⟩
  · exact (h.alloc0 o).kn p hp
theorem AF.grown {N : Nat} {W : World} {K : List (Nat × Obj)} {v v' : Value} {l l' : List UInt8} {w w' : World} (h : AF N W K v l w) (hg : w.grownBy w' v.ownBlock) (ho : Bytes w' (N + 4) v' l') : AF N W K v' l' w' := by
  refine ⟨ho, h.below.grown hg (by have := h.size; omega) (fun k hk => by have := (h.own.lt k hk).1; omega), Nat.le_trans h.size hg.size, fun p hp => ?_⟩
  have h1 := (h.kn p hp).2.1
  have h2 := (Array.getElem?_eq_some_iff.1 h1).1
  refine ⟨(h.kn p hp).1, (hg.block _ h2 (fun e => ?_)).trans h1, (h.kn p hp).2.2⟩
  rcases h.own.2 with ⟨rfl, _⟩ | ⟨g, cp, cur, rfl, hgb, hh, r⟩
  · simp [Value.ownBlock] at e
  · simp [Value.ownBlock] at e
    rw [e, hh] at h1
    exact (h.kn p hp).2.2 ⟨cur, (Option.some.inj h1).symm⟩
theorem AF.less {N : Nat} {W : World} {K K' : List (Nat × Obj)} {v : Value} {l : List UInt8} {w : World} (h : AF N W K v l w) (hk : ∀ p ∈ K', p ∈ K) : AF N W K' v l w := ⟨h.own, h.below, h.size, fun p hp => h.kn p (hk p hp)⟩
theorem AF.tail {N : Nat} {W : World} {p : Nat × Obj} {K : List (Nat × Obj)} {v : Value} {l : List UInt8} {w : World} (h : AF N W (p :: K) v l w) : AF N W K v l w := h.less fun _ hp => List.mem_cons_of_mem _ hp
/-- append(v, m..): the bytes m in a row at block M'. -/
theorem AF.append {N M : Nat} {W : World} {K : List (Nat × Obj)} {v : Value} {l m : List UInt8} {w : World} (h : AF N W K v l w) (hm : w.heap[M]? = some (.cells (byteVals m).toArray 5 (0, 0))) (hlen : l.length + m.length ≤ 2000000000) :
    ∃ v' w', (Builtin.append_ #[22, 22] 22 #[v, .slice (some ⟨M, 0, none⟩) m.length m.length]).run Tryd.prog w = .ok v' w' ∧ AF N W K v' (l ++ m) w' ∧ Keeps N w w' ∧
      ∀ e ∈ (Builtin.append_ #[22, 22] 22 #[v, .slice (some ⟨M, 0, none⟩) m.length m.length]).events Tryd.prog w #[], EvA (MineR N) e := by
  obtain ⟨i0, hi, hz0, hz1, hz2⟩ := info_parts infoB
  have hnews : ∀ j u, (byteVals m)[j]? = some u → w.cell? ((⟨M, 0, none⟩ : Addr).add j) = some u := by
    intro j u hj
    have hadd : (⟨M, 0, none⟩ : Addr).add j = ⟨M, j, none⟩ := by unfold Addr.add; split <;> simp_all
    rw [hadd, cell_of_row w M j _ _ (0, 0) hm]
    simpa using hj
  have h1 : ∀ u ∈ byteVals m, u.oneCell' = true := by intro u hu; simp [byteVals] at hu; obtain ⟨_, _, rfl⟩ := hu; rfl
  have hl : (byteVals m).length = m.length * 1 := by simp [byteVals]
  obtain ⟨v', w', hr, hown', hgrow, _⟩ := run_append_own (P := Tryd.prog) w (N + 4) 22 22 5 i0 (.int .u8 0) 1 1 Tryd.underlying22 hi hz0 hz1 hz2 rfl (by decide) v l.length (byteVals l) h.own ⟨M, 0, none⟩ m.length m.length (byteVals m) hl hnews h1 (by unfold maxLen; omega) (by omega) h.size
  have hevs := events_append_own (P := Tryd.prog) w (N + 4) 22 22 5 i0 (.int .u8 0) 1 1 Tryd.underlying22 hi hz0 hz1 hz2 v l.length (byteVals l) h.own ⟨M, 0, none⟩ m.length m.length (byteVals m) hl hnews h1 (by unfold maxLen; omega) (by omega)
  refine ⟨v', w', hr, h.grown hgrow ?_, Keeps.grown h.size hgrow (fun k hk => (h.own.lt k hk).1), fun e he => ?_⟩
  · unfold Bytes
    rw [List.length_append, show byteVals (l ++ m) = byteVals l ++ byteVals m by simp [byteVals]]
    exact hown'
  · rcases hevs e he with ⟨ad, h2, h3⟩ | ⟨ad, h2, h3⟩ | ⟨x, rfl, hn⟩
    · exact ⟨fun m => by rw [h2]; simp, fun hw => by rw [h3] at hw; cases hw⟩
    · exact ⟨fun m => by rw [h2]; simp, fun _ => ⟨ad, h2, .inr (h.own.lt _ h3.symm).1⟩⟩
    · exact ⟨fun m' h' => (by cases h'; exact hn), fun hw => (by cases hw)⟩

/-- A run's struct as a value, and as a block. -/
def runV (c : UInt8) (n : Nat) : Value := .agg #[.int .u8 (c.toNat : Int), .int .i64 (n : Int)]
def slotN (a : Act) (t : Nat) : Nat := match a.tmps[t]? with | some (.int _ k) => k.toNat | _ => 0
def runO (c : UInt8) (n : Nat) : Obj := .cells #[.int .u8 (c.toNat : Int), .int .i64 (n : Int)] 37 (0, 0)
theorem runO_row (c : UInt8) (n : Nat) : ¬ RowB (runO c n) := fun ⟨cur, h⟩ => by simp [runO] at h
theorem AF.c0 {N M : Nat} {W : World} {K : List (Nat × Obj)} {v : Value} {l : List UInt8} {w : World} {c : UInt8} {n : Nat} (h : AF N W ((M, runO c n) :: K) v l w) : w.cell? ⟨M, 0, none⟩ = some (.int .u8 (c.toNat : Int)) := by simp [World.cell?, h.cell (List.mem_cons_self ..), runO]
theorem AF.c1 {N M : Nat} {W : World} {K : List (Nat × Obj)} {v : Value} {l : List UInt8} {w : World} {c : UInt8} {n : Nat} (h : AF N W ((M, runO c n) :: K) v l w) : w.cell? ⟨M, 1, none⟩ = some (.int .i64 (n : Int)) := by simp [World.cell?, h.cell (List.mem_cons_self ..), runO]

theorem events_conv_iu (n : Int) (w : World) (es : Array Event) : (convert 3 5 (.int .i64 n)).events Tryd.prog w es = es := by
  simp [convert, Tryd.underlying3, Tryd.underlying5, go_sem]

section
variable {R : World → World → Prop} {D : World → World → Array Event → Prop} (T : Terms R D) (N : Nat) (hR : ∀ w w₁, R w w₁ → Aside (N + 2) w w₁)
  (hD : ∀ w w' es, N + 4 ≤ w.heap.size → Keeps N w w' → (∀ e ∈ es, EvA (MineR N) e) → D w w' es)
include T hR hD

set_option maxRecDepth 100000 in
/-- appendAllTo. -/
theorem appendAllC : ∃ nf, ∀ (W : World) (K : List (Nat × Obj)) (v : Value) (l : List UInt8) (c : UInt8) (n : Nat) (w : World), AF N W K v l w → n ≤ 255 → l.length + n ≤ 1000000000 →
    CallsC Tryd.prog true R D 37 #[runV c n, v] nf w fun v' w' => AF N W K v' (l ++ List.replicate n c) w' := by
  co_apply Exists.intro
  intro W K v l c n w hF hn hlen
  have rl : ∀ {K : List (Nat × Obj)} {v : Value} {l : List UInt8} {w w₁ : World}, AF N W K v l w → R w w₁ → AF N W K v l w₁ := fun h r => h.aside (hR _ _ r)
  co_apply callsC_of_wpC Tryd.func37 (by rfl) rfl
  simp only [runV, Tryd.ntmps37, List.size_toArray, List.length_cons, List.length_nil, Nat.reduceAdd, Nat.reduceSub, Array.replicate_succ, Array.replicate_zero, List.push_toArray, List.append_toArray, List.nil_append, List.cons_append]
  co_apply wpC_seq T
  co_reg T
  co_opw rl hF (skip) (refine hD _ _ _ hF.size (Keeps.alloc hF.size _) ?_; co_evs (skip))
  replace hF := hF.alloc (runO c n) (runO_row c n)
  rename_i w0
  generalize hM : w0.heap.size = M at hF ⊢
  clear hM
  co_op rl hF (co_quiet T)
  co_apply opsC_nil T
  co_then
  co_apply wpC_seq T
  co_apply wpC_seq T
  co_reg T
  co_op rl hF (co_quiet T)
  co_opw rl hF (have hc := hF.c1) (refine hD _ _ _ hF.size (Keeps.refl _ _) ?_; co_evs (exact evA_readR _ _ (by simp)))
  co_op rl hF (co_quiet T)
  co_apply opsC_nil T
  co_then
  co_apply wpC_block T
  co_apply wpC_loop T (fun a w => ∃ (k : Nat) (v' u5 u8 u9 u10 u11 u12 u13 u14 u15 : Value), k ≤ n ∧ a = ⟨#[.agg #[.int .u8 (c.toNat : Int), .int .i64 (n : Int)], v', .pointer (some ⟨M, 0, none⟩), undef, .slice none 0 0, u5, .int .i64 (n : Int), .int .i64 (k : Int), u8, u9, u10, u11, u12, u13, u14, u15], []⟩ ∧
      AF N W ((M, runO c n) :: K) v' (l ++ List.replicate k c) w)
    (fun a _ => n - slotN a 7) _ 255 ⟨0, v, _, _, _, _, _, _, _, _, _, Nat.zero_le _, rfl, by simpa using hF⟩ (by omega)
  intro a w' hI
  obtain ⟨k, v', u5, u8, u9, u10, u11, u12, u13, u14, u15, hk, rfl, hF⟩ := hI
  co_apply wpC_seq T
  co_reg T
  co_op rl hF (co_quiet T)
  co_apply opsC_nil T
  co_then
  co_apply wpC_seq T
  co_split T (decide ((k : Int) < (n : Int)))
  · intro ht
    have hlt : k < n := by simpa using ht
    co_apply wpC_skip T
    co_then
    co_apply wpC_seq T
    co_apply wpC_block T
    co_reg T
    co_op rl hF (co_quiet T)
    co_op rl hF (co_quiet T)
    co_opw rl hF (have hc := hF.c0) (refine hD _ _ _ hF.size (Keeps.refl _ _) ?_; co_evs (exact evA_readR _ _ (by simp)))
    co_opw rl hF (skip) (refine hD _ _ _ hF.size (Keeps.alloc hF.size _) ?_; co_evs (skip))
    rename_i w1
    have hnew : (w1.alloc (.cells #[.int .u8 (c.toNat : Int)] 5)).heap[w1.heap.size]? = some (.cells (byteVals [c]).toArray 5 (0, 0)) := heap_alloc_new _ _
    have hsz := hF.size
    replace hF := hF.alloc0 (.cells #[.int .u8 (c.toNat : Int)] 5)
    co_apply opsC_cons_k rfl (by rfl)
    intro w2 h2 K' hK'
    replace hnew := ((hR _ _ h2).block _ (by omega)).trans hnew
    replace hF := rl hF h2
    obtain ⟨v2, w3, hr, hF3, hk3, hev⟩ := hF.append hnew (by simp; omega)
    refine uponK_append (.tmp 9) (.tmp 12) 22 rfl rfl rfl hr (hK' _ _ ⟨hD _ _ _ hF.size hk3 (fun e he => ?_), ?_⟩)
    · have hm := mem_listed he
      rw [events_append_op (.tmp 9) (.tmp 12) 22 rfl rfl rfl] at hm
      exact hev e hm
    clear hK' K' hr hev hk3 hnew hF
    try walk_nrm
    co_op rl hF3 (co_quiet T)
    co_apply opsC_nil T
    co_then
    co_reg T
    have hwr : IntKind.i64.wrap ((k : Int) + 1) = (k : Int) + 1 := by rw [IntKind.wrap_i64]; omega
    co_op rl hF3 (co_quiet T)
    rw [show (k : Int) + 1 = ((k + 1 : Nat) : Int) by omega]
    co_op rl hF3 (co_quiet T)
    co_apply opsC_nil T
    co_then
    refine ⟨⟨k + 1, v2, _, _, _, _, _, _, _, _, _, by omega, rfl, ?_⟩, ?_⟩
    · rw [List.replicate_succ', ← List.append_assoc]; exact hF3
    · simp [slotN]; omega
  · intro ht
    have hlt : k = n := by simp at ht; omega
    subst hlt
    co_apply wpC_exit T
    co_then
    co_apply wpC_seq T
    co_reg T
    co_op rl hF (co_quiet T)
    co_op rl hF (co_quiet T)
    co_apply opsC_nil T
    co_then
    co_apply wpC_ret T
    exact ⟨rfl, _, resultsC_tmp (by rfl) _, by simpa using hF.tail⟩

/-- A run told: in three bytes or as it stands. -/
def longB (c : UInt8) (n : Nat) : Bool := decide (4 ≤ n) || (decide (0 < n) && c.toNat == 1)
def appV (c : UInt8) (n : Nat) : List UInt8 := if longB c n then [1, UInt8.ofNat n, c] else List.replicate n c

set_option maxRecDepth 100000 in
set_option maxHeartbeats 4000000 in
/-- appendTo. -/
theorem appendToC : ∃ nf, ∀ (W : World) (K : List (Nat × Obj)) (v : Value) (l : List UInt8) (c : UInt8) (n : Nat) (w : World), AF N W K v l w → n ≤ 255 → l.length + n ≤ 500000000 →
    CallsC Tryd.prog true R D 26 #[runV c n, v] nf w fun v' w' => AF N W K v' (l ++ appV c n) w' := by
  obtain ⟨nf, hall⟩ := appendAllC T N hR hD
  co_apply Exists.intro
  intro W K v l c n w hF hn hlen
  have rl : ∀ {K : List (Nat × Obj)} {v : Value} {l : List UInt8} {w w₁ : World}, AF N W K v l w → R w w₁ → AF N W K v l w₁ := fun h r => h.aside (hR _ _ r)
  co_apply callsC_of_wpC Tryd.func26 (by rfl) rfl
  simp only [runV, Tryd.ntmps26, List.size_toArray, List.length_cons, List.length_nil, Nat.reduceAdd, Nat.reduceSub, Array.replicate_succ, Array.replicate_zero, List.push_toArray, List.append_toArray, List.nil_append, List.cons_append]
  co_apply wpC_seq T
  co_reg T
  co_opw rl hF (skip) (refine hD _ _ _ hF.size (Keeps.alloc hF.size _) ?_; co_evs (skip))
  replace hF := hF.alloc (runO c n) (runO_row c n)
  rename_i w0
  generalize hM : w0.heap.size = M at hF ⊢
  clear hM
  co_op rl hF (co_quiet T)
  co_apply opsC_nil T
  co_then
  co_apply wpC_seq T
  co_apply wpC_seq_mid T (fun a w => ∃ u5 u6 u7 u8 u9 u10 u11 u12 u13 u14 u15 u16 : Value, a = ⟨#[.agg #[.int .u8 (c.toNat : Int), .int .i64 (n : Int)], v, .pointer (some ⟨M, 0, none⟩), undef, .slice none 0 0, u5, u6, u7, u8, u9, u10, u11, u12, u13, u14, u15, u16, .bool (longB c n), undef, undef, undef, undef, undef, undef, undef, undef, undef, undef, undef], []⟩ ∧ AF N W ((M, runO c n) :: K) v l w)
  · by_cases h4 : (4 : Int) ≤ (n : Int)
    · have hl : longB c n = true := by simp [longB]; omega
      co_reg T
      co_op rl hF (co_quiet T)
      co_opw rl hF (have hc := hF.c1) (refine hD _ _ _ hF.size (Keeps.refl _ _) ?_; co_evs (exact evA_readR _ _ (by simp)))
      co_op rl hF (co_quiet T)
      co_op rl hF (co_quiet T)
      co_apply opsC_unwanted T rfl (by rfl)
      (try walk_nrm)
      co_apply opsC_unwanted T rfl (by rfl)
      (try walk_nrm)
      co_apply opsC_unwanted T rfl (by rfl)
      (try walk_nrm)
      co_apply opsC_unwanted T rfl (by rfl)
      (try walk_nrm)
      co_apply opsC_unwanted T rfl (by rfl)
      (try walk_nrm)
      co_apply opsC_unwanted T rfl (by rfl)
      (try walk_nrm)
      co_apply opsC_unwanted T rfl (by rfl)
      (try walk_nrm)
      co_apply opsC_unwanted T rfl (by rfl)
      (try walk_nrm)
      co_op rl hF (co_quiet T)
      co_apply opsC_nil T
      co_then
      exact ⟨_, _, _, _, _, _, _, _, _, _, _, _, by first | (rw [hl]; done) | (rw [hl, hb]; done), hF⟩
    by_cases h0 : 0 < n
    · by_cases hc1 : c.toNat = 1
      · have hl : longB c n = true := by simp [longB]; omega
        have hb : ((c.toNat : Int) == 1) = true := by rw [hc1]; rfl
        clear hc1
        co_reg T
        co_op rl hF (co_quiet T)
        co_opw rl hF (have hc := hF.c1) (refine hD _ _ _ hF.size (Keeps.refl _ _) ?_; co_evs (exact evA_readR _ _ (by simp)))
        co_op rl hF (co_quiet T)
        co_op rl hF (co_quiet T)
        co_op rl hF (co_quiet T)
        co_opw rl hF (have hc := hF.c1) (refine hD _ _ _ hF.size (Keeps.refl _ _) ?_; co_evs (exact evA_readR _ _ (by simp)))
        co_op rl hF (co_quiet T)
        co_op rl hF (co_quiet T)
        co_op rl hF (co_quiet T)
        co_opw rl hF (have hc := hF.c0) (refine hD _ _ _ hF.size (Keeps.refl _ _) ?_; co_evs (exact evA_readR _ _ (by simp)))
        co_op rl hF (co_quiet T)
        co_op rl hF (co_quiet T)
        co_op rl hF (co_quiet T)
        co_apply opsC_nil T
        co_then
        exact ⟨_, _, _, _, _, _, _, _, _, _, _, _, by first | (rw [hl]; done) | (rw [hl, hb]; done), hF⟩
      · have hl : longB c n = false := by simp [longB]; omega
        have hb : ((c.toNat : Int) == 1) = false := by simp; omega
        clear hc1
        co_reg T
        co_op rl hF (co_quiet T)
        co_opw rl hF (have hc := hF.c1) (refine hD _ _ _ hF.size (Keeps.refl _ _) ?_; co_evs (exact evA_readR _ _ (by simp)))
        co_op rl hF (co_quiet T)
        co_op rl hF (co_quiet T)
        co_op rl hF (co_quiet T)
        co_opw rl hF (have hc := hF.c1) (refine hD _ _ _ hF.size (Keeps.refl _ _) ?_; co_evs (exact evA_readR _ _ (by simp)))
        co_op rl hF (co_quiet T)
        co_op rl hF (co_quiet T)
        co_op rl hF (co_quiet T)
        co_opw rl hF (have hc := hF.c0) (refine hD _ _ _ hF.size (Keeps.refl _ _) ?_; co_evs (exact evA_readR _ _ (by simp)))
        co_op rl hF (co_quiet T)
        co_op rl hF (co_quiet T)
        co_op rl hF (co_quiet T)
        co_apply opsC_nil T
        co_then
        exact ⟨_, _, _, _, _, _, _, _, _, _, _, _, by first | (rw [hl]; done) | (rw [hl, hb]; done), hF⟩
    · have hl : longB c n = false := by simp [longB]; omega
      co_reg T
      co_op rl hF (co_quiet T)
      co_opw rl hF (have hc := hF.c1) (refine hD _ _ _ hF.size (Keeps.refl _ _) ?_; co_evs (exact evA_readR _ _ (by simp)))
      co_op rl hF (co_quiet T)
      co_op rl hF (co_quiet T)
      co_op rl hF (co_quiet T)
      co_opw rl hF (have hc := hF.c1) (refine hD _ _ _ hF.size (Keeps.refl _ _) ?_; co_evs (exact evA_readR _ _ (by simp)))
      co_op rl hF (co_quiet T)
      co_op rl hF (co_quiet T)
      co_apply opsC_unwanted T rfl (by rfl)
      (try walk_nrm)
      co_apply opsC_unwanted T rfl (by rfl)
      (try walk_nrm)
      co_apply opsC_unwanted T rfl (by rfl)
      (try walk_nrm)
      co_op rl hF (co_quiet T)
      co_op rl hF (co_quiet T)
      co_apply opsC_nil T
      co_then
      exact ⟨_, _, _, _, _, _, _, _, _, _, _, _, by first | (rw [hl]; done) | (rw [hl, hb]; done), hF⟩
  · intro a w' hI
    obtain ⟨u5, u6, u7, u8, u9, u10, u11, u12, u13, u14, u15, u16, rfl, hF⟩ := hI
    co_split T (longB c n)
    · intro hl
      have ha : appV c n = [1, UInt8.ofNat n, c] := by simp [appV, hl]
      have hw : IntKind.u8.wrap (n : Int) = ((UInt8.ofNat n).toNat : Int) := by rw [IntKind.wrap_u8]; simp [UInt8.toNat_ofNat']; try omega
      have hw' : IntKind.u8.wrap (n : Int) = (n : Int) := by rw [IntKind.wrap_u8]; omega
      rw [ha]
      co_apply wpC_seq T
      co_reg T
      co_op rl hF (co_quiet T)
      co_op rl hF (co_quiet T)
      co_opw rl hF (have hc := hF.c1) (refine hD _ _ _ hF.size (Keeps.refl _ _) ?_; co_evs (exact evA_readR _ _ (by simp)))
      have hcv := events_conv_iu (n : Int)
      clear hw'
      co_op rl hF (co_still T)
      clear hcv
      co_op rl hF (co_quiet T)
      co_opw rl hF (have hc := hF.c0) (refine hD _ _ _ hF.size (Keeps.refl _ _) ?_; co_evs (exact evA_readR _ _ (by simp)))
      co_opw rl hF (skip) (refine hD _ _ _ hF.size (Keeps.alloc hF.size _) ?_; co_evs (skip))
      rename_i w1
      have hnew : (w1.alloc (.cells (byteVals [1, UInt8.ofNat n, c]).toArray 5)).heap[w1.heap.size]? = some (.cells (byteVals [1, UInt8.ofNat n, c]).toArray 5 (0, 0)) := heap_alloc_new _ _
      have hsz := hF.size
      replace hF := hF.alloc0 (.cells (byteVals [1, UInt8.ofNat n, c]).toArray 5)
      co_apply opsC_cons_k rfl (by rfl)
      intro w2 h2 K' hK'
      replace hnew := ((hR _ _ h2).block _ (by omega)).trans hnew
      replace hF := rl hF h2
      obtain ⟨v2, w3, hr, hF3, hk3, hev⟩ := hF.append hnew (by simp; omega)
      refine uponK_append (.tmp 18) (.tmp 24) 22 rfl rfl rfl hr (hK' _ _ ⟨hD _ _ _ hF.size hk3 (fun e he => ?_), ?_⟩)
      · have hm := mem_listed he
        rw [events_append_op (.tmp 18) (.tmp 24) 22 rfl rfl rfl] at hm
        exact hev e hm
      clear hK' K' hr hev hk3 hnew hF
      try walk_nrm
      co_op rl hF3 (co_quiet T)
      co_apply opsC_nil T
      co_then
      co_apply wpC_ret T
      exact ⟨rfl, _, resultsC_tmp (by rfl) _, by simpa using hF3.tail⟩
    · intro hl
      have ha : appV c n = List.replicate n c := by simp [appV, hl]
      rw [ha]
      co_apply wpC_skip T
      co_then
      co_apply wpC_seq T
      co_reg T
      co_opw rl hF (have hc := hF.c0; have hc' := hF.c1) (refine hD _ _ _ hF.size (Keeps.refl _ _) ?_; intro e he; have hm := mem_listed he; simp [go_sem, *] at hm; rcases hm with rfl | rfl <;> exact evA_readR _ _ (by simp))
      co_op rl hF (co_quiet T)
      co_apply opsC_call T (nf := nf) (Post := fun v' w' => AF N W ((M, runO c n) :: K) v' (l ++ List.replicate n c) w') rfl (by rfl) rfl (by walk_nrm; exact hall W ((M, runO c n) :: K) v l c n _ hF hn (by omega))
      intro v2 w2 hF
      try walk_nrm
      co_op rl hF (co_quiet T)
      co_apply opsC_nil T
      co_then
      co_apply wpC_ret T
      exact ⟨rfl, _, resultsC_tmp (by rfl) _, by simpa using hF.tail⟩
end
end Go.Proofs.YtnmlhjigiemfgaaDoor
