/- Runs behind its go statement: a byte comes in; the channel is closed. -/
import Derived.Test.YtnmlhjigiemfgaaDoorRunsCall
namespace Go.Proofs.YtnmlhjigiemfgaaDoor
open Go Go.Conc Go.RowKit

noncomputable def body13 : Code := Tryd.f12.body.getD .skip
noncomputable def S13 : Code := match body13 with | .seq _ (.scope c) => c | _ => .skip
noncomputable def R13 : Code := match S13 with | .seq _ (.seq _ (.seq _ (.seq _ r))) => r | _ => .skip
noncomputable def L13 : Code := match S13 with | .seq _ (.seq _ (.seq _ (.seq (.seq _ (.block _ (.loop c))) _))) => c | _ => .skip
noncomputable def L13b : Code := match L13 with | .seq _ r => r | _ => .skip
noncomputable def ops4 : Array Oper := match L13 with | .seq (.region _ ops _) _ => ops | _ => #[]
/-- The slots at the receive. -/
def slots13 (N : Nat) (sm v8 : Value) (u0 u1 u2 u5 u6 u9 u10 u11 u12 u13 u14 u15 u16 u17 u18 u19 u20 u21 u22 u23 u24 u25 u26 u27 u28 u29 u30 u31 u32 : Value) : Array Value := #[u0, u1, u2, sm, .pointer (some ⟨N, 0, none⟩), u5, u6, .chan (some (N + 2)), v8, u9, u10, u11, u12, u13, u14, u15, u16, u17, u18, u19, u20, u21, u22, u23, u24, u25, u26, u27, u28, u29, u30, u31, u32]
/-- Behind the test, at the body's head. -/
def In13 (N : Nat) (sm x : Value) (b : Bool) (a : Act) : Prop := ∃ u0 u1 u2 u5 u6 u10 u11 u12 u13 u14 u15 u16 u17 u18 u19 u20 u21 u22 u23 u24 u25 u26 u27 u28 u29 u30 u31 u32 : Value, a = ⟨slots13 N sm (.tuple #[x, .bool b]) u0 u1 u2 u5 u6 (.bool b) u10 u11 u12 u13 u14 u15 u16 u17 u18 u19 u20 u21 u22 u23 u24 u25 u26 u27 u28 u29 u30 u31 u32, []⟩
def At13 (N : Nat) (sm : Value) (a : Act) : Prop := ∃ u0 u1 u2 u5 u6 u9 u10 u11 u12 u13 u14 u15 u16 u17 u18 u19 u20 u21 u22 u23 u24 u25 u26 u27 u28 u29 u30 u31 u32 v8 : Value, a = ⟨slots13 N sm v8 u0 u1 u2 u5 u6 u9 u10 u11 u12 u13 u14 u15 u16 u17 u18 u19 u20 u21 u22 u23 u24 u25 u26 u27 u28 u29 u30 u31 u32, []⟩

theorem AF.z0 {N M : Nat} {W : World} {K : List (Nat × Obj)} {v : Value} {l : List UInt8} {w : World} {c : UInt8} {n : Nat} (h : AF N W ((M, runO c n) :: K) v l w) : w.frozen? ⟨M, 0, none⟩ = false := by simp [World.frozen?, h.cell (List.mem_cons_self ..), runO]
theorem AF.z1 {N M : Nat} {W : World} {K : List (Nat × Obj)} {v : Value} {l : List UInt8} {w : World} {c : UInt8} {n : Nat} (h : AF N W ((M, runO c n) :: K) v l w) : w.frozen? ⟨M, 1, none⟩ = false := by simp [World.frozen?, h.cell (List.mem_cons_self ..), runO]

theorem setCell_size (w : World) (a : Addr) (v : Value) : (w.setCell a v).heap.size = w.heap.size := by simp [World.setCell]
theorem setCell_other (w : World) (a : Addr) (v : Value) (k : Nat) (h : k ≠ a.block) : (w.setCell a v).heap[k]? = w.heap[k]? := by
  simp [World.setCell, Array.getElem?_modify, Ne.symm h]
theorem setCell_run {w : World} {N i : Nat} {c c' : UInt8} {n n' : Nat} {v : Value} (h : w.heap[N]? = some (runO c n)) (hv : (#[.int .u8 (c.toNat : Int), .int .i64 (n : Int)] : Array Value).setIfInBounds i v = #[.int .u8 (c'.toNat : Int), .int .i64 (n' : Int)]) :
    (w.setCell ⟨N, i, none⟩ v).heap[N]? = some (runO c' n') := by
  simp [World.setCell, Array.getElem?_modify, h, runO, ← hv]
theorem Keeps.set {N : Nat} (w : World) (i : Nat) (v : Value) : Keeps N w (w.setCell ⟨N, i, none⟩ v) := ⟨rfl, rfl, rfl, by rw [setCell_size]; exact Nat.le_refl _, fun k _ hk => setCell_other _ _ _ _ hk⟩
theorem AF.set {N i : Nat} {W : World} {sm : Value} {l : List UInt8} {w : World} {c c' : UInt8} {n n' : Nat} {v : Value} (h : AF N W [(N, runO c n)] sm l w)
    (hv : (#[.int .u8 (c.toNat : Int), .int .i64 (n : Int)] : Array Value).setIfInBounds i v = #[.int .u8 (c'.toNat : Int), .int .i64 (n' : Int)]) : AF N W [(N, runO c' n')] sm l (w.setCell ⟨N, i, none⟩ v) := by
  refine ⟨⟨h.own.1, ?_⟩, ⟨h.below.os, h.below.tape, h.below.output, by rw [setCell_size]; exact h.below.size, fun k hk => (setCell_other _ _ _ _ (by simp; omega)).trans (h.below.block k hk)⟩, by rw [setCell_size]; exact h.size, fun p hp => ?_⟩
  · rcases h.own.2 with h0 | ⟨g, cp, cur, e, hg, hh, r⟩
    · exact .inl h0
    · exact .inr ⟨g, cp, cur, e, hg, (setCell_other _ _ _ _ (by simp; omega)).trans hh, r⟩
  · simp at hp; subst hp
    exact ⟨by simp, setCell_run (h.cell (List.mem_cons_self ..)) hv, runO_row _ _⟩
theorem Keeps.trans {N : Nat} {a b c : World} (h : Keeps N a b) (h' : Keeps N b c) : Keeps N a c := ⟨h'.os.trans h.os, h'.tape.trans h.tape, h'.output.trans h.output, Nat.le_trans h.size h'.size, fun k h1 h2 => (h'.block k h1 h2).trans (h.block k h1 h2)⟩
theorem evA_writeR {N : Nat} (a : Addr) (s wr : Bool) (h : a.block = N) : EvA (MineR N) ⟨.cell a, wr, s⟩ := ⟨fun m => by simp, fun _ => ⟨a, rfl, .inl h⟩⟩

section
variable {R : World → World → Prop} {D : World → World → Array Event → Prop} (T : Terms R D) (N : Nat) (hR : ∀ w w₁, R w w₁ → Aside (N + 2) w w₁)
  (hD : ∀ w w' es, N + 4 ≤ w.heap.size → Keeps N w w' → (∀ e ∈ es, EvA (MineR N) e) → D w w' es)
include T hR hD

omit hD in
set_option maxRecDepth 100000 in
/-- Whether a byte has come. -/
theorem ops4C : ∃ nf, ∀ (W : World) (sm x : Value) (b : Bool) (l : List UInt8) (c : UInt8) (n : Nat) (u0 u1 u2 u5 u6 u9 u10 u11 u12 u13 u14 u15 u16 u17 u18 u19 u20 u21 u22 u23 u24 u25 u26 u27 u28 u29 u30 u31 u32 : Value) (w : World), AF N W [(N, runO c n)] sm l w →
    OpsC Tryd.prog true R D 12 ops4 [1] nf (fun e a' w' => e = .normal ∧ In13 N sm x b a' ∧ AF N W [(N, runO c n)] sm l w') ⟨slots13 N sm (.tuple #[x, .bool b]) u0 u1 u2 u5 u6 u9 u10 u11 u12 u13 u14 u15 u16 u17 u18 u19 u20 u21 u22 u23 u24 u25 u26 u27 u28 u29 u30 u31 u32, []⟩ w := by
  have rl : ∀ {K : List (Nat × Obj)} {v : Value} {l : List UInt8} {W w w₁ : World}, AF N W K v l w → R w w₁ → AF N W K v l w₁ := fun h r => h.aside (hR _ _ r)
  simp only [ops4, L13, S13, body13, Tryd.f12, Option.getD_some, slots13, In13]
  co_apply Exists.intro
  intro W sm x b l c n u0 u1 u2 u5 u6 u9 u10 u11 u12 u13 u14 u15 u16 u17 u18 u19 u20 u21 u22 u23 u24 u25 u26 u27 u28 u29 u30 u31 u32 w hF
  co_op rl hF (co_quiet T)
  co_apply opsC_nil T
  exact ⟨rfl, ⟨_, _, _, _, _, _, _, _, _, _, _, _, _, _, _, _, _, _, _, _, _, _, _, _, _, _, _, _, rfl⟩, hF⟩

/-- How a run goes on. -/
def goB (c : UInt8) (n : Nat) (d : UInt8) : Bool := decide (d.toNat = c.toNat ∧ n < 255)
def nextL (l : List UInt8) (c : UInt8) (n : Nat) (d : UInt8) : List UInt8 := if goB c n d then l else l ++ appV c n
def nextC (c : UInt8) (n : Nat) (d : UInt8) : UInt8 := if goB c n d then c else d
def nextN (c : UInt8) (n : Nat) (d : UInt8) : Nat := if goB c n d then n + 1 else 1

set_option maxRecDepth 100000 in
set_option maxHeartbeats 4000000 in
/-- A byte has come. -/
theorem roundC : ∃ nf, ∀ (W : World) (sm : Value) (l : List UInt8) (c d : UInt8) (n : Nat) (a : Act) (w : World), In13 N sm (.int .u8 (d.toNat : Int)) true a → AF N W [(N, runO c n)] sm l w → n ≤ 255 → l.length + n ≤ 500000000 →
    L13b.wpC Tryd.prog true R D 12 nf (fun e a' w' => e = .normal ∧ ∃ sm', At13 N sm' a' ∧ AF N W [(N, runO (nextC c n d) (nextN c n d))] sm' (nextL l c n d) w') a w := by
  obtain ⟨nf, hall⟩ := appendToC T N hR hD
  have rl : ∀ {K : List (Nat × Obj)} {v : Value} {l : List UInt8} {W w w₁ : World}, AF N W K v l w → R w w₁ → AF N W K v l w₁ := fun h r => h.aside (hR _ _ r)
  simp only [L13b, L13, S13, body13, Tryd.f12, Option.getD_some, slots13, In13, At13]
  co_apply Exists.intro
  intro W sm l c d n a w ha hF hn hlen
  obtain ⟨u0, u1, u2, u5, u6, u10, u11, u12, u13, u14, u15, u16, u17, u18, u19, u20, u21, u22, u23, u24, u25, u26, u27, u28, u29, u30, u31, u32, rfl⟩ := ha
  co_apply wpC_seq T
  co_apply wpC_cond T (t := true) rfl
  simp only [if_true]
  co_apply wpC_skip T
  co_then
  co_apply wpC_block T
  co_apply wpC_seq T
  co_reg T
  co_op rl hF (co_quiet T)
  co_op rl hF (co_quiet T)
  co_apply opsC_nil T
  co_then
  co_apply wpC_seq T
  co_apply wpC_seq_mid T (fun a w => ∃ u0 u1 u2 u6 u11 u12 u13 u14 u15 u16 u17 u18 u20 u21 u22 u23 u24 u25 u26 u27 u28 u29 u30 u31 u32 : Value, a = ⟨#[u0, u1, u2, sm, .pointer (some ⟨N, 0, none⟩), .int .u8 (d.toNat : Int), u6, .chan (some (N + 2)), .tuple #[.int .u8 (d.toNat : Int), .bool true], .bool true, .int .u8 (d.toNat : Int), u11, u12, u13, u14, u15, u16, u17, u18, .bool (goB c n d), u20, u21, u22, u23, u24, u25, u26, u27, u28, u29, u30, u31, u32], []⟩ ∧ AF N W [(N, runO c n)] sm l w)
  · by_cases e1 : d.toNat = c.toNat
    · obtain rfl : d = c := UInt8.toNat_inj.mp e1
      have hg : goB d n d = decide ((n : Int) < 255) := by simp [goB]; omega
      co_reg T
      co_op rl hF (co_quiet T)
      co_op rl hF (co_quiet T)
      co_opw rl hF (have hc := hF.c0) (refine hD _ _ _ hF.size (Keeps.refl _ _) ?_; co_evs (exact evA_readR _ _ (by simp)))
      co_op rl hF (co_quiet T)
      co_op rl hF (co_quiet T)
      co_op rl hF (co_quiet T)
      co_opw rl hF (have hc := hF.c1) (refine hD _ _ _ hF.size (Keeps.refl _ _) ?_; co_evs (exact evA_readR _ _ (by simp)))
      co_op rl hF (co_quiet T)
      co_op rl hF (co_quiet T)
      co_apply opsC_nil T
      co_then
      exact ⟨_, _, _, _, _, _, _, _, _, _, _, _, _, _, _, _, _, _, _, _, _, _, _, _, _, by first | (rw [hg]; done) | (simp only [hg]; done), hF⟩
    · have hg : goB c n d = false := by simp [goB, e1]
      have eb : ((d.toNat : Int) == (c.toNat : Int)) = false := by simp; omega
      clear e1
      co_reg T
      co_op rl hF (co_quiet T)
      co_op rl hF (co_quiet T)
      co_opw rl hF (have hc := hF.c0) (refine hD _ _ _ hF.size (Keeps.refl _ _) ?_; co_evs (exact evA_readR _ _ (by simp)))
      co_op rl hF (co_quiet T)
      co_op rl hF (co_quiet T)
      co_apply opsC_unwanted T rfl (by rfl)
      (try walk_nrm)
      co_apply opsC_unwanted T rfl (by rfl)
      (try walk_nrm)
      co_apply opsC_unwanted T rfl (by rfl)
      (try walk_nrm)
      co_op rl hF (co_quiet T)
      co_apply opsC_nil T
      co_then
      exact ⟨_, _, _, _, _, _, _, _, _, _, _, _, _, _, _, _, _, _, _, _, _, _, _, _, _, by first | (rw [hg]; done) | (simp only [hg]; done), hF⟩
  · intro a w' hI
    obtain ⟨u0, u1, u2, u6, u11, u12, u13, u14, u15, u16, u17, u18, u20, u21, u22, u23, u24, u25, u26, u27, u28, u29, u30, u31, u32, rfl, hF⟩ := hI
    co_split T (goB c n d)
    · intro hg
      have hC : nextC c n d = c := by simp [nextC, hg]
      have hN : nextN c n d = n + 1 := by simp [nextN, hg]
      have hL : nextL l c n d = l := by simp [nextL, hg]
      have hlt : n < 255 := by simp [goB] at hg; exact hg.2
      rw [hC, hN, hL]
      have hwr : IntKind.i64.wrap ((n : Int) + 1) = (n : Int) + 1 := by rw [IntKind.wrap_i64]; omega
      co_apply wpC_seq T
      co_reg T
      co_op rl hF (co_quiet T)
      co_opw rl hF (have hc := hF.c1) (refine hD _ _ _ hF.size (Keeps.refl _ _) ?_; co_evs (exact evA_readR _ _ (by simp)))
      co_op rl hF (co_quiet T)
      co_op rl hF (co_quiet T)
      co_opw rl hF (have hc := hF.c1; have hz := hF.z1) (refine hD _ _ _ hF.size (Keeps.set ..) ?_; co_evs (exact evA_writeR _ _ _ rfl))
      replace hF := hF.set (i := 1) (v := .int .i64 ((n : Int) + 1)) (c' := c) (n' := n + 1) (by simp)
      co_apply opsC_nil T
      co_then
      co_apply wpC_exit T
      co_then
      exact ⟨by trivial, sm, ⟨_, _, _, _, _, _, _, _, _, _, _, _, _, _, _, _, _, _, _, _, _, _, _, _, _, _, _, _, _, _, rfl⟩, hF⟩
    · intro hg
      have hC : nextC c n d = d := by simp [nextC, hg]
      have hN : nextN c n d = 1 := by simp [nextN, hg]
      have hL : nextL l c n d = l ++ appV c n := by simp [nextL, hg]
      rw [hC, hN, hL]
      co_apply wpC_skip T
      co_then
      co_apply wpC_seq T
      co_reg T
      co_opw rl hF (have hc := hF.c0; have hc' := hF.c1) (refine hD _ _ _ hF.size (Keeps.refl _ _) ?_; intro e he; have hm := mem_listed he; simp [go_sem, *] at hm; rcases hm with rfl | rfl <;> exact evA_readR _ _ (by simp))
      co_op rl hF (co_quiet T)
      co_apply opsC_call T (nf := nf) (Post := fun v' w' => AF N W [(N, runO c n)] v' (l ++ appV c n) w') rfl (by rfl) rfl (by walk_nrm; exact hall W [(N, runO c n)] sm l c n _ hF hn hlen)
      intro v2 w2 hF
      try walk_nrm
      co_op rl hF (co_quiet T)
      co_apply opsC_nil T
      co_then
      co_reg T
      co_op rl hF (co_quiet T)
      co_op rl hF (co_quiet T)
      co_opw rl hF (have hc := hF.c0; have hc' := hF.c1; have hz := hF.z0; have hz' := hF.z1) (refine hD _ _ _ hF.size ((Keeps.set ..).trans (Keeps.set ..)) ?_; intro e he; have hm := mem_listed he; simp [go_sem, *] at hm; rcases hm with rfl | rfl <;> exact evA_writeR _ _ _ rfl)
      replace hF := (hF.set (i := 0) (v := .int .u8 (d.toNat : Int)) (c' := d) (n' := n) (by simp)).set (i := 1) (v := .int .i64 1) (c' := d) (n' := 1) (by simp)
      co_apply opsC_nil T
      co_then
      exact ⟨by trivial, v2, ⟨_, _, _, _, _, _, _, _, _, _, _, _, _, _, _, _, _, _, _, _, _, _, _, _, _, _, _, _, _, _, rfl⟩, hF⟩
end
end Go.Proofs.YtnmlhjigiemfgaaDoor
