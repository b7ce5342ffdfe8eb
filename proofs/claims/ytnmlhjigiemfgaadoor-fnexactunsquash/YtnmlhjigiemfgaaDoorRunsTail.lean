/- Runs behind the closed channel, to its return. -/
import Derived.Test.YtnmlhjigiemfgaaDoorRunsRecv
import Derived.Test.YtnmlhjigiemfgaaDoorBesideGoes
namespace Go.Proofs.YtnmlhjigiemfgaaDoor
open Go Go.Conc Go.RowKit

theorem r0_aside {w w₁ : World} (c : Nat) (h : R0 w w₁) : Aside c w w₁ := by obtain ⟨d, rfl⟩ := h; exact ⟨rfl, rfl, rfl, rfl, fun _ _ => rfl⟩
theorem d1_of {N : Nat} {w w' : World} {es : Array Event} (_h0 : N + 4 ≤ w.heap.size) (h : Keeps N w w') (he : ∀ e ∈ es, EvA (MineR N) e) : D1 w w' es :=
  ⟨h.tape, fun e hee => ⟨fun x => Neutral.ne_disable ((he e hee).1 _ x) rfl, fun x => by have := (he e hee).1 _ x; cases this⟩⟩
theorem plain_convert (P : Program) (a b : TypeId) (x : Value) (w : World) : ∀ e ∈ (convert a b x).events P w #[], Plain e := (tame_runT _ (tt_convert a b x) w #[] (by simp)).plain

set_option maxRecDepth 100000 in
theorem shutC (N : Nat) : ∃ nf, ∀ (W : World) (sm : Value) (l : List UInt8) (c : UInt8) (n : Nat) (a : Act) (w : World), In13 N sm (.int .u8 0) false a → AF N W [(N, runO c n)] sm l w →
    L13b.wpC Tryd.prog true R0 D1 12 nf (fun e a' w' => e = .exit 0 ∧ At13 N sm a' ∧ AF N W [(N, runO c n)] sm l w') a w := by
  have T := terms0
  simp only [L13b, L13, S13, body13, Tryd.f12, Option.getD_some, slots13, In13, At13]
  co_apply Exists.intro
  intro W sm l c n a w ha hF
  obtain ⟨u0, u1, u2, u5, u6, u10, u11, u12, u13, u14, u15, u16, u17, u18, u19, u20, u21, u22, u23, u24, u25, u26, u27, u28, u29, u30, u31, u32, rfl⟩ := ha
  co_apply wpC_seq T (n₂ := 0)
  co_apply wpC_cond T (t := false) rfl
  simp only [Bool.false_eq_true, if_false]
  co_apply wpC_exit T
  exact ⟨rfl, ⟨_, _, _, _, _, _, _, _, _, _, _, _, _, _, _, _, _, _, _, _, _, _, _, _, _, _, _, _, _, _, rfl⟩, hF⟩

set_option maxRecDepth 100000 in
theorem r13C (N : Nat) : ∃ nf, ∀ (W : World) (sm : Value) (l : List UInt8) (c : UInt8) (n : Nat) (a : Act) (w : World), At13 N sm a → AF N W [(N, runO c n)] sm l w → n ≤ 255 → l.length + n ≤ 500000000 →
    R13.wpC Tryd.prog true R0 D1 12 nf (fun e a' w' => e = .ret ∧ a'.defers = [] ∧ a'.tmps.getD 2 undef = .string (strOf (l ++ appV c n)) ∧ Below N W w') a w := by
  have T := terms0
  obtain ⟨nf, hall⟩ := appendToC T N (fun _ _ h => r0_aside _ h) (fun _ _ _ h0 h he => d1_of h0 h he)
  have hD : ∀ w w' es, N + 4 ≤ w.heap.size → Keeps N w w' → (∀ e ∈ es, EvA (MineR N) e) → D1 w w' es := fun _ _ _ h0 h he => d1_of h0 h he
  have rl : ∀ {K : List (Nat × Obj)} {v : Value} {l : List UInt8} {W w w₁ : World}, AF N W K v l w → R0 w w₁ → AF N W K v l w₁ := fun h r => h.aside (r0_aside _ r)
  simp only [R13, S13, body13, Tryd.f12, Option.getD_some, slots13, At13]
  co_apply Exists.intro
  intro W sm l c n a w ha hF hn hlen
  obtain ⟨u0, u1, u2, u5, u6, u9, u10, u11, u12, u13, u14, u15, u16, u17, u18, u19, u20, u21, u22, u23, u24, u25, u26, u27, u28, u29, u30, u31, u32, v8, rfl⟩ := ha
  co_apply wpC_seq T
  co_reg T
  co_opw rl hF (have hc := hF.c0; have hc' := hF.c1) (refine hD _ _ _ hF.size (Keeps.refl _ _) ?_; intro e he; have hm := mem_listed he; simp [go_sem, *] at hm; rcases hm with rfl | rfl <;> exact evA_readR _ _ (by simp))
  co_op rl hF (co_quiet T)
  co_apply opsC_call T (nf := nf) (Post := fun v' w' => AF N W [(N, runO c n)] v' (l ++ appV c n) w') rfl (by rfl) rfl (by walk_nrm; exact hall W [(N, runO c n)] sm l c n _ hF hn hlen)
  intro v2 w2 hF
  try walk_nrm
  co_opw rl hF (have hcv := conv_bytes hF.own) (refine ⟨rfl, fun e he => ?_⟩; have hm := mem_listed he; simp [go_sem] at hm; exact plain_convert _ _ _ _ _ _ hm)
  co_op rl hF (co_quiet T)
  co_apply opsC_nil T
  co_then
  co_apply wpC_ret T
  exact ⟨by trivial, rfl, rfl, hF.below⟩

/-- BEHIND THE CLOSED CHANNEL, TO THE CALLER. -/
theorem tail_goes (N : Nat) (W : World) (fr : Frame) (cs : List Frame) (X : List UInt8) : ∃ m, ∀ g w, FinR N W (fr :: cs) X g w →
    Goes Tryd.prog true R0 D1 (fun g' w' => g' = G (fr.finish (.string (strOf X))) cs ∧ Below N W w') m g w := by
  have T := terms0
  obtain ⟨n1, h1⟩ := ops4C (D := D1) T N (fun _ _ h => r0_aside _ h)
  obtain ⟨n2, h2⟩ := shutC N
  obtain ⟨n3, h3⟩ := r13C N
  refine ⟨0 + 1 + n3 + n2 + n1, ?_⟩
  rintro g w ⟨sm, l, c, n, a, ha, hF, hn, hlen, hX, rfl⟩
  obtain ⟨u0, u1, u2, u5, u6, u9, u10, u11, u12, u13, u14, u15, u16, u17, u18, u19, u20, u21, u22, u23, u24, u25, u26, u27, u28, u29, u30, u31, u32, hput⟩ := ha.put (.tuple #[.int .u8 0, .bool false])
  rw [hput]
  refine h1 W sm (.int .u8 0) false l c n u0 u1 u2 u5 u6 u9 u10 u11 u12 u13 u14 u15 u16 u17 u18 u19 u20 u21 u22 u23 u24 u25 u26 u27 u28 u29 u30 u31 u32 w hF (base 12) _ (fr :: cs) _ (0 + 1 + n3 + n2) rfl (by simp [base]) fun e a1 w1 q => ?_
  obtain ⟨rfl, hin, hF1⟩ := q
  refine h2 W sm l c n a1 w1 hin hF1 (base 12) k13 (fr :: cs) _ (0 + 1 + n3) rfl (by simp [base]) fun e a2 w2 q => ?_
  obtain ⟨rfl, ha2, hF2⟩ := q
  refine ⟨[.code R13, .inScope S13], rfl, ?_⟩
  refine h3 W sm l c n a2 w2 ha2 hF2 hn hlen (base 12) [.inScope S13] (fr :: cs) _ (0 + 1) rfl (by simp [base]) fun e a3 w3 q => ?_
  obtain ⟨rfl, hd, hv, hb⟩ := q
  intro todo
  refine Goes.step rfl fun w4 h4 => ?_
  have hres := resultsC_tmp (P := Tryd.prog) (fn := Tryd.f12) (t := 2) (by rfl) a3.tmps
  rw [stepG_leave (b := base 12) rfl hd Tryd.func12 (hres w4).1 (hres w4).2, hv, hX]
  refine ⟨T.idle _, Goes.stop fun w5 h5 => ⟨rfl, ?_⟩⟩
  obtain ⟨d4, rfl⟩ := h4
  obtain ⟨d5, rfl⟩ := h5
  exact ⟨hb.os, hb.tape, hb.output, hb.size, hb.block⟩
end Go.Proofs.YtnmlhjigiemfgaaDoor
