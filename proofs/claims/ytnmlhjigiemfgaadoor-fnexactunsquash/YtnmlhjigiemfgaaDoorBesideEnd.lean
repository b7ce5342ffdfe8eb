/- From a walk beside leavers to the run's end. -/
import Derived.Test.YtnmlhjigiemfgaaDoorBesideCalls
import Derived.Conc.LeavingOf
import Derived.KernelRfl
namespace Go.Proofs.YtnmlhjigiemfgaaDoor
open Go Go.Conc

theorem no_init {P : Program} (h : P.funcs.all (fun f => ((f.body.map readies).getD []).isEmpty) = true) : ∀ g, P.stepOf g = none := by
  intro g
  unfold Program.stepOf
  rw [Array.findIdx?_eq_none_iff]
  intro f hf
  have := Array.all_eq_true_iff_forall_mem.1 h f hf
  cases hb : f.body with
  | none => rfl
  | some c =>
    rw [hb] at this
    simp at this
    simp [this]

/-- Goroutine 0 stands at the step that ends the run. -/
def EndS (P : Program) (Post : Value → World → Prop) (g : Goroutine) (w : World) : Prop :=
  g.status = .running ∧ ∃ v, (∀ w, stepG P true g w = .ended (.done v) w #[]) ∧ Post v w

theorem the_end {P : Program} {Post : Value → World → Prop} (hP : ∀ v w d, Post v w → Post v (w.at d)) {a : Goroutine} {W : World} (h : Beside P a W (EndS P Post)) :
    ∃ M last o w' t', runNT P (M + 1) (solo a W) #[] = (.ended o w', t') ∧ runN P M (solo a W) = .next last ∧ step P last = .ended o w' ∧ Conc.Good P Post last o w' t' := by
  obtain ⟨N, gs', a', w', sl', T', q', B', h1, h2, h3, h4, h5⟩ := h W.tape W.drawn #[a] none #[] (fun _ => 0) 0 rfl (leavers_one P a) past_nil
  obtain ⟨hrun, v, hs, hp⟩ := h3
  obtain ⟨K, last, o, w2, t2, k1, k2, k3, k4⟩ := beside_ends (P := P) (Shun := NoShun) (B := B') (Post := Post) (D := fun _ _ _ => False) (n := 0) (sl := sl') (fun _ _ _ h => h.elim) h2 h4 h5 (show ∀ w₁, AtRel w' w₁ → AtEnd P NoShun B' Post a' w₁ from fun w₁ ⟨d, hd⟩ => ⟨hrun, v, #[], hs w₁, by simp, by subst hd; exact hP _ _ _ hp⟩)
  have h1' : runNT P N (solo a W) #[] = (.next (crowd gs' w' sl'), T') := h1
  have h1n : runN P N (solo a W) = .next (crowd gs' w' sl') := by rw [← runNT_fst _ _ _ #[], h1']
  refine ⟨N + K, last, o, w2, t2, ?_, ?_, k3, k4⟩
  · rw [Nat.add_assoc, runNT_add, h1']; exact k1
  · rw [runN_add, h1n]; exact k2
end Go.Proofs.YtnmlhjigiemfgaaDoor
