/- A walk of goroutine 0's, in a world that parts from its own in the count of draws alone, carried out beside leavers. -/
import Derived.Test.YtnmlhjigiemfgaaDoorTameCrowd
import Derived.Conc.Company
namespace Go.Proofs.YtnmlhjigiemfgaaDoor
open Go Go.Conc
open Go.ConcN (sumTo upd sumTo_upd upd_ne upd_same)

/-- BESIDE LEAVERS, on the world's own tape. -/
def BesideT (P : Program) (a : Goroutine) (w : World) (Q : Goroutine → World → Prop) : Prop :=
  ∀ (d : Nat) (gs : Array Goroutine) (sl : Option (Nat × Nat)) (T : Trace) (q : Nat → Nat) (B : Nat), gs[0]? = some a → Leavers P T gs q → Past NoShun B T →
    ∃ (N : Nat) (gs' : Array Goroutine) (a' : Goroutine) (w' : World) (sl' : Option (Nat × Nat)) (T' : Trace) (q' : Nat → Nat) (B' : Nat),
      runNT P N (crowd gs (w.at d) sl) T = (.next (crowd gs' w' sl'), T') ∧ gs'[0]? = some a' ∧ Q a' w' ∧ Leavers P T' gs' q' ∧ Past NoShun B' T'

section
variable {P : Program}
theorem beside_of_T {a : Goroutine} {w : World} {Q : Goroutine → World → Prop} (h : ∀ t, BesideT P a (reT w t 0) Q) : Beside P a w Q := fun t d => h t d
theorem BesideT.of {a : Goroutine} {w : World} {Q : Goroutine → World → Prop} (h : Beside P a w Q) : BesideT P a w Q := fun d => h w.tape d
theorem BesideT.mono {a : Goroutine} {w : World} {Q Q' : Goroutine → World → Prop} (h : BesideT P a w Q) (hq : ∀ a w, Q a w → Q' a w) : BesideT P a w Q' := by
  intro d gs sl T q B h0 hL hP
  obtain ⟨N, gs', a', w', sl', T', q', B', h1, h2, h3, h4⟩ := h d gs sl T q B h0 hL hP
  exact ⟨N, gs', a', w', sl', T', q', B', h1, h2, hq _ _ h3, h4⟩
theorem BesideT.here {a : Goroutine} {w : World} {Q : Goroutine → World → Prop} (h : ∀ d, Q a (w.at d)) : BesideT P a w Q :=
  fun d gs sl T q B h0 hL hP => ⟨0, gs, a, _, sl, T, q, B, rfl, h0, h d, hL, hP⟩
theorem BesideT.trans {a : Goroutine} {w : World} {Q Q' : Goroutine → World → Prop} (h : BesideT P a w Q) (h' : ∀ a' w', Q a' w' → BesideT P a' w' Q') : BesideT P a w Q' := by
  intro d gs sl T q B h0 hL hP
  obtain ⟨N, gs', a', w', sl', T', q', B', h1, h2, h3, h4, h5⟩ := h d gs sl T q B h0 hL hP
  obtain ⟨N2, gs2, a2, w2, sl2, T2, q2, B2, k1, k2⟩ := h' a' w' h3 w'.drawn gs' sl' T' q' B' h2 h4 h5
  exact ⟨N + N2, gs2, a2, w2, sl2, T2, q2, B2, Go.ConcX.runNT_trans h1 k1, k2⟩

/-- One step of goroutine 0's own, of whatever world; leavers may slip ahead of it. -/
theorem beside_step1T {a : Goroutine} {w : World} {Q : Goroutine → World → Prop} (hrun : a.status = .running)
    (h : ∀ d, ∃ a' w' es, stepG P true a (w.at d) = .go a' w' es ∧ (∀ e ∈ es, Plain e) ∧ a'.status = .running ∧ BesideT P a' w' Q) : BesideT P a w Q := by
  intro d gs
  intro sl T q B h0 hL hP
  suffices H : ∀ (M : Nat) (gs : Array Goroutine) (d : Nat) (sl : Option (Nat × Nat)) (T : Trace) (q : Nat → Nat) (B : Nat), sumTo gs.size q = M → gs[0]? = some a → Leavers P T gs q → Past NoShun B T →
      ∃ (N : Nat) (gs' : Array Goroutine) (a' : Goroutine) (w' : World) (sl' : Option (Nat × Nat)) (T' : Trace) (q' : Nat → Nat) (B' : Nat),
        runNT P N (crowd gs (w.at d) sl) T = (.next (crowd gs' w' sl'), T') ∧ gs'[0]? = some a' ∧ Q a' w' ∧ Leavers P T' gs' q' ∧ Past NoShun B' T' by
    exact H _ gs d sl T q B rfl h0 hL hP
  clear h0 hL hP gs d sl T q B
  intro M
  induction M using Nat.strongRecOn with
  | ind M ih =>
    intro gs d sl T q B hM h0 hL hP
    have haw : ∀ g ∈ gs, awake g := by
      intro g hg
      obtain ⟨i, hi, rfl⟩ := Array.mem_iff_getElem.1 hg
      rcases Nat.eq_zero_or_pos i with rfl | hpos
      · have : gs[0] = a := by simpa [Array.getElem?_eq_getElem hi] using h0
        rw [this]; exact awake_of (.inl hrun)
      · exact awake_of ((hL.old i _ hpos (Array.getElem?_eq_getElem hi)).status.elim .inl fun x => .inr (.inr x))
    obtain ⟨i, g, d1, sl', hi, hg, hst⟩ := crowd_pick (P := P) (w := w.at d) (sl := sl) haw ⟨0, a, h0, hrun⟩
    rcases Nat.eq_zero_or_pos i with rfl | hpos
    · obtain rfl : g = a := by rw [h0] at hi; exact (Option.some.inj hi).symm
      obtain ⟨a', w', es, hgo, hes, hrun', hB⟩ := h d1
      have hrunT := runT_crowd_go (P := P) (sl := sl') (i := 0) hi (show stepG P (0 == 0) g ((w.at d).at d1) = _ from hgo)
      have hlt : 0 < gs.size := (Array.getElem?_eq_some_iff.1 h0).1
      obtain ⟨B', hP'⟩ := past_own (fn := g.frame.fn) (pos := g.frame.place) hP hes
      have hL' : Leavers P (T ++ MemOp.ofEvents 0 g.frame.fn g.frame.place es) ((gs.map (woken P g a' w')).setIfInBounds 0 a') q :=
        ⟨fun j x hj hx => by
          have hne : 0 ≠ j := by omega
          rw [Array.getElem?_setIfInBounds_ne hne, Array.getElem?_map] at hx
          obtain ⟨y, hy, rfl⟩ := Option.map_eq_some_iff.1 hx
          have hq := hL.old j y hj hy
          rw [woken_quitsD hq, Deaf_other T (by omega) _ (fun op hop => by obtain ⟨e, _, rfl⟩ := Go.Conc.mem_ofEvents hop; rfl)]
          exact hq, fun j hj => by
          rw [Deaf_other T (g' := 0) (by simp at hj; omega) _ (fun op hop => by obtain ⟨e, _, rfl⟩ := Go.Conc.mem_ofEvents hop; rfl)]
          exact hL.above j (by simpa using hj)⟩
      obtain ⟨N, gs', a'', w'', sl'', T', q', B'', hr, k⟩ := hB w'.drawn _ sl' _ q B' (by simp [hlt]) hL' hP'
      have hr' : runNT P N (crowd ((gs.map (woken P g a' w')).setIfInBounds 0 a') w' sl') (T ++ MemOp.ofEvents 0 g.frame.fn g.frame.place es) = (.next (crowd gs' w'' sl''), T') := hr
      exact ⟨N + 1, gs', a'', w'', sl'', T', q', B'', by simp only [runNT, hst, hrunT]; exact hr', k⟩
    · have hq := hL.old i g hpos hi
      have hi0 : (i == 0) = false := by simp; omega
      have hlt : i < gs.size := (Array.getElem?_eq_some_iff.1 hi).1
      cases hqi : q i with
      | zero => rw [hqi] at hq; rw [hq.1] at hg; cases hg
      | succ k =>
        rw [hqi] at hq
        rcases hq with ⟨hf, _⟩ | ⟨_, g', es, hm, hstp, hq'⟩
        · rw [hf] at hg; cases hg
        have hrunT := runT_crowd_go (P := P) (sl := sl') (i := i) hi (by rw [hi0]; exact hstp ((w.at d).at d1))
        have hsz : ((gs.map (woken P g g' ((w.at d).at d1))).setIfInBounds i g').size = gs.size := by simp
        have hsum : sumTo gs.size (upd q i k) + (k + 1) = sumTo gs.size q + k := by
          have := sumTo_upd q k id hlt
          simpa [hqi] using this
        have hr := ih (sumTo gs.size (upd q i k)) (by omega) ((gs.map (woken P g g' ((w.at d).at d1))).setIfInBounds i g') d1 sl' (T ++ MemOp.ofEvents i g.frame.fn g.frame.place es) (upd q i k) B (by rw [hsz])
          (by
            have hne : i ≠ 0 := by omega
            rw [Array.getElem?_setIfInBounds_ne hne, Array.getElem?_map, h0]
            simp [woken_run hrun])
          ⟨fun j x hj hx => by
            by_cases hji : i = j
            · subst hji
              rw [Array.getElem?_setIfInBounds_self_of_lt (by simpa using hlt)] at hx
              obtain rfl := Option.some.inj hx
              rw [upd_same, Deaf_own]
              exact hq'
            · rw [Array.getElem?_setIfInBounds_ne hji, Array.getElem?_map] at hx
              obtain ⟨y, hy, rfl⟩ := Option.map_eq_some_iff.1 hx
              have hqj := hL.old j y hj hy
              rw [woken_quitsD hqj, upd_ne q k (Ne.symm hji), Deaf_other T hji _ (fun op hop => by obtain ⟨e, _, rfl⟩ := Go.Conc.mem_ofEvents hop; rfl)]
              exact hqj, fun j hj => by
            rw [Deaf_other T (g' := i) (by simp at hj; omega) _ (fun op hop => by obtain ⟨e, _, rfl⟩ := Go.Conc.mem_ofEvents hop; rfl)]
            exact hL.above j (by simpa using hj)⟩
          (hP.mute (by omega) hm)
        obtain ⟨N, gs', a'', w'', sl'', T', q', B'', hr, k'⟩ := hr
        have hr' : runNT P N (crowd ((gs.map (woken P g g' ((w.at d).at d1))).setIfInBounds i g') ((w.at d).at d1) sl') (T ++ MemOp.ofEvents i g.frame.fn g.frame.place es) = (.next (crowd gs' w'' sl''), T') := hr
        exact ⟨N + 1, gs', a'', w'', sl'', T', q', B'', by simp only [runNT, hst, hrunT]; exact hr', k'⟩


/-- The others' doing: the count of draws. -/
def R0 (w w₁ : World) : Prop := ∃ d, w₁ = w.at d
def D1 (w w' : World) (es : Array Event) : Prop := w'.tape = w.tape ∧ ∀ e ∈ es, Plain e
theorem terms0 : Terms R0 D1 := ⟨fun _ _ _ ⟨_, h⟩ ⟨d, k⟩ => ⟨d, by subst h; subst k; rfl⟩, fun _ => ⟨rfl, by simp⟩⟩
/-- A walk beside leavers. -/
theorem goes_beside {Stop : Goroutine → World → Prop} (hst : ∀ g w, Stop g w → g.status = .running) : ∀ (n : Nat) (g : Goroutine) (w : World), Goes P true R0 D1 Stop n g w → BesideT P g w Stop := by
  intro n
  induction n with
  | zero => exact fun g w h => .here fun d => h _ ⟨d, rfl⟩
  | succ n ih =>
    intro g w h
    rcases h with h | ⟨hs, h⟩
    · exact .here fun d => h _ ⟨d, rfl⟩
    · refine beside_step1T hs fun d => ?_
      obtain ⟨g', w', es, h1, h2, h3⟩ := goes_elim (h _ ⟨d, rfl⟩)
      exact ⟨g', w', es, h1, h2.2, Goes.running hst w' ⟨w'.drawn, rfl⟩ h3, ih g' w' h3⟩
end
end Go.Proofs.YtnmlhjigiemfgaaDoor
