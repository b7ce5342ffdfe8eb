/- A call of one goroutine's machine, carried out beside goroutines that only leave, on whatever tape: the trace stays without a race, and all is known to goroutine 0. -/
import Derived.Test.YtnmlhjigiemfgaaDoorTameTot
import Derived.Conc.Beside
import Derived.Conc.FxBegin
namespace Go.Proofs.YtnmlhjigiemfgaaDoor
open Go Go.Conc
open Go.ConcN (sumTo upd sumTo_upd upd_ne upd_same)

abbrev NoShun : Loc → Prop := fun _ => False

theorem low_some (x : MemAct) : ∃ B, x.low B := by
  cases x with
  | access e =>
    obtain ⟨loc, a, b⟩ := e
    cases loc with
    | cell a => exact ⟨a.block + 1, Nat.lt_succ_self _⟩
    | obj r => exact ⟨r + 1, Nat.lt_succ_self _⟩
    | _ => exact ⟨0, trivial⟩
  | mark m => cases m <;> first | exact ⟨0, trivial⟩ | exact ⟨_, Nat.lt_succ_self _⟩
  | go _ | start => exact ⟨0, trivial⟩
  | send c _ | sendDone c _ | recv c _ _ | recvDone c _ | close c | recvClosed c => exact ⟨c + 1, Nat.lt_succ_self _⟩
theorem low_all (l : List Event) (B : Nat) : ∃ B', B ≤ B' ∧ ∀ e ∈ l, (MemAct.ofEvent e).low B' := by
  induction l with
  | nil => exact ⟨B, Nat.le_refl _, by simp⟩
  | cons e l ih =>
    obtain ⟨B1, h1, h2⟩ := ih
    obtain ⟨B2, h3⟩ := low_some (MemAct.ofEvent e)
    refine ⟨max B1 B2, by omega, fun x hx => ?_⟩
    rcases List.mem_cons.1 hx with rfl | hx
    · exact MemAct.low_mono (by omega) h3
    · exact MemAct.low_mono (by omega) (h2 x hx)
/-- Goroutine 0's own entries, none of which says that it hears or doesn't. -/
theorem past_own {B : Nat} {T : Trace} (h : Past NoShun B T) {fn : FuncId} {pos : String} {es : Array Event} (hes : ∀ e ∈ es, Plain e) : ∃ B', Past NoShun B' (T ++ MemOp.ofEvents 0 fn pos es) := by
  obtain ⟨B', h1, h2⟩ := low_all es.toList B
  exact ⟨B', (h.mono h1).own fun e he => ⟨fun _ _ hs => hs.elim, (hes e he).1, (hes e he).2, h2 e (Array.mem_toList_iff.2 he)⟩⟩

/-- BESIDE LEAVERS: from goroutine 0's record 'a' in world 'w' the machine comes, on whatever tape, to a record and a world of Q's. -/
def Beside (P : Program) (a : Goroutine) (w : World) (Q : Goroutine → World → Prop) : Prop :=
  ∀ (t : TapeX) (d : Nat) (gs : Array Goroutine) (sl : Option (Nat × Nat)) (T : Trace) (q : Nat → Nat) (B : Nat), gs[0]? = some a → Leavers P T gs q → Past NoShun B T →
    ∃ (N : Nat) (gs' : Array Goroutine) (a' : Goroutine) (w' : World) (sl' : Option (Nat × Nat)) (T' : Trace) (q' : Nat → Nat) (B' : Nat),
      runNT P N (crowd gs (reT w t d) sl) T = (.next (crowd gs' w' sl'), T') ∧ gs'[0]? = some a' ∧ Q a' w' ∧ Leavers P T' gs' q' ∧ Past NoShun B' T'

section
variable {P : Program}
theorem Beside.mono {a : Goroutine} {w : World} {Q Q' : Goroutine → World → Prop} (h : Beside P a w Q) (hq : ∀ a w, Q a w → Q' a w) : Beside P a w Q' := by
  intro t d gs sl T q B h0 hL hP
  obtain ⟨N, gs', a', w', sl', T', q', B', h1, h2, h3, h4⟩ := h t d gs sl T q B h0 hL hP
  exact ⟨N, gs', a', w', sl', T', q', B', h1, h2, hq _ _ h3, h4⟩
theorem Beside.here {a : Goroutine} {w : World} {Q : Goroutine → World → Prop} (h : ∀ t d, Q a (reT w t d)) : Beside P a w Q :=
  fun t d gs sl T q B h0 hL hP => ⟨0, gs, a, _, sl, T, q, B, rfl, h0, h t d, hL, hP⟩
theorem Beside.trans {a : Goroutine} {w : World} {Q Q' : Goroutine → World → Prop} (h : Beside P a w Q) (h' : ∀ a' w', Q a' w' → Beside P a' w' Q') : Beside P a w Q' := by
  intro t d gs sl T q B h0 hL hP
  obtain ⟨N, gs', a', w', sl', T', q', B', h1, h2, h3, h4, h5⟩ := h t d gs sl T q B h0 hL hP
  obtain ⟨N2, gs2, a2, w2, sl2, T2, q2, B2, k1, k2⟩ := h' a' w' h3 w'.tape w'.drawn gs' sl' T' q' B' h2 h4 h5
  exact ⟨N + N2, gs2, a2, w2, sl2, T2, q2, B2, Go.ConcX.runNT_trans h1 k1, k2⟩

/-- One step of goroutine 0's own, of whatever world; leavers may slip ahead of it. -/
theorem beside_step1 {a : Goroutine} {w : World} {Q : Goroutine → World → Prop} (hrun : a.status = .running)
    (h : ∀ t d, ∃ a' w' es, stepG P true a (reT w t d) = .go a' w' es ∧ (∀ e ∈ es, Plain e) ∧ a'.status = .running ∧ w'.tape = t ∧ Beside P a' w' Q) : Beside P a w Q := by
  intro t d gs
  intro sl T q B h0 hL hP
  suffices H : ∀ (M : Nat) (gs : Array Goroutine) (d : Nat) (sl : Option (Nat × Nat)) (T : Trace) (q : Nat → Nat) (B : Nat), sumTo gs.size q = M → gs[0]? = some a → Leavers P T gs q → Past NoShun B T →
      ∃ (N : Nat) (gs' : Array Goroutine) (a' : Goroutine) (w' : World) (sl' : Option (Nat × Nat)) (T' : Trace) (q' : Nat → Nat) (B' : Nat),
        runNT P N (crowd gs (reT w t d) sl) T = (.next (crowd gs' w' sl'), T') ∧ gs'[0]? = some a' ∧ Q a' w' ∧ Leavers P T' gs' q' ∧ Past NoShun B' T' by
    exact H _ gs d sl T q B rfl h0 hL hP
  clear h0 hL hP gs d sl T q B
  intro M
  induction M using Nat.strongRecOn with
  | ind M ih =>
    intro gs d sl T q B hM h0 hL hP
    have haw : ∀ g ∈ gs, awake g := by
      intro g hg
      obtain ⟨i, hi, rfl⟩ := Array.mem_iff_getElem.1 hg
      rcases Nat.eq_zero_or_pos i with rfl | hpos
      · have : gs[0] = a := by simpa [Array.getElem?_eq_getElem hi] using h0
        rw [this]; exact awake_of (.inl hrun)
      · exact awake_of ((hL.old i _ hpos (Array.getElem?_eq_getElem hi)).status.elim .inl fun x => .inr (.inr x))
    obtain ⟨i, g, d1, sl', hi, hg, hst⟩ := crowd_pick (P := P) (w := reT w t d) (sl := sl) haw ⟨0, a, h0, hrun⟩
    rcases Nat.eq_zero_or_pos i with rfl | hpos
    · obtain rfl : g = a := by rw [h0] at hi; exact (Option.some.inj hi).symm
      obtain ⟨a', w', es, hgo, hes, hrun', ht', hB⟩ := h t d1
      have hrunT := runT_crowd_go (P := P) (sl := sl') (i := 0) hi (show stepG P (0 == 0) g ((reT w t d).at d1) = _ from hgo)
      have hlt : 0 < gs.size := (Array.getElem?_eq_some_iff.1 h0).1
      obtain ⟨B', hP'⟩ := past_own (fn := g.frame.fn) (pos := g.frame.place) hP hes
      have hL' : Leavers P (T ++ MemOp.ofEvents 0 g.frame.fn g.frame.place es) ((gs.map (woken P g a' w')).setIfInBounds 0 a') q :=
        ⟨fun j x hj hx => by
          have hne : 0 ≠ j := by omega
          rw [Array.getElem?_setIfInBounds_ne hne, Array.getElem?_map] at hx
          obtain ⟨y, hy, rfl⟩ := Option.map_eq_some_iff.1 hx
          have hq := hL.old j y hj hy
          rw [woken_quitsD hq, Deaf_other T (by omega) _ (fun op hop => by obtain ⟨e, _, rfl⟩ := Go.Conc.mem_ofEvents hop; rfl)]
          exact hq, fun j hj => by
          rw [Deaf_other T (g' := 0) (by simp at hj; omega) _ (fun op hop => by obtain ⟨e, _, rfl⟩ := Go.Conc.mem_ofEvents hop; rfl)]
          exact hL.above j (by simpa using hj)⟩
      obtain ⟨N, gs', a'', w'', sl'', T', q', B'', hr, k⟩ := hB w'.tape w'.drawn _ sl' _ q B' (by simp [hlt]) hL' hP'
      have hr' : runNT P N (crowd ((gs.map (woken P g a' w')).setIfInBounds 0 a') w' sl') (T ++ MemOp.ofEvents 0 g.frame.fn g.frame.place es) = (.next (crowd gs' w'' sl''), T') := hr
      exact ⟨N + 1, gs', a'', w'', sl'', T', q', B'', by simp only [runNT, hst, hrunT]; exact hr', k⟩
    · have hq := hL.old i g hpos hi
      have hi0 : (i == 0) = false := by simp; omega
      have hlt : i < gs.size := (Array.getElem?_eq_some_iff.1 hi).1
      cases hqi : q i with
      | zero => rw [hqi] at hq; rw [hq.1] at hg; cases hg
      | succ k =>
        rw [hqi] at hq
        rcases hq with ⟨hf, _⟩ | ⟨_, g', es, hm, hstp, hq'⟩
        · rw [hf] at hg; cases hg
        have hrunT := runT_crowd_go (P := P) (sl := sl') (i := i) hi (by rw [hi0]; exact hstp ((reT w t d).at d1))
        have hsz : ((gs.map (woken P g g' ((reT w t d).at d1))).setIfInBounds i g').size = gs.size := by simp
        have hsum : sumTo gs.size (upd q i k) + (k + 1) = sumTo gs.size q + k := by
          have := sumTo_upd q k id hlt
          simpa [hqi] using this
        have hr := ih (sumTo gs.size (upd q i k)) (by omega) ((gs.map (woken P g g' ((reT w t d).at d1))).setIfInBounds i g') d1 sl' (T ++ MemOp.ofEvents i g.frame.fn g.frame.place es) (upd q i k) B (by rw [hsz])
          (by
            have hne : i ≠ 0 := by omega
            rw [Array.getElem?_setIfInBounds_ne hne, Array.getElem?_map, h0]
            simp [woken_run hrun])
          ⟨fun j x hj hx => by
            by_cases hji : i = j
            · subst hji
              rw [Array.getElem?_setIfInBounds_self_of_lt (by simpa using hlt)] at hx
              obtain rfl := Option.some.inj hx
              rw [upd_same, Deaf_own]
              exact hq'
            · rw [Array.getElem?_setIfInBounds_ne hji, Array.getElem?_map] at hx
              obtain ⟨y, hy, rfl⟩ := Option.map_eq_some_iff.1 hx
              have hqj := hL.old j y hj hy
              rw [woken_quitsD hqj, upd_ne q k (Ne.symm hji), Deaf_other T hji _ (fun op hop => by obtain ⟨e, _, rfl⟩ := Go.Conc.mem_ofEvents hop; rfl)]
              exact hqj, fun j hj => by
            rw [Deaf_other T (g' := i) (by simp at hj; omega) _ (fun op hop => by obtain ⟨e, _, rfl⟩ := Go.Conc.mem_ofEvents hop; rfl)]
            exact hL.above j (by simpa using hj)⟩
          (hP.mute (by omega) hm)
        obtain ⟨N, gs', a'', w'', sl'', T', q', B'', hr, k'⟩ := hr
        have hr' : runNT P N (crowd ((gs.map (woken P g g' ((reT w t d).at d1))).setIfInBounds i g') ((reT w t d).at d1) sl') (T ++ MemOp.ofEvents i g.frame.fn g.frame.place es) = (.next (crowd gs' w'' sl''), T') := hr
        exact ⟨N + 1, gs', a'', w'', sl'', T', q', B'', by simp only [runNT, hst, hrunT]; exact hr', k'⟩

/-- ████ A LONE CALL BESIDE LEAVERS. ████ -/
theorem tot_beside {Stop : Frame → World → Prop} (hS : ∀ fr w t d, Stop fr w → Stop fr (reT w t d)) {fr : Frame} {mid : List Frame} {w : World} (h : Tot P Stop fr mid w) (cs : List Frame) :
    Beside P (G fr (mid ++ cs)) w fun a' w' => ∃ fr', a' = G fr' cs ∧ Stop fr' w' := by
  induction h with
  | stop h => exact .here fun t d => ⟨_, rfl, hS _ _ _ _ h⟩
  | step F M W E he ht hs _ ih => exact beside_step1 rfl fun t d => ⟨_, _, _, hs t d cs, he t d, rfl, ht t d, ih t d⟩
end
end Go.Proofs.YtnmlhjigiemfgaaDoor
