/- Goroutine 0 hires the sender, beside leavers; and receives till the channel is closed. -/
import Derived.Test.YtnmlhjigiemfgaaDoorLivePipe2
import Derived.Test.YtnmlhjigiemfgaaDoorBesideGoes
namespace Go.Proofs.YtnmlhjigiemfgaaDoor
open Go Go.Conc
open Go.ConcN (sumTo upd sumTo_upd upd_ne upd_same)

section
variable {P : Program}
/-- Leavers may slip ahead, till it is goroutine 0's turn. -/
theorem slip {a : Goroutine} {w : World} (hrun : a.status = .running) : ∀ (M : Nat) (gs : Array Goroutine) (d : Nat) (sl : Option (Nat × Nat)) (T : Trace) (q : Nat → Nat) (B : Nat), sumTo gs.size q = M → gs[0]? = some a → Leavers P T gs q → Past NoShun B T →
      ∃ (N : Nat) (gs' : Array Goroutine) (d' : Nat) (sl' sl1 : Option (Nat × Nat)) (d1 : Nat) (T' : Trace) (q' : Nat → Nat) (B' : Nat),
        runNT P N (crowd gs (w.at d) sl) T = (.next (crowd gs' (w.at d') sl'), T') ∧ gs'[0]? = some a ∧ Leavers P T' gs' q' ∧ Past NoShun B' T' ∧ stepT P (crowd gs' (w.at d') sl') = runT P (crowd gs' (w.at d1) sl1) 0 := by
  intro M
  induction M using Nat.strongRecOn with
  | ind M ih =>
    intro gs d sl T q B hM h0 hL hP
    have haw : ∀ g ∈ gs, awake g := by
      intro g hg
      obtain ⟨i, hi, rfl⟩ := Array.mem_iff_getElem.1 hg
      rcases Nat.eq_zero_or_pos i with rfl | hpos
      · have : gs[0] = a := by simpa [Array.getElem?_eq_getElem hi] using h0
        rw [this]; exact awake_of (.inl hrun)
      · exact awake_of ((hL.old i _ hpos (Array.getElem?_eq_getElem hi)).status.elim .inl fun x => .inr (.inr x))
    obtain ⟨i, g, d1, sl', hi, hg, hst⟩ := crowd_pick (P := P) (w := w.at d) (sl := sl) haw ⟨0, a, h0, hrun⟩
    rcases Nat.eq_zero_or_pos i with rfl | hpos
    · exact ⟨0, gs, d, sl, sl', d1, T, q, B, rfl, h0, hL, hP, hst⟩
    · have hq := hL.old i g hpos hi
      have hi0 : (i == 0) = false := by simp; omega
      have hlt : i < gs.size := (Array.getElem?_eq_some_iff.1 hi).1
      cases hqi : q i with
      | zero => rw [hqi] at hq; rw [hq.1] at hg; cases hg
      | succ k =>
        rw [hqi] at hq
        rcases hq with ⟨hf, _⟩ | ⟨_, g', es, hm, hstp, hq'⟩
        · rw [hf] at hg; cases hg
        have hrunT := runT_crowd_go (P := P) (sl := sl') (i := i) hi (by rw [hi0]; exact hstp ((w.at d).at d1))
        have hsz : ((gs.map (woken P g g' ((w.at d).at d1))).setIfInBounds i g').size = gs.size := by simp
        have hsum : sumTo gs.size (upd q i k) + (k + 1) = sumTo gs.size q + k := by
          have := sumTo_upd q k id hlt
          simpa [hqi] using this
        have hr := ih (sumTo gs.size (upd q i k)) (by omega) ((gs.map (woken P g g' ((w.at d).at d1))).setIfInBounds i g') d1 sl' (T ++ MemOp.ofEvents i g.frame.fn g.frame.place es) (upd q i k) B (by rw [hsz])
          (by
            have hne : i ≠ 0 := by omega
            rw [Array.getElem?_setIfInBounds_ne hne, Array.getElem?_map, h0]
            simp [woken_run hrun])
          ⟨fun j x hj hx => by
            by_cases hji : i = j
            · subst hji
              rw [Array.getElem?_setIfInBounds_self_of_lt (by simpa using hlt)] at hx
              obtain rfl := Option.some.inj hx
              rw [upd_same, Deaf_own]
              exact hq'
            · rw [Array.getElem?_setIfInBounds_ne hji, Array.getElem?_map] at hx
              obtain ⟨y, hy, rfl⟩ := Option.map_eq_some_iff.1 hx
              have hqj := hL.old j y hj hy
              rw [woken_quitsD hqj, upd_ne q k (Ne.symm hji), Deaf_other T hji _ (fun op hop => by obtain ⟨e, _, rfl⟩ := Go.Conc.mem_ofEvents hop; rfl)]
              exact hqj, fun j hj => by
            rw [Deaf_other T (g' := i) (by simp at hj; omega) _ (fun op hop => by obtain ⟨e, _, rfl⟩ := Go.Conc.mem_ofEvents hop; rfl)]
            exact hL.above j (by simpa using hj)⟩
          (hP.mute (by omega) hm)
        obtain ⟨N, gs', d', sl2, sl1, d2, T', q', B'', hr, k'⟩ := hr
        have hr' : runNT P N (crowd ((gs.map (woken P g g' ((w.at d).at d1))).setIfInBounds i g') ((w.at d).at d1) sl') (T ++ MemOp.ofEvents i g.frame.fn g.frame.place es) = (.next (crowd gs' (w.at d') sl2), T') := hr
        exact ⟨N + 1, gs', d', sl2, sl1, d2, T', q', B'', by simp only [runNT, hst, hrunT]; exact hr', k'⟩
end

section
variable {P : Program} {c cap : Nat} {S : World → Prop} {Mine : Loc → Prop} {z : Value} {Fin : Goroutine → World → Prop}
/-- THE GO STATEMENT. -/
theorem beside_hire (hcap : 0 < cap) (hSc : ∀ w w₁, Aside c w w₁ → S w → S w₁) {a : Goroutine} {w : World} (hrun : a.status = .running)
    (h : ∀ d, ∃ (a' child : Goroutine) (w' : World) (es : Array Event) (s r : Nat) (vs : List Value), stepG P true a (w.at d) = .spawn a' child w' es ∧ (∀ e ∈ es, Plain e) ∧ a'.status = .running ∧ child.status = .running ∧
      w'.heap[c]? = some (.chan cap #[] false s r false) ∧ S w' ∧ Recvs P c S Mine z Fin vs a' w' ∧ SendsX P c S Mine vs child) : BesideT P a w Fin := by
  intro d gs sl T q B h0 hL hP
  obtain ⟨N, gs', d', sl', sl1, d1, T', q', B', hr, h0', hL', hP', hst⟩ := slip (w := w) hrun _ gs d sl T q B rfl h0 hL hP
  obtain ⟨a', child, w', es, s, r, vs, hgo, hes, hra, hrc, hch, hS, hA, hB⟩ := h d1
  have hrunT := runT_crowd_spawn (P := P) (sl := sl1) (i := 0) h0' (show stepG P (0 == 0) a (w.at d1) = _ from hgo)
  have hlt : 0 < gs'.size := (Array.getElem?_eq_some_iff.1 h0').1
  obtain ⟨B1, hP1⟩ := past_own (fn := a.frame.fn) (pos := a.frame.place) hP' hes
  obtain ⟨na, hA⟩ := (recvs_iff ..).1 hA
  obtain ⟨nb, hB⟩ := (sendsX_iff ..).1 hB
  generalize hx : ({ g := 0, fn := a.frame.fn, pos := a.frame.place, act := .go gs'.size } : MemOp) = x at hrunT
  generalize hy : ({ g := gs'.size, fn := child.frame.fn, pos := a.frame.place, act := .start } : MemOp) = y at hrunT
  have hT1 : ∀ i, i ≠ 0 → Deaf (T' ++ MemOp.ofEvents 0 a.frame.fn a.frame.place es) i = Deaf T' i := fun i hi => deaf_ofEvents_other T' (Ne.symm hi) _ _ _
  have hT2 : ∀ i, Deaf ((T' ++ MemOp.ofEvents 0 a.frame.fn a.frame.place es) ++ #[x, y]) i = Deaf (T' ++ MemOp.ofEvents 0 a.frame.fn a.frame.place es) i := fun i => deaf_comm _ i _ (by
    intro op hop m
    simp at hop
    rcases hop with rfl | rfl
    · rw [← hx]; simp
    · rw [← hy]; simp)
  have eT : T' ++ ((MemOp.ofEvents 0 a.frame.fn a.frame.place es).push x |>.push y) = (T' ++ MemOp.ofEvents 0 a.frame.fn a.frame.place es) ++ #[x, y] := by
    apply Array.ext'
    simp
  have hlive : Live P c S Mine z Fin gs'.size cap (2 * vs.length + 0 + 1) ((na + 1) + (nb + 1) + sumTo ((gs'.setIfInBounds 0 a').push child).size q') ((gs'.setIfInBounds 0 a').push child) w' ((T' ++ MemOp.ofEvents 0 a.frame.fn a.frame.place es) ++ #[x, y]) := by
    refine ⟨a', child, q', [], vs, false, s, r, na + 1, nb + 1, ?_, ?_, ?_, ?_, hch, hS, Nat.zero_le _, .run hra hA, .run rfl hB hrc, ?_, rfl, rfl⟩
    · rw [Array.getElem?_push_lt (by simpa using hlt)]; simp [hlt]
    · rw [Array.getElem?_push]; simp
    · intro i g hi hij hg
      have hlt2 : i < gs'.size := by
        have h2 := (Array.getElem?_eq_some_iff.1 hg).1
        simp at h2; omega
      rw [Array.getElem?_push_lt (by simpa using hlt2)] at hg
      have hg' : gs'[i]? = some g := by
        have hne : 0 ≠ i := by omega
        rw [← hg, ← Array.getElem?_eq_getElem (by simpa using hlt2), Array.getElem?_setIfInBounds_ne hne]
      rw [hT2, hT1 i (by omega)]
      exact hL'.old i g hi hg'
    · intro i hi
      simp at hi
      rw [hT2, hT1 i (by omega)]
      exact hL'.above i (by omega)
    · exact LT.begin (by omega) hP1 (by rw [hT1 _ (by omega)]; exact hL'.above _ (Nat.le_refl _)) x y (by rw [← hx]) (by rw [← hx]) (by rw [← hy]) (by rw [← hy])
  obtain ⟨N2, gs2, a2, w2, sl2, T2, q2, B2, hr2, k⟩ := live_runs hlt hcap hSc _ _ _ _ _ sl1 hlive
  refine ⟨N + (N2 + 1), gs2, a2, w2, sl2, T2, q2, B2, Go.ConcX.runNT_trans hr ?_, k⟩
  simp only [runNT, hst, hrunT, eT]
  exact hr2
end
end Go.Proofs.YtnmlhjigiemfgaaDoor
