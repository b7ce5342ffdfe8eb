/- 'On every tape the call comes to its end' as a judgement that goes from step to step, whatever count of draws and whatever tape stands ahead of each: so it serves beside goroutines that only leave. -/
import Derived.Test.YtnmlhjigiemfgaaDoorTameStep
namespace Go.Proofs.YtnmlhjigiemfgaaDoor
open Go Go.Conc

/-- FROM HERE IT COMES TO A STOP, WHATEVER IS DRAWN AHEAD OF EACH STEP. -/
inductive Tot (P : Program) (Stop : Frame → World → Prop) : Frame → List Frame → World → Prop
  | stop {fr : Frame} {w : World} (h : Stop fr w) : Tot P Stop fr [] w
  | step {fr : Frame} {mid : List Frame} {w : World} (F : TapeX → Nat → Frame) (M : TapeX → Nat → List Frame) (W : TapeX → Nat → World) (E : TapeX → Nat → Array Event) (he : ∀ t d, ∀ e ∈ E t d, Plain e) (ht : ∀ t d, (W t d).tape = t)
      (hs : ∀ t d cs, stepG P true (G fr (mid ++ cs)) (reT w t d) = .go (G (F t d) (M t d ++ cs)) (W t d) (E t d)) (h : ∀ t d, Tot P Stop (F t d) (M t d) (W t d)) : Tot P Stop fr mid w

theorem Tot.mk {P : Program} {Stop : Frame → World → Prop} {fr : Frame} {mid : List Frame} {w : World} (h : ∀ (t : TapeX) (d : Nat), ∃ fr' mid' w' es, (∀ e ∈ es, Plain e) ∧ w'.tape = t ∧
      (∀ cs, stepG P true (G fr (mid ++ cs)) (reT w t d) = .go (G fr' (mid' ++ cs)) w' es) ∧ Tot P Stop fr' mid' w') : Tot P Stop fr mid w := by
  have h1 := fun t d => Classical.choose_spec (h t d)
  have h2 := fun t d => Classical.choose_spec (h1 t d)
  have h3 := fun t d => Classical.choose_spec (h2 t d)
  have h4 := fun t d => Classical.choose_spec (h3 t d)
  exact .step (fun t d => Classical.choose (h t d)) (fun t d => Classical.choose (h1 t d)) (fun t d => Classical.choose (h2 t d)) (fun t d => Classical.choose (h3 t d)) (fun t d => (h4 t d).1) (fun t d => (h4 t d).2.1) (fun t d => (h4 t d).2.2.1) (fun t d => (h4 t d).2.2.2)

theorem Tot.re {P : Program} {Stop : Frame → World → Prop} (hS : ∀ fr w t d, Stop fr w → Stop fr (reT w t d)) {fr : Frame} {mid : List Frame} {w : World} (h : Tot P Stop fr mid w) (t : TapeX) (d : Nat) : Tot P Stop fr mid (reT w t d) := by
  cases h with
  | stop h => exact .stop (hS _ _ _ _ h)
  | step F M W E h1 h2 h3 h4 => exact .step F M W E h1 h2 (fun t' d' cs => by rw [reT_reT]; exact h3 t' d' cs) h4

/-- The frame that is laid beneath a call for the sake of the argument: whatever comes back to it ends the run. -/
def floor (P : Program) : Frame := { fn := P.funcs.size, tmps := #[undef], todo := [.call { target := .nil, args := #[] } false "fmt's door of none" #[]], defers := [], mode := .run, kind := .normal }
theorem floor_no : Extern.next "fmt's door of none" = none := by decide +kernel

theorem step_of_go {P : Program} {fr fr' : Frame} {cs cs' : List Frame} {w w' : World} {es : Array Event} (h : stepG P true (G fr cs) w = .go (G fr' cs') w' es) : step P (lone fr cs w) = .next (lone fr' cs' w') :=
  step_lone_go (by
    have h' : stepG P true { frame := fr, callers := cs, status := .running, dying := none } w = .go { frame := fr', callers := cs', status := .running, dying := none } w' es := h
    rw [h']; rfl)
theorem step_of_ended {P : Program} {fr : Frame} {cs : List Frame} {w w' : World} {o : Outcome} {es : Array Event} (h : stepG P true (G fr cs) w = .ended o w' es) : step P (lone fr cs w) = .ended o w' :=
  step_lone_ended (by
    have h' : stepG P true { frame := fr, callers := cs, status := .running, dying := none } w = .ended o w' es := h
    rw [h']; rfl)
theorem runN_of_ended {P : Program} {m : Machine} {o : Outcome} {w : World} (h : step P m = .ended o w) : ∀ {n : Nat} {m' : Machine}, runN P (n + 1) m ≠ .next m' := by
  intro n m' hh
  simp only [runN, h] at hh
  cases hh
theorem lone_inj {fr fr' : Frame} {cs cs' : List Frame} {w w' : World} (h : lone fr cs w = lone fr' cs' w') : fr = fr' ∧ cs = cs' ∧ w = w' := by
  simp only [lone, Machine.mk.injEq, Array.mk.injEq, List.cons.injEq, Goroutine.mk.injEq] at h
  exact ⟨h.2.1.1.1, h.2.1.1.2.1, h.1⟩

/-- From a frame that is leaving onto the floor nothing comes back to the floor's callee. -/
theorem leaving_floor {P : Program} {L : List FuncId} {fr : Frame} (hok : OkFrame L fr) (hm : fr.mode ≠ .run) (w : World) {n : Nat} {fr' : Frame} {w' : World} (h : runN P (n + 1) (lone fr [floor P] w) = .next (lone fr' [floor P] w')) : False := by
  have key : ∀ (fl : Frame) (w1 : World), step P (lone fr [floor P] w) = .next (lone fl [] w1) → (∃ o w2, step P (lone fl [] w1) = .ended o w2) → False := by
    intro fl w1 hs ⟨o, w2, hs2⟩
    simp only [runN, hs] at h
    cases n with
    | zero =>
      simp only [runN, Stepped.next.injEq] at h
      have := (lone_inj h).2.1
      cases this
    | succ n => exact runN_of_ended hs2 h
  obtain ⟨fn, tmps, todo, defers, mode, kind, roundOf⟩ := fr
  obtain ⟨h1, h2, h3, h4⟩ := hok
  simp only at h2 h3 h4
  subst h2 h3 h4
  have ret : ∀ (v : Value) (w1 : World), step P (lone { fn, tmps, todo, defers := [], mode, kind := .normal, roundOf := none } [floor P] w) = .next (lone ((floor P).finish v) [] w1) → False := by
    intro v w1 hs
    refine key _ _ hs ?_
    refine ⟨_, _, step_of_ended (P := P) (o := .stuck ("no extern row " ++ "fmt's door of none") (((floor P).finish v).pos P)) (w' := w1) (es := #[]) ?_⟩
    simp [stepG, G, stepG.exec, floor, Frame.finish, floor_no]
  cases mode with
  | run => exact absurd rfl hm
  | panicking chain =>
    have hca : (({ fn, tmps, todo, defers := [], mode := .panicking chain, kind := .normal, roundOf := none } : Frame).catches P) = false := by
      unfold Frame.catches
      split
      · rename_i a b c' d k _ hk
        exact absurd (h1 _ (by rw [show todo = _ from hk]; exact List.mem_cons_self)) (by simp [okItem])
      · rfl
    refine key ((floor P).raise chain) w (step_of_go (es := #[]) (by simp [stepG, G, unwind, hca])) ?_
    have hcb : ((floor P).raise chain).catches P = true := by
      simp [Frame.catches, floor, Frame.raise]
    refine ⟨_, _, step_of_ended (P := P) (o := .unsupported (.noEntry "a panic or Goexit out of a method that fmt calls behind a cut's door") (((floor P).raise chain).pos P)) (w' := w) (es := #[]) ?_⟩
    have e : ((floor P).raise chain) = { floor P with mode := .panicking chain } := rfl
    rw [e] at hcb ⊢
    simp only [floor] at hcb ⊢
    simp [stepG, G, unwind, hcb]
  | returning =>
    cases hf : P.funcs[fn]? with
    | none => exact ret (tmps.getD 0 undef) w (step_of_go (es := #[]) (by simp [stepG, G, unwind, hf, doReturn]))
    | some f =>
      cases hr : (results f tmps).runT P w #[] with
      | mk r es =>
        cases r with
        | ok v w1 => exact ret v w1 (step_of_go (es := seen P fn es ++ #[]) (by simp only [stepG, G, unwind, hf, hr, doReturn, GStep.after]))
        | halt x w1 =>
          have : ∃ o w2 es2, stepG P true (G { fn, tmps, todo, defers := [], mode := .returning, kind := .normal, roundOf := none } [floor P]) w = .ended o w2 es2 := by
            cases x <;> simp only [stepG, G, unwind, hf, hr, GStep.after] <;> exact ⟨_, _, _, rfl⟩
          obtain ⟨o, w2, es2, hs⟩ := this
          exact runN_of_ended (step_of_ended hs) h

/-! ### one tape out of many -/
section
variable {P : Program} {L : List FuncId} {Stop : Frame → World → Prop}

/-- A place from which there is no such judgement. -/
structure Bad (P : Program) (L : List FuncId) (Stop : Frame → World → Prop) where
  fr : Frame
  mid : List Frame
  w : World
  ok : OkStack L fr mid
  bad : ¬ Tot P Stop fr mid w

/-- From x the step with n answers of tape t from d on leads to y. -/
def Leads (P : Program) (x y : Bad P L Stop) (t : TapeX) (d n : Nat) : Prop :=
  ∀ (t' : TapeX) (d' : Nat), (∀ k q, k < n → t' (d' + k) q = t (d + k) q) → ∃ es, ∀ cs, stepG P true (G x.fr (x.mid ++ cs)) (reT x.w t' d') = .go (G y.fr (y.mid ++ cs)) (reT y.w t' (d' + n)) es
def Over (P : Program) (x : Bad P L Stop) (t : TapeX) (d n : Nat) : Prop :=
  (x.mid = [] ∧ x.fr.mode ≠ .run) ∨ ∀ (t' : TapeX) (d' : Nat), (∀ k q, k < n → t' (d' + k) q = t (d + k) q) → ∀ cs, ∃ o w' es, stepG P true (G x.fr (x.mid ++ cs)) (reT x.w t' d') = .ended o w' es

theorem bad_next (hL : Closed P L) (x : Bad P L Stop) : ∃ (y : Bad P L Stop) (t : TapeX) (d n : Nat), Leads P x y t d n ∨ Over P x t d n := by
  apply Classical.byContradiction
  intro hno
  refine x.bad (Tot.mk fun t d => ?_)
  rcases step_ok hL (reT x.w t d) x.ok with h | ⟨fr', mid', w', es, h1, h2, h3, h4, h5⟩ | ⟨n, h⟩
  · exact absurd ⟨x, t, d, 0, .inr (.inl h)⟩ hno
  · have hs : ∀ cs, stepG P true (G x.fr (x.mid ++ cs)) (reT x.w t d) = .go (G fr' (mid' ++ cs)) w' es := by
      intro cs
      have := h5 t d (fun _ _ _ => rfl) cs
      rw [reT_reT] at this
      rw [this]
      have e : d + (w'.drawn - d) = w'.drawn := by have h3' : d ≤ w'.drawn := h3; omega
      have e2 : reT w' t w'.drawn = w' := by rw [show t = w'.tape from h4.symm]; rfl
      show GStep.go _ (reT w' t (d + (w'.drawn - d))) es = _
      rw [e, e2]
    refine ⟨fr', mid', w', es, h2, h4, hs, Classical.byContradiction fun hb => ?_⟩
    refine hno ⟨⟨fr', mid', w', h1, hb⟩, t, d, w'.drawn - d, .inl fun t' d' hk => ⟨es, fun cs => ?_⟩⟩
    have := h5 t' d' (fun k q hlt => hk k q (by have hlt' : d + k < w'.drawn := hlt; omega)) cs
    rw [reT_reT] at this
    exact this
  · refine absurd ⟨x, t, d, n, .inr (.inr fun t' d' hk cs => ?_)⟩ hno
    have := h t' d' hk cs
    rw [reT_reT] at this
    exact this

noncomputable def nxY (hL : Closed P L) (x : Bad P L Stop) : Bad P L Stop := Classical.choose (bad_next hL x)
noncomputable def nxT (hL : Closed P L) (x : Bad P L Stop) : TapeX := Classical.choose (Classical.choose_spec (bad_next hL x))
noncomputable def nxD (hL : Closed P L) (x : Bad P L Stop) : Nat := Classical.choose (Classical.choose_spec (Classical.choose_spec (bad_next hL x)))
noncomputable def nxN (hL : Closed P L) (x : Bad P L Stop) : Nat := Classical.choose (Classical.choose_spec (Classical.choose_spec (Classical.choose_spec (bad_next hL x))))
theorem nx_spec (hL : Closed P L) (x : Bad P L Stop) : Leads P x (nxY hL x) (nxT hL x) (nxD hL x) (nxN hL x) ∨ Over P x (nxT hL x) (nxD hL x) (nxN hL x) :=
  Classical.choose_spec (Classical.choose_spec (Classical.choose_spec (Classical.choose_spec (bad_next hL x))))

noncomputable def seqB (hL : Closed P L) (x : Bad P L Stop) : Nat → Bad P L Stop
  | 0 => x
  | k + 1 => nxY hL (seqB hL x k)
noncomputable def offB (hL : Closed P L) (x : Bad P L Stop) : Nat → Nat
  | 0 => 0
  | k + 1 => offB hL x k + nxN hL (seqB hL x k)
theorem offB_mono (hL : Closed P L) (x : Bad P L Stop) {i j : Nat} (h : i ≤ j) : offB hL x i ≤ offB hL x j := by
  induction j with
  | zero =>
    have : i = 0 := by omega
    rw [this]
    exact Nat.le_refl _
  | succ j ih =>
    rcases Nat.lt_or_ge i (j + 1) with h' | h'
    · exact Nat.le_trans (ih (by omega)) (Nat.le_add_right _ _)
    · have : i = j + 1 := by omega
      rw [this]
      exact Nat.le_refl _
open Classical in
/-- THE ONE TAPE. -/
noncomputable def tapeB (hL : Closed P L) (x : Bad P L Stop) : TapeX := fun m q =>
  if h : ∃ k, offB hL x k ≤ m ∧ m < offB hL x (k + 1) then
    nxT hL (seqB hL x (Classical.choose h)) (nxD hL (seqB hL x (Classical.choose h)) + (m - offB hL x (Classical.choose h))) q
  else 0
theorem tapeB_at (hL : Closed P L) (x : Bad P L Stop) (k j : Nat) (q : Question) (hj : j < nxN hL (seqB hL x k)) :
    tapeB hL x (offB hL x k + j) q = nxT hL (seqB hL x k) (nxD hL (seqB hL x k) + j) q := by
  have hex : ∃ k', offB hL x k' ≤ offB hL x k + j ∧ offB hL x k + j < offB hL x (k' + 1) := ⟨k, Nat.le_add_right _ _, by show _ < offB hL x k + nxN hL (seqB hL x k); omega⟩
  have hsp := Classical.choose_spec hex
  have he : Classical.choose hex = k := by
    rcases Nat.lt_trichotomy (Classical.choose hex) k with h | h | h
    · have := offB_mono hL x (show Classical.choose hex + 1 ≤ k from h)
      omega
    · exact h
    · have h1 := offB_mono hL x (show k + 1 ≤ Classical.choose hex from h)
      have h2 : offB hL x (k + 1) = offB hL x k + nxN hL (seqB hL x k) := rfl
      omega
  unfold tapeB
  rw [dif_pos hex, he]
  congr 1
  omega

/-- The lone run with that tape goes along the bad places. -/
theorem run_along (hL : Closed P L) (x : Bad P L Stop) (cs : List Frame) : ∀ k, (∃ j, j < k ∧ Over P (seqB hL x j) (nxT hL (seqB hL x j)) (nxD hL (seqB hL x j)) (nxN hL (seqB hL x j)) ∧
      runN P j (lone x.fr (x.mid ++ cs) (reT x.w (tapeB hL x) 0)) = .next (lone (seqB hL x j).fr ((seqB hL x j).mid ++ cs) (reT (seqB hL x j).w (tapeB hL x) (offB hL x j)))) ∨
    runN P k (lone x.fr (x.mid ++ cs) (reT x.w (tapeB hL x) 0)) = .next (lone (seqB hL x k).fr ((seqB hL x k).mid ++ cs) (reT (seqB hL x k).w (tapeB hL x) (offB hL x k))) := by
  intro k
  induction k with
  | zero => exact .inr rfl
  | succ k ih =>
    rcases ih with ⟨j, hj, h⟩ | ih
    · exact .inl ⟨j, by omega, h⟩
    · rcases nx_spec hL (seqB hL x k) with hl | ho
      · right
        obtain ⟨es, hs⟩ := hl (tapeB hL x) (offB hL x k) (fun j q hj => tapeB_at hL x k j q hj)
        have h1 := step_of_go (hs cs)
        rw [runN_add, ih]
        show runN P 1 _ = _
        simp only [runN, h1]
        rfl
      · exact .inl ⟨k, Nat.lt_succ_self _, ho, ih⟩

/-- ████ WHERE ON EVERY TAPE THE LONE CALL COMES TO A STOP, IT DOES WHATEVER IS DRAWN. ████ -/
theorem tot_of_lone (hL : Closed P L) (hS : ∀ fr w t d, Stop fr w → Stop fr (reT w t d)) {fr0 : Frame} {w0 : World} (hok : OkFrame L fr0)
    (hrun : ∀ t, ∃ N fr w', runN P N (lone fr0 [floor P] (reT w0 t 0)) = .next (lone fr [floor P] w') ∧ Stop fr w') : Tot P Stop fr0 [] w0 := by
  apply Classical.byContradiction
  intro hb
  let x : Bad P L Stop := ⟨fr0, [], w0, ⟨hok, by simp⟩, hb⟩
  obtain ⟨N, fr, w', hN, hst⟩ := hrun (tapeB hL x)
  rcases run_along hL x [floor P] N with ⟨j, hj, ho, hr⟩ | hr
  · have hN' : runN P (j + (N - j)) (lone x.fr (x.mid ++ [floor P]) (reT x.w (tapeB hL x) 0)) = .next (lone fr [floor P] w') := by rw [show j + (N - j) = N by omega]; exact hN
    rw [runN_add, hr] at hN'
    obtain ⟨m, hm⟩ : ∃ m, N - j = m + 1 := ⟨N - j - 1, by omega⟩
    rw [hm] at hN'
    rcases ho with ⟨h1, h2⟩ | ho
    · rw [h1] at hN'
      exact leaving_floor (seqB hL x j).ok.1 h2 _ hN'
    · obtain ⟨o, w2, es, hs⟩ := ho (tapeB hL x) (offB hL x j) (fun i q hi => tapeB_at hL x j i q hi) [floor P]
      exact runN_of_ended (step_of_ended hs) hN'
  · have e : lone fr [floor P] w' = lone (seqB hL x N).fr ((seqB hL x N).mid ++ [floor P]) (reT (seqB hL x N).w (tapeB hL x) (offB hL x N)) := by
      have := hN.symm.trans hr
      simpa using this
    obtain ⟨e1, e2, e3⟩ := lone_inj e
    have hmid : (seqB hL x N).mid = [] := by
      cases hm : (seqB hL x N).mid with
      | nil => rfl
      | cons a l => rw [hm] at e2; simp at e2
    refine (seqB hL x N).bad ?_
    rw [hmid]
    refine .stop ?_
    have hst' := hS fr w' (seqB hL x N).w.tape (seqB hL x N).w.drawn hst
    rw [e3, reT_reT, reT_self, e1] at hst'
    exact hst'
end
end Go.Proofs.YtnmlhjigiemfgaaDoor
