/- Small programs of the model that say nothing of deafness (Tame), and what a run of one is with another tape that answers alike. -/
import GoSem.Step
import Derived.RunT
namespace Go.Proofs.YtnmlhjigiemfgaaDoor

abbrev TapeX := Nat → Question → Nat
/-- The world with another tape and another count of draws. -/
def reT (w : World) (t : TapeX) (d : Nat) : World := { w with tape := t, drawn := d }
theorem reT_self (w : World) : reT w w.tape w.drawn = w := rfl
theorem reT_reT (w : World) (t t' : TapeX) (d d' : Nat) : reT (reT w t d) t' d' = reT w t' d' := rfl

/-- A mark that is no word of the library's on synchronisation. -/
def okMark : Mark → Prop
  | .extern _ | .noRoom => True
  | _ => False
def okHalt : Halt → Prop
  | .panic _ | .unsupported _ | .stuck _ => True
  | _ => False
/-- EVERY LEAF IS K's, every mark is plain, what is asked of outside is its surroundings alone. -/
def Tame {α : Type} (P : Program) (K : α → Prop) : Sem α → Prop
  | .pure a => K a
  | .load _ _ k => ∀ v, Tame P K (k v)
  | .store _ _ _ k => Tame P K k
  | .new _ k => ∀ r, Tame P K (k r)
  | .shape _ k => ∀ s, Tame P K (k s)
  | .freeze _ _ k => Tame P K k
  | .frozen _ k => ∀ b, Tame P K (k b)
  | .getObj _ k => ∀ o, Tame P K (k o)
  | .setObj _ _ k => Tame P K k
  | .choose _ k => ∀ n, Tame P K (k n)
  | .sys c k => c = .env ∧ ∀ r, Tame P K (k r)
  | .program k => Tame P K (k P)
  | .mark m k => okMark m ∧ Tame P K k
  | .halt h => okHalt h

theorem Tame.bind' {α β : Type} {P : Program} {K : α → Prop} {K' : β → Prop} {x : Sem α} {f : α → Sem β} (hx : Tame P K x) (hf : ∀ a, K a → Tame P K' (f a)) : Tame P K' (x.bind f) := by
  induction x with
  | pure a => exact hf a hx
  | load m a k ih => exact fun v => ih v (hx v)
  | store m a v k ih => exact ih hx
  | new o k ih => exact fun r => ih r (hx r)
  | shape r k ih => exact fun s => ih s (hx s)
  | freeze a n k ih => exact ih hx
  | frozen a k ih => exact fun b => ih b (hx b)
  | getObj r k ih => exact fun o => ih o (hx o)
  | setObj r o k ih => exact ih hx
  | choose q k ih => exact fun n => ih n (hx n)
  | sys c k ih => exact ⟨hx.1, fun r => ih r (hx.2 r)⟩
  | program k ih => exact ih P hx
  | mark m k ih => exact ⟨hx.1, ih hx.2⟩
  | halt h => exact hx
theorem Tame.bind {α β : Type} {P : Program} {K : α → Prop} {K' : β → Prop} {x : Sem α} {f : α → Sem β} (hx : Tame P K x) (hf : ∀ a, K a → Tame P K' (f a)) : Tame P K' (x >>= f) := hx.bind' hf
theorem Tame.mono {α : Type} {P : Program} {K K' : α → Prop} {x : Sem α} (hx : Tame P K x) (h : ∀ a, K a → K' a) : Tame P K' x := by
  induction x with
  | pure a => exact h a hx
  | load m a k ih => exact fun v => ih v (hx v)
  | store m a v k ih => exact ih hx
  | new o k ih => exact fun r => ih r (hx r)
  | shape r k ih => exact fun s => ih s (hx s)
  | freeze a n k ih => exact ih hx
  | frozen a k ih => exact fun b => ih b (hx b)
  | getObj r k ih => exact fun o => ih o (hx o)
  | setObj r o k ih => exact ih hx
  | choose q k ih => exact fun n => ih n (hx n)
  | sys c k ih => exact ⟨hx.1, fun r => ih r (hx.2 r)⟩
  | program k ih => exact ih P hx
  | mark m k ih => exact ⟨hx.1, ih hx.2⟩
  | halt h => exact hx

/-! ### a run with another tape -/
def resW {α : Type} : Result α → World
  | .ok _ w => w
  | .halt _ w => w
def reR {α : Type} (r : Result α) (t : TapeX) (d b : Nat) : Result α :=
  match r with
  | .ok a w => .ok a (reT w t (d + (w.drawn - b)))
  | .halt h w => .halt h (reT w t (d + (w.drawn - b)))

theorem sys_env (w : World) : w.sys .env = (.strings w.os.env, w) := by
  rfl

/-- An event that says neither that its goroutine hears nor that it doesn't. -/
def Plain (e : Event) : Prop := e.loc ≠ .mark .disable ∧ e.loc ≠ .mark .enable
theorem plain_cell (a : Addr) (b s : Bool) : Plain ⟨.cell a, b, s⟩ := ⟨by simp, by simp⟩
theorem plain_obj (r : Nat) (b s : Bool) : Plain ⟨.obj r, b, s⟩ := ⟨by simp, by simp⟩
theorem plain_out (b s : Bool) : Plain ⟨.output, b, s⟩ := ⟨by simp, by simp⟩
theorem plain_mark {m : Mark} (h : okMark m) (b s : Bool) : Plain ⟨.mark m, b, s⟩ := by
  cases m <;> first | exact h.elim | exact ⟨by simp, by simp⟩

theorem push_all {p : Event → Prop} {es : Array Event} {e : Event} (h : ∀ x ∈ es, p x) (he : p e) : ∀ x ∈ es.push e, p x := by
  intro x hx
  rcases Array.mem_push.1 hx with hx | rfl
  · exact h x hx
  · exact he
theorem app_all {p : Event → Prop} {es fs : Array Event} (h : ∀ x ∈ es, p x) (hf : ∀ x ∈ fs, p x) : ∀ x ∈ es ++ fs, p x := by
  intro x hx
  rcases Array.mem_append.1 hx with hx | hx
  · exact h x hx
  · exact hf x hx

/-- What a tame run lists and where it ends. -/
structure Ran {α : Type} (P : Program) (K : α → Prop) (s : Sem α) (w : World) (es : Array Event) : Prop where
  drawn : w.drawn ≤ (resW (s.runT P w es).1).drawn
  tape : (resW (s.runT P w es).1).tape = w.tape
  plain : ∀ e ∈ (s.runT P w es).2, Plain e
  leaf : match (s.runT P w es).1 with | .ok a _ => K a | .halt h _ => okHalt h
  again : ∀ (t : TapeX) (d : Nat), (∀ k q, w.drawn + k < (resW (s.runT P w es).1).drawn → t (d + k) q = w.tape (w.drawn + k) q) →
    s.runT P (reT w t d) es = (reR (s.runT P w es).1 t d w.drawn, (s.runT P w es).2)

theorem Ran.of_eq {α : Type} {P : Program} {K : α → Prop} {s s' : Sem α} {w w' : World} {es es' : Array Event} (h : Ran P K s w es)
    (hr : s'.runT P w' es' = s.runT P w es) (hd : w'.drawn = w.drawn) (ht : w'.tape = w.tape) (ha : ∀ t d, s'.runT P (reT w' t d) es' = s.runT P (reT w t d) es) : Ran P K s' w' es' := by
  refine ⟨by rw [hr, hd]; exact h.drawn, by rw [hr, ht]; exact h.tape, by rw [hr]; exact h.plain, by rw [hr]; exact h.leaf, fun t d hk => ?_⟩
  rw [ha, hr, hd]
  exact h.again t d (fun k q hlt => by rw [← hd, ← ht]; exact hk k q (by rw [hr, hd]; exact hlt))
theorem Ran.stop {α : Type} {P : Program} {K : α → Prop} {s : Sem α} {w : World} {es es' : Array Event} (x : Halt) (hx : okHalt x) (he : ∀ e ∈ es', Plain e)
    (hr : s.runT P w es = (.halt x w, es')) (ha : ∀ t d, s.runT P (reT w t d) es = (.halt x (reT w t d), es')) : Ran P K s w es := by
  refine ⟨by rw [hr]; exact Nat.le_refl _, by rw [hr]; rfl, by rw [hr]; exact he, by rw [hr]; exact hx, fun t d _ => ?_⟩
  rw [ha, hr]
  simp [reR, reT]

theorem far_ok {P : Program} {w : World} {a : Addr} {x : Bool} {e : Halt} (h : w.farLoad P a x = .error e) : okHalt e := by
  unfold World.farLoad at h
  split at h
  · split at h
    · cases h
    · cases h; trivial
  · cases h
    unfold World.noCell
    split <;> trivial
theorem farS_ok {P : Program} {w : World} {a : Addr} {v : Value} {x : Bool} {e : Halt} (h : w.farStore P a v x = .error e) : okHalt e := by
  unfold World.farStore at h
  split at h
  · split at h
    · cases h
    · cases h; trivial
  · cases h
    unfold World.noCell
    split <;> trivial
theorem farStore_re {P : Program} {w : World} {a : Addr} {v : Value} {x : Bool} (t : TapeX) (d : Nat) :
    (reT w t d).farStore P a v x = match w.farStore P a v x with | .ok (w', l) => .ok (reT w' t d, l) | .error e => .error e := by
  unfold World.farStore
  have e1 : (reT w t d).heap = w.heap := rfl
  rw [e1]
  split
  · rename_i at_ u _
    have e2 : (reT w t d).viewStore P at_ u a v x = match w.viewStore P at_ u a v x with | .ok (w', l) => .ok (reT w' t d, l) | .error e => .error e := by
      unfold World.viewStore
      have e3 : (reT w t d).seen P at_ u a x = w.seen P at_ u a x := rfl
      rw [e3]
      simp only [bind, Except.bind, pure, Except.pure, throw, throwThe, MonadExceptOf.throw]
      repeat' split
      all_goals simp_all [reT]
      all_goals
        rename_i h
        obtain ⟨h1, _⟩ := h
        rw [← h1]
        exact ⟨rfl, rfl, rfl⟩
    rw [e2]
    cases w.viewStore P at_ u a v x <;> rfl
  · rfl
theorem farStore_kept {P : Program} {w w' : World} {a : Addr} {v : Value} {x : Bool} {l : List Addr} (h : w.farStore P a v x = .ok (w', l)) : w'.drawn = w.drawn ∧ w'.tape = w.tape := by
  have h1 := farStore_re (P := P) (w := w) (a := a) (v := v) (x := x) w.tape w.drawn
  rw [reT_self, h] at h1
  simp only [Except.ok.injEq, Prod.mk.injEq] at h1
  exact ⟨by rw [h1.1]; rfl, by rw [h1.1]; rfl⟩

theorem tame_runT {α : Type} {P : Program} {K : α → Prop} : ∀ (s : Sem α), Tame P K s → ∀ (w : World) (es : Array Event), (∀ e ∈ es, Plain e) → Ran P K s w es := by
  intro s
  induction s with
  | pure a => exact fun h w es he => ⟨Nat.le_refl _, rfl, he, h, fun t d _ => by simp [Sem.runT, reR, reT]⟩
  | halt h0 => exact fun h w es he => .stop h0 h he rfl (fun _ _ => rfl)
  | load m a k ih =>
    intro h w es he
    cases hc : w.cell? a with
    | some v =>
      have hc' : ∀ t d, (reT w t d).cell? a = some v := fun _ _ => hc
      have hR := ih v (h v) w _ (push_all he (plain_cell a false (m == .atomic)))
      exact hR.of_eq (by simp only [Sem.runT, hc]) rfl rfl (fun t d => by simp only [Sem.runT, hc' t d])
    | none =>
      have hc' : ∀ t d, (reT w t d).cell? a = none := fun _ _ => hc
      have hf' : ∀ t d, (reT w t d).farLoad P a (m == .atomic) = w.farLoad P a (m == .atomic) := fun _ _ => rfl
      cases hf : w.farLoad P a (m == .atomic) with
      | ok x =>
        obtain ⟨v, touched⟩ := x
        have hR := ih v (h v) w (es ++ touched.toArray.map (⟨.cell ·, false, m == .atomic⟩)) (app_all he (by
          intro x hx
          obtain ⟨y, _, rfl⟩ := Array.mem_map.1 hx
          exact plain_cell _ _ _))
        exact hR.of_eq (by simp only [Sem.runT, hc, hf]) rfl rfl (fun t d => by simp only [Sem.runT, hc' t d, hf' t d, hf])
      | error e =>
        exact .stop e (far_ok hf) he (by simp only [Sem.runT, hc, hf]) (fun t d => by simp only [Sem.runT, hc' t d, hf' t d, hf])
  | store m a v k ih =>
    intro h w es he
    by_cases hagg : (∃ x, v = .agg x) ∨ (∃ x, v = .tuple x)
    · rcases hagg with ⟨x, rfl⟩ | ⟨x, rfl⟩
      · exact .stop _ (by exact trivial) he rfl (fun _ _ => rfl)
      · exact .stop _ (by exact trivial) he rfl (fun _ _ => rfl)
    · have e0 : ∀ w : World, ∀ es, (Sem.store m a v k).runT P w es = match w.cell? a with
          | some _ =>
            if w.frozen? a then (.halt (.unsupported (.unsafePointer "a write to bytes that a string shares")) w, es)
            else k.runT P (w.setCell a v) (es.push ⟨.cell a, true, m == .atomic⟩)
          | none => match w.farStore P a v (m == .atomic) with
            | .ok (w, touched) => k.runT P w (es ++ touched.toArray.map (⟨.cell ·, true, m == .atomic⟩))
            | .error h => (.halt h w, es) := by
        intro w es
        cases v <;> first | rfl | exact absurd (.inl ⟨_, rfl⟩) hagg | exact absurd (.inr ⟨_, rfl⟩) hagg
      cases hc : w.cell? a with
      | some v0 =>
        have hc' : ∀ t d, (reT w t d).cell? a = some v0 := fun _ _ => hc
        cases hfz : w.frozen? a with
        | true =>
          have hz' : ∀ t d, (reT w t d).frozen? a = true := fun _ _ => hfz
          exact .stop (.unsupported (.unsafePointer "a write to bytes that a string shares")) trivial he (by simp only [e0, hc, hfz, if_true]) (fun t d => by simp only [e0, hc' t d, hz' t d, if_true])
        | false =>
          have hz' : ∀ t d, (reT w t d).frozen? a = false := fun _ _ => hfz
          have hR := ih h (w.setCell a v) _ (push_all he (plain_cell a true (m == .atomic)))
          exact hR.of_eq (by simp only [e0, hc, hfz]; rfl) rfl rfl (fun t d => by simp only [e0, hc' t d, hz' t d]; rfl)
      | none =>
        have hc' : ∀ t d, (reT w t d).cell? a = none := fun _ _ => hc
        cases hf : w.farStore P a v (m == .atomic) with
        | ok x =>
          obtain ⟨w1, touched⟩ := x
          obtain ⟨k1, k2⟩ := farStore_kept hf
          have hR := ih h w1 (es ++ touched.toArray.map (⟨.cell ·, true, m == .atomic⟩)) (app_all he (by
            intro x hx
            obtain ⟨y, _, rfl⟩ := Array.mem_map.1 hx
            exact plain_cell _ _ _))
          exact hR.of_eq (by simp only [e0, hc, hf]) k1.symm k2.symm (fun t d => by simp only [e0, hc' t d, farStore_re, hf])
        | error e =>
          exact .stop e (farS_ok hf) he (by simp only [e0, hc, hf]) (fun t d => by simp only [e0, hc' t d, farStore_re, hf])
  | new o k ih =>
    intro h w es he
    exact (ih w.heap.size (h _) { w with heap := w.heap.push o } es he).of_eq rfl rfl rfl (fun t d => rfl)
  | shape r k ih =>
    intro h w es he
    exact (ih (w.shape? r) (h _) w es he).of_eq rfl rfl rfl (fun t d => rfl)
  | freeze a n k ih =>
    intro h w es he
    have e1 : ∀ t d, (reT w t d).freeze a n = reT (w.freeze a n) t d := by
      intro t d
      unfold World.freeze
      split <;> rfl
    have e2 : (w.freeze a n).drawn = w.drawn ∧ (w.freeze a n).tape = w.tape := by
      unfold World.freeze
      split <;> exact ⟨rfl, rfl⟩
    exact (ih h (w.freeze a n) es he).of_eq rfl e2.1.symm e2.2.symm (fun t d => by simp only [Sem.runT, e1])
  | frozen a k ih =>
    intro h w es he
    exact (ih (w.frozen? a) (h _) w es he).of_eq rfl rfl rfl (fun t d => rfl)
  | getObj r k ih =>
    intro h w es he
    have hh : ∀ t d, (reT w t d).heap = w.heap := fun _ _ => rfl
    cases hc : w.heap[r]? with
    | none => exact .stop (.stuck "getObj: no such block") trivial he (by simp only [Sem.runT, hc]) (fun t d => by simp only [Sem.runT, hh, hc])
    | some o =>
      by_cases ho : ∃ c e z, o = .cells c e z
      · obtain ⟨c, e, z, rfl⟩ := ho
        exact .stop (.stuck "getObj: a row of cells") trivial he (by simp only [Sem.runT, hc]) (fun t d => by simp only [Sem.runT, hh, hc])
      · have hR := ih o (h o) w _ (push_all he (plain_obj r false o.isChan))
        have e0 : ∀ w : World, w.heap[r]? = some o → ∀ es, (Sem.getObj r k).runT P w es = (k o).runT P w (es.push ⟨.obj r, false, o.isChan⟩) := by
          intro w hw es
          simp only [Sem.runT, hw]
          cases o <;> first | rfl | exact absurd ⟨_, _, _, rfl⟩ ho
        exact hR.of_eq (e0 w hc es) rfl rfl (fun t d => e0 (reT w t d) hc es)
  | setObj r o k ih =>
    intro h w es he
    have hh : ∀ t d, (reT w t d).heap = w.heap := fun _ _ => rfl
    cases hc : w.heap[r]? with
    | none => exact .stop (.stuck "setObj: no such block") trivial he (by simp only [Sem.runT, hc]) (fun t d => by simp only [Sem.runT, hh, hc])
    | some o' =>
      by_cases ho : ∃ c e z, o' = .cells c e z
      · obtain ⟨c, e, z, rfl⟩ := ho
        exact .stop (.stuck "setObj: a row of cells") trivial he (by simp only [Sem.runT, hc]) (fun t d => by simp only [Sem.runT, hh, hc])
      · have hR := ih h { w with heap := w.heap.setIfInBounds r o } _ (push_all he (plain_obj r true o.isChan))
        have e0 : ∀ w : World, w.heap[r]? = some o' → ∀ es, (Sem.setObj r o k).runT P w es = k.runT P { w with heap := w.heap.setIfInBounds r o } (es.push ⟨.obj r, true, o.isChan⟩) := by
          intro w hw es
          simp only [Sem.runT, hw]
          cases o' <;> first | rfl | exact absurd ⟨_, _, _, rfl⟩ ho
        exact hR.of_eq (e0 w hc es) rfl rfl (fun t d => e0 (reT w t d) hc es)
  | choose q k ih =>
    intro h w es he
    cases hf : q.forced with
    | true =>
      exact (ih 0 (h 0) w es he).of_eq (by simp only [Sem.runT, hf, if_true]) rfl rfl (fun t d => by simp only [Sem.runT, hf, if_true])
    | false =>
      have hR := ih (q.cut (w.tape w.drawn q)) (h _) { w with drawn := w.drawn + 1 } es he
      have e1 : (Sem.choose q k).runT P w es = (k (q.cut (w.tape w.drawn q))).runT P { w with drawn := w.drawn + 1 } es := by simp only [Sem.runT, hf]; rfl
      refine ⟨by rw [e1]; exact Nat.le_trans (Nat.le_succ _) hR.drawn, by rw [e1]; exact hR.tape, by rw [e1]; exact hR.plain, by rw [e1]; exact hR.leaf, fun t d hk => ?_⟩
      rw [e1] at hk ⊢
      have hlt : w.drawn < (resW ((k (q.cut (w.tape w.drawn q))).runT P { w with drawn := w.drawn + 1 } es).1).drawn := hR.drawn
      have h0 := hk 0 q hlt
      have e2 : (Sem.choose q k).runT P (reT w t d) es = (k (q.cut (t d q))).runT P (reT { w with drawn := w.drawn + 1 } t (d + 1)) es := by simp only [Sem.runT, hf]; rfl
      rw [e2, show t d q = w.tape w.drawn q from h0]
      rw [hR.again t (d + 1) (fun k' q' hlt' => by
        have := hk (k' + 1) q' (by show w.drawn + (k' + 1) < _; have : w.drawn + 1 + k' < _ := hlt'; omega)
        show t (d + 1 + k') q' = w.tape (w.drawn + 1 + k') q'
        rw [show d + 1 + k' = d + (k' + 1) by omega, show w.drawn + 1 + k' = w.drawn + (k' + 1) by omega]
        exact this)]
      have hd := hR.drawn
      generalize (k (q.cut (w.tape w.drawn q))).runT P { w with drawn := w.drawn + 1 } es = r at hd hlt ⊢
      obtain ⟨r, fs⟩ := r
      have e3 : ∀ n, w.drawn < n → d + 1 + (n - (w.drawn + 1)) = d + (n - w.drawn) := by intro n hn; omega
      cases r with
      | ok a v => simp only [reR, resW] at hlt ⊢; rw [e3 _ hlt]
      | halt x v => simp only [reR, resW] at hlt ⊢; rw [e3 _ hlt]
  | sys c k ih =>
    intro h w es he
    obtain ⟨rfl, h⟩ := h
    have hR := ih (.strings w.os.env) (h _) w _ (push_all he (plain_out true false))
    exact hR.of_eq (by simp only [Sem.runT, sys_env]) rfl rfl (fun t d => by simp only [Sem.runT, sys_env]; rfl)
  | program k ih =>
    intro h w es he
    exact (ih P h w es he).of_eq rfl rfl rfl (fun t d => rfl)
  | mark m k ih =>
    intro h w es he
    exact (ih h.2 w _ (push_all he (plain_mark h.1 false true))).of_eq rfl rfl rfl (fun t d => rfl)
end Go.Proofs.YtnmlhjigiemfgaaDoor
