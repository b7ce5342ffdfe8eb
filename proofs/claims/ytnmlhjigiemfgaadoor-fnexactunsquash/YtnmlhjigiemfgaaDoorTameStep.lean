/- What one step of a goroutine is whose frames run code of a closed set of functions: it goes on, in such frames, alike with any tape that answers alike; or the run ends; or its lowest frame is leaving. -/
import Derived.Test.YtnmlhjigiemfgaaDoorTameOps
import Derived.Conc.Own
namespace Go.Proofs.YtnmlhjigiemfgaaDoor
open Go Go.Conc

/-- The operations that are looked at here; calls of Go functions by name alone, those on the list. -/
def okOper (L : List FuncId) (o : Oper) : Bool :=
  match o.op with
  | .move _ | .assign _ | .pick .. | .alloc _ | .box .. | .build .. | .buildSlice .. | .load .. | .store .. | .nilCheck _ | .binOp .. | .unOp .. | .convert .. | .makeInterface .. | .slice .. | .fieldAddr .. | .field .. | .indexAddr .. | .index .. | .extract .. | .panic _ => true
  | .call c => match c.callee with
    | .builtin b => match b with | .append | .len | .cap | .copy | .min | .unsafeSliceData | .unsafeString => true | _ => false
    | .value (.func f) => L.contains f
    | _ => false
  | _ => false
def okCode (L : List FuncId) : Code → Bool
  | .region _ ops _ => ops.all (okOper L)
  | .seq a b => okCode L a && okCode L b
  | .cond _ a b => okCode L a && okCode L b
  | .block _ c | .loop c | .scope c => okCode L c
  | .rangeFunc .. => false
  | _ => true
def okItem (L : List FuncId) : Item → Bool
  | .code c | .inLoop c | .inScope c => okCode L c
  | .inBlock _ => true
  | .inRegion ops _ => ops.all (okOper L)
  | _ => false

/-- A function of the list: of plain code, or without a body and tame. -/
inductive OkFn (P : Program) (L : List FuncId) (f : FuncId) : Prop
  | body (fn : Func) (c : Code) (h : P.funcs[f]? = some fn) (hn : (fn.name == "runtime.NumGoroutine") = false) (hb : fn.body = some c) (hc : okCode L c = true)
  | ext (fn : Func) (e : Array Value → Sem Value) (h : P.funcs[f]? = some fn) (hn : (fn.name == "runtime.NumGoroutine") = false) (hb : fn.body = none) (hx : Extern.findNext fn = none) (hf : Extern.find fn = some e) (he : ∀ args, TT P (e args))
structure Closed (P : Program) (L : List FuncId) : Prop where
  fns : ∀ f ∈ L, OkFn P L f
  noInit : ∀ g, P.stepOf g = none

structure OkFrame (L : List FuncId) (fr : Frame) : Prop where
  todo : ∀ i ∈ fr.todo, okItem L i = true
  defers : fr.defers = []
  round : fr.roundOf = none
  kind : fr.kind = .normal
def OkStack (L : List FuncId) (fr : Frame) (mid : List Frame) : Prop := OkFrame L fr ∧ ∀ x ∈ mid, OkFrame L x

/-- IT GOES ON. -/
def GoesOn (P : Program) (L : List FuncId) (fr : Frame) (mid : List Frame) (w : World) : Prop :=
  ∃ fr' mid' w' es, OkStack L fr' mid' ∧ (∀ e ∈ es, Plain e) ∧ w.drawn ≤ w'.drawn ∧ w'.tape = w.tape ∧
    ∀ (t : TapeX) (d : Nat), (∀ k q, w.drawn + k < w'.drawn → t (d + k) q = w.tape (w.drawn + k) q) →
      ∀ cs, stepG P true (G fr (mid ++ cs)) (reT w t d) = .go (G fr' (mid' ++ cs)) (reT w' t (d + (w'.drawn - w.drawn))) es
/-- THE RUN ENDS. -/
def Ends (P : Program) (fr : Frame) (mid : List Frame) (w : World) : Prop :=
  ∃ n, ∀ (t : TapeX) (d : Nat), (∀ k q, k < n → t (d + k) q = w.tape (w.drawn + k) q) →
    ∀ cs, ∃ o w' es, stepG P true (G fr (mid ++ cs)) (reT w t d) = .ended o w' es

section
variable {P : Program} {L : List FuncId}

theorem goesOn_still {fr fr' : Frame} {mid mid' : List Frame} {w : World} (h : OkStack L fr' mid') (hs : ∀ w cs, stepG P true (G fr (mid ++ cs)) w = .go (G fr' (mid' ++ cs)) w) : GoesOn P L fr mid w := by
  refine ⟨fr', mid', w, #[], h, by simp, Nat.le_refl _, rfl, fun t d _ cs => ?_⟩
  rw [hs, Nat.sub_self]
  rfl
theorem ends_still {fr : Frame} {mid : List Frame} {w : World} (hs : ∀ w cs, ∃ o w' es, stepG P true (G fr (mid ++ cs)) w = .ended o w' es) : Ends P fr mid w :=
  ⟨0, fun _ _ _ cs => hs _ cs⟩

theorem seen_mem {fn : FuncId} {es : Array Event} {e : Event} (h : e ∈ seen P fn es) : e ∈ es := by
  unfold seen at h
  dsimp only at h
  have key : ∀ (l : List Event) (x : Bool × Array Event), (∀ e ∈ x.2, e ∈ es) → (∀ e ∈ l, e ∈ es) → ∀ e ∈ (l.foldl (fun (x : Bool × Array Event) e =>
      match x with
      | (q, kept) => match e.loc with
        | .mark (.extern f) => ((P.funcs[f]?).any (·.norace), kept)
        | _ => (q, if q && !e.sync then kept else kept.push e)) x).2, e ∈ es := by
    intro l
    induction l with
    | nil => exact fun x hx _ => hx
    | cons a l ih =>
      intro x hx hl
      refine ih _ ?_ (fun e he => hl e (List.mem_cons_of_mem _ he))
      obtain ⟨q, kept⟩ := x
      dsimp only
      split
      · exact hx
      · dsimp only
        split
        · exact hx
        · intro e he
          rcases Array.mem_push.1 he with he | rfl
          · exact hx e he
          · exact hl _ (List.mem_cons_self)
  rw [← Array.foldl_toList] at h
  exact key es.toList _ (by simp) (fun e he => Array.mem_toList_iff.1 he) e h

theorem findLabel_ok : ∀ {c : Code} {l : Nat} {r : Code}, okCode L c = true → findLabel c l = some r → okCode L r = true := by
  intro c
  induction c with
  | seq a b iha ihb =>
    intro l r h hf
    simp only [okCode, Bool.and_eq_true] at h
    simp only [findLabel] at hf
    split at hf
    · rename_i rest hr
      cases hf
      simp only [okCode, Bool.and_eq_true]
      exact ⟨iha h.1 hr, h.2⟩
    · exact ihb h.2 hf
  | label l' =>
    intro l r _ hf
    simp only [findLabel] at hf
    split at hf
    · cases hf; rfl
    · cases hf
  | _ => intro l r _ hf; simp [findLabel] at hf
theorem gotoIn_ok {l : Nat} : ∀ {k k' : List Item}, (∀ i ∈ k, okItem L i = true) → gotoIn l k = some k' → ∀ i ∈ k', okItem L i = true := by
  intro k
  induction k with
  | nil => intro k' _ h; simp [gotoIn] at h
  | cons x k ih =>
    intro k' hk h
    have hk' : ∀ i ∈ k, okItem L i = true := fun i hi => hk i (List.mem_cons_of_mem _ hi)
    cases x with
    | inScope body =>
      simp only [gotoIn] at h
      have hb : okCode L body = true := hk (.inScope body) (List.mem_cons_self)
      split at h
      · rename_i rest hr
        cases h
        intro i hi
        simp only [List.mem_cons] at hi
        rcases hi with rfl | rfl | hi
        · exact findLabel_ok hb hr
        · exact hb
        · exact hk' i hi
      · exact ih hk' h
    | _ => simp only [gotoIn] at h; exact ih hk' h
theorem exitTo_ok {l : Nat} : ∀ {k k' : List Item}, (∀ i ∈ k, okItem L i = true) → exitTo l k = some k' → ∀ i ∈ k', okItem L i = true := by
  intro k
  induction k with
  | nil => intro k' _ h; simp [exitTo] at h
  | cons x k ih =>
    intro k' hk h
    have hk' : ∀ i ∈ k, okItem L i = true := fun i hi => hk i (List.mem_cons_of_mem _ hi)
    cases x with
    | inBlock id =>
      simp only [exitTo] at h
      split at h
      · cases h; exact hk'
      · exact ih hk' h
    | _ => simp only [exitTo] at h; exact ih hk' h

theorem OkFrame.finish {fr : Frame} (h : OkFrame L fr) (v : Value) : OkFrame L (fr.finish v) := by
  obtain ⟨h1, h2, h3, h4⟩ := h
  unfold Frame.finish
  split
  · rename_i ops i rest k hk
    refine ⟨?_, h2, h3, h4⟩
    intro x hx
    simp only [List.mem_cons] at hx
    rcases hx with rfl | hx
    · have := h1 (.inRegion ops (i :: rest)) (by rw [hk]; exact List.mem_cons_self)
      exact this
    · exact h1 x (by rw [hk]; exact List.mem_cons_of_mem _ hx)
  · rename_i l k hk
    exact absurd (h1 (.inRangeFunc l) (by rw [hk]; exact List.mem_cons_self)) (by simp [okItem])
  · rename_i k hk
    exact absurd (h1 .beginRound (by rw [hk]; exact List.mem_cons_self)) (by simp [okItem])
  · rename_i a b c d k hk
    exact absurd (h1 (.call a b c d) (by rw [hk]; exact List.mem_cons_self)) (by simp [okItem])
  · rename_i a b k hk
    exact absurd (h1 (.extern a b) (by rw [hk]; exact List.mem_cons_self)) (by simp [okItem])
  · exact ⟨h1, h2, h3, h4⟩
theorem OkFrame.raise {fr : Frame} (h : OkFrame L fr) (c : List PanicEntry) : OkFrame L (fr.raise c) := by
  unfold Frame.raise
  split <;> exact ⟨h.todo, h.defers, h.round, h.kind⟩
theorem OkFrame.mode {fr : Frame} (h : OkFrame L fr) (m : FrameMode) : OkFrame L { fr with mode := m } := ⟨h.todo, h.defers, h.round, h.kind⟩
theorem OkFrame.to {fr : Frame} (h : OkFrame L fr) (k : List Item) (hk : ∀ i ∈ k, okItem L i = true) : OkFrame L { fr with todo := k } := ⟨hk, h.defers, h.round, h.kind⟩

/-- What an operation may yield. -/
def OkNext (P : Program) (L : List FuncId) : Next → Prop
  | .value _ | .skip => True
  | .enter f _ => ∃ fn c, P.funcs[f]? = some fn ∧ fn.body = some c ∧ okCode L c = true
  | _ => False

theorem enter_ok {f : FuncId} {args : Array Value} (h : ∃ fn c, P.funcs[f]? = some fn ∧ fn.body = some c ∧ okCode L c = true) : OkFrame L (Frame.enter P f args .normal) := by
  obtain ⟨fn, c, h1, h2, h3⟩ := h
  refine ⟨?_, rfl, rfl, rfl⟩
  intro i hi
  simp only [Frame.enter, h1, Option.bind_some, h2, Option.getD_some, List.mem_singleton] at hi
  subst hi
  exact h3

theorem plain_after {fn : FuncId} {es : Array Event} (h : ∀ e ∈ es, Plain e) : ∀ e ∈ seen P fn es ++ #[], Plain e := by
  intro e he
  simp only [Array.append_empty] at he
  exact h e (seen_mem he)

/-! ### an operation's step -/
/-- What is shown of the piece of a step that runs an operation. -/
def Applies (P : Program) (L : List FuncId) (fr : Frame) (mid : List Frame) (w : World) (A : List Frame → World → GStep) : Prop :=
  (∃ fr' mid' w' es, OkStack L fr' mid' ∧ (∀ e ∈ es, Plain e) ∧ w.drawn ≤ w'.drawn ∧ w'.tape = w.tape ∧
    ∀ (t : TapeX) (d : Nat), (∀ k q, w.drawn + k < w'.drawn → t (d + k) q = w.tape (w.drawn + k) q) →
      ∀ cs, A (mid ++ cs) (reT w t d) = .go (G fr' (mid' ++ cs)) (reT w' t (d + (w'.drawn - w.drawn))) es) ∨
  (∃ n, ∀ (t : TapeX) (d : Nat), (∀ k q, k < n → t (d + k) q = w.tape (w.drawn + k) q) → ∀ cs, ∃ o w' es, A (mid ++ cs) (reT w t d) = .ended o w' es)

theorem Applies.of {fr : Frame} {mid : List Frame} {w : World} {A : List Frame → World → GStep} (h : Applies P L fr mid w A) (hA : ∀ w cs, stepG P true (G fr (mid ++ cs)) w = A (mid ++ cs) w) :
    GoesOn P L fr mid w ∨ Ends P fr mid w := by
  rcases h with ⟨fr', mid', w', es, h1, h2, h3, h4, h5⟩ | ⟨n, h⟩
  · exact .inl ⟨fr', mid', w', es, h1, h2, h3, h4, fun t d hk cs => by rw [hA]; exact h5 t d hk cs⟩
  · exact .inr ⟨n, fun t d hk cs => by rw [hA]; exact h t d hk cs⟩

theorem early_ok {fr : Frame} (hL : Closed P L) (g : Nat) (w : World) : (∃ h : Array Obj, ∀ (t : TapeX) (d : Nat) cs, early P fr cs none g (reT w t d) = .go (G fr cs) (reT { w with heap := h } t d)) ∨
    (∀ (t : TapeX) (d : Nat) cs, ∃ o w' es, early P fr cs none g (reT w t d) = .ended o w' es) := by
  have h0 := hL.noInit g
  unfold early
  simp only [h0]
  cases hf : P.follows .staticDataAhead with
  | true => exact .inr fun t d cs => ⟨_, _, _, rfl⟩
  | false =>
    cases hg : w.heap[g]? with
    | none => exact .inr fun t d cs => by simp [reT, hg]
    | some o =>
      cases o with
      | pending c elem => exact .inl ⟨w.heap.setIfInBounds g (.cells c elem), fun t d cs => by simp [reT, hg, G]⟩
      | _ => exact .inr fun t d cs => by simp [reT, hg]

theorem apply_ok (hL : Closed P L) {fr : Frame} {mid : List Frame} {w : World} {s : Sem Next} (hok : OkStack L fr mid) (hs : Tame P (OkNext P L) s) (hc : ∀ a b c d k, fr.todo ≠ .call a b c d :: k) (hx : ∀ a b k, fr.todo ≠ .extern a b :: k) :
    Applies P L fr mid w (fun cs w => stepG.apply P true fr cs none s w) := by
  obtain ⟨R1, R2, R3, R4, R5⟩ := tame_runT s hs w #[] (by simp)
  have hkind : (fr.kind == CallKind.early) = false := by rw [hok.1.kind]; rfl
  cases hr : s.runT P w #[] with
  | mk r es =>
    rw [hr] at R1 R2 R3 R4 R5
    simp only at R1 R2 R3 R4 R5
    cases r with
    | ok n w' =>
      cases n with
      | value v =>
        refine .inl ⟨fr.finish v, mid, w', seen P fr.fn es ++ #[], ⟨hok.1.finish v, hok.2⟩, plain_after R3, R1, R2, fun t d hk cs => ?_⟩
        have e := R5 t d hk
        simp only [stepG.apply, e, reR, hkind, GStep.after, G, if_true, Bool.false_eq_true, if_false]
      | skip =>
        refine .inl ⟨fr.finish undef, mid, w', seen P fr.fn es ++ #[], ⟨hok.1.finish _, hok.2⟩, plain_after R3, R1, R2, fun t d hk cs => ?_⟩
        have e := R5 t d hk
        simp only [stepG.apply, e, reR, hkind, GStep.after, G, if_true, Bool.false_eq_true, if_false]
      | enter f args =>
        refine .inl ⟨Frame.enter P f args .normal, fr :: mid, w', seen P fr.fn es ++ #[], ⟨enter_ok R4, ?_⟩, plain_after R3, R1, R2, fun t d hk cs => ?_⟩
        · intro x hx
          rcases List.mem_cons.1 hx with rfl | hx
          · exact hok.1
          · exact hok.2 x hx
        · have e := R5 t d hk
          simp only [stepG.apply, e, reR, hkind, GStep.after, G, if_true, Bool.false_eq_true, if_false, List.cons_append]
          split
          · rename_i h; exact absurd h (hc _ _ _ _ _)
          · rfl
      | _ => exact absurd R4 (by simp [OkNext])
    | halt x w' =>
      cases x with
      | panic v =>
        refine .inl ⟨fr.raise [{ v, recovered := false }], mid, w', seen P fr.fn es ++ #[], ⟨hok.1.raise _, hok.2⟩, plain_after R3, R1, R2, fun t d hk cs => ?_⟩
        have e := R5 t d hk
        simp only [stepG.apply, e, reR, hkind, GStep.after, G, if_true, Bool.false_eq_true, if_false]
      | unsupported u =>
        by_cases hu : ∃ g, u = .initOrder g
        · obtain ⟨g, rfl⟩ := hu
          have hseen : seen P fr.fn #[] = #[] := by simp [seen]
          rcases early_ok (fr := fr) hL g w' with ⟨h, hE⟩ | hE
          · refine .inl ⟨fr, mid, { w' with heap := h }, #[] ++ #[], hok, by simp, R1, R2, fun t d hk cs => ?_⟩
            have e := R5 t d hk
            simp only [stepG.apply, e, reR, hkind, if_true, Bool.false_eq_true, if_false, hseen]
            rw [hE]
            rfl
          · refine .inr ⟨w'.drawn - w.drawn, fun t d hk cs => ?_⟩
            have e := R5 t d (fun k q hlt => hk k q (by simp only [resW] at hlt; omega))
            simp only [stepG.apply, e, reR, hkind, if_true, Bool.false_eq_true, if_false, hseen]
            obtain ⟨o, w'', es', hh⟩ := hE t (d + (w'.drawn - w.drawn)) (mid ++ cs)
            rw [hh]
            exact ⟨_, _, _, rfl⟩
        · refine .inr ⟨w'.drawn - w.drawn, fun t d hk cs => ?_⟩
          have e := R5 t d (fun k q hlt => hk k q (by simp only [resW] at hlt; omega))
          cases u <;> first | exact absurd ⟨_, rfl⟩ hu | (simp only [stepG.apply, e, reR, hkind, if_true, Bool.false_eq_true, if_false, GStep.after]; exact ⟨_, _, _, rfl⟩)
      | stuck u =>
        refine .inr ⟨w'.drawn - w.drawn, fun t d hk cs => ?_⟩
        have e := R5 t d (fun k q hlt => hk k q (by simp only [resW] at hlt; omega))
        simp only [stepG.apply, e, reR, hkind, if_true, Bool.false_eq_true, if_false, GStep.after]
        exact ⟨_, _, _, rfl⟩
      | _ => exact R4.elim

theorem tk_runtimePanic {α : Type} {K : α → Prop} (e : RuntimeError) : Tame P K (runtimePanic e : Sem α) := by
  unfold runtimePanic
  refine tt_then tt_program fun p => ?_
  cases e with
  | typeAssertion i c a m => exact tt_then (tt_elemOf _) fun _ => tt_then (tt_newVar _ _) fun _ => trivial
  | panicNil => exact tt_then (tt_elemOf _) fun _ => tt_then (tt_newVar _ _) fun _ => trivial
  | _ => exact trivial
theorem tk_ite {α : Type} {K : α → Prop} {c : Prop} [Decidable c] {x y : Sem α} (hx : Tame P K x) (hy : Tame P K y) : Tame P K (if c then x else y) := by
  by_cases h : c
  · rw [if_pos h]; exact hx
  · rw [if_neg h]; exact hy

theorem callFunc_tame (hL : Closed P L) {f : FuncId} (hf : f ∈ L) (args : Array Value) : Tame P (OkNext P L) (callFunc f args) := by
  unfold callFunc
  refine Tame.bind (K := fun p => p = P) (show P = P from rfl) fun p hp => ?_
  subst hp
  rcases hL.fns f hf with ⟨fn, c, h, hn, hb, hc⟩ | ⟨fn, e, h, hn, hb, hx, hfi, he⟩
  · simp only [h, hn, hb, Option.isNone_some, Bool.false_eq_true, if_false]
    exact ⟨fn, c, h, hb, hc⟩
  · simp only [h, hn, hb, Option.isNone_none, Bool.false_eq_true, if_false, if_true, hx, hfi]
    exact Tame.bind (K := fun _ => True) ⟨trivial, trivial⟩ fun _ _ => tt_then (he args) fun _ => trivial

theorem execOp_tame (hL : Closed P L) {ρ : Operand → Value} (hρ : ∀ f, ρ (.func f) = .func (.func f) #[] #[]) {o : Oper} (h : okOper L o = true) : Tame P (OkNext P L) (execOp ρ o) := by
  have hv : ∀ {s : Sem Value}, TT P s → Tame P (OkNext P L) (do pure (.value (← s)) : Sem Next) := fun hs => tt_then hs fun _ => trivial
  have hu : ∀ {s : Sem Unit}, TT P s → Tame P (OkNext P L) (do s; pure .skip : Sem Next) := fun hs => tt_then hs fun _ => trivial
  unfold okOper at h
  unfold execOp
  cases hop : o.op <;> rw [hop] at h <;> dsimp only at h ⊢ <;> try cases h
  case move x => exact trivial
  case assign x => exact trivial
  case pick c a b => exact tt_then (tt_asBool _) fun _ => trivial
  case alloc => exact hv (tt_alloc _ _ _)
  case box => exact hv (tt_box _ _)
  case build => exact hv (tt_build _ _)
  case buildSlice => exact hv (tt_buildSlice _ _ _)
  case load => exact hv (tt_loadAt _ _)
  case store => exact hu (tt_storeAt _ _ _)
  case nilCheck x =>
    split
    · exact tk_runtimePanic _
    · exact tk_runtimePanic _
    · exact tk_runtimePanic _
    · split
      · exact tk_runtimePanic _
      · refine tt_then tt_program fun p => tt_then (tt_nilAhead _ _ _ _) fun r => ?_
        refine tk_ite ?_ ?_
        · exact tt_then (tt_unsupported _) fun _ => trivial
        · exact trivial
      · exact trivial
    · exact trivial
  case binOp => exact hv (tt_bind (tt_eqGuard _ _ _ _ _ _) fun _ => tt_binOp _ _ _ _)
  case unOp => exact hv (tt_unary _ _)
  case convert => exact hv (tt_convert _ _ _)
  case makeInterface => exact hv (tt_makeInterface _ _)
  case slice => exact hv (tt_sliceAt _ _ _ _ _)
  case fieldAddr => exact hv (tt_fieldAt _ _ _)
  case field => exact hv (tt_field _ _ _)
  case indexAddr => exact hv (tt_indexAt _ _ _)
  case index => exact hv (tt_index _ _ _)
  case extract => exact hv (tt_extract _ _)
  case panic => exact hv (tt_ipanic _)
  case call c =>
    cases hc : c.callee <;> simp only [hc] at h <;> try cases h
    case builtin b =>
      obtain ⟨consts, args, hr⟩ : ∃ consts args, resolve ρ c o.type = pure { target := .builtin b c.argTypes o.type consts, args := args } := by
        unfold resolve
        rw [hc]
        exact ⟨_, _, rfl⟩
      rw [hr]
      show Tame P (OkNext P L) (invoke (.builtin b c.argTypes o.type consts) args)
      unfold invoke builtin
      cases b <;> try cases h
      · exact hv (tt_append _ _ _)
      · exact hv (tt_cap _ _ _)
      · exact hv (tt_copy _ _ _)
      · exact hv (tt_len _ _ _)
      · exact hv (tt_min _ _ _)
      · exact hv (tt_unsafeSliceData _ _ _)
      · exact hv (tt_unsafeString _ _ _)
    case value x =>
      cases x <;> simp only at h <;> try cases h
      rename_i f
      have hf : f ∈ L := List.contains_iff_mem.1 h
      unfold resolve
      rw [hc]
      dsimp only
      rw [hρ]
      exact callFunc_tame hL hf _

theorem step_run (hL : Closed P L) {fn : FuncId} {tmps : Array Value} {todo : List Item} {mid : List Frame} (w : World)
    (hok : OkStack L { fn, tmps, todo, defers := [], mode := .run, kind := .normal, roundOf := none } mid) :
    GoesOn P L { fn, tmps, todo, defers := [], mode := .run, kind := .normal, roundOf := none } mid w ∨ Ends P { fn, tmps, todo, defers := [], mode := .run, kind := .normal, roundOf := none } mid w := by
  have hto : ∀ k, (∀ i ∈ k, okItem L i = true) → OkStack L { fn, tmps, todo := k, defers := [], mode := .run, kind := .normal, roundOf := none } mid := fun k hk => ⟨⟨hk, rfl, rfl, rfl⟩, hok.2⟩
  cases todo with
  | nil => exact .inl (goesOn_still (fr' := { fn, tmps, todo := [], defers := [], mode := .returning, kind := .normal, roundOf := none }) (mid' := mid) ⟨⟨by simp, rfl, rfl, rfl⟩, hok.2⟩ fun w cs => by simp [stepG, G, stepG.exec])
  | cons x k =>
    have hx := hok.1.todo x (List.mem_cons_self)
    have hk : ∀ i ∈ k, okItem L i = true := fun i hi => hok.1.todo i (List.mem_cons_of_mem _ hi)
    have hk2 : ∀ y, okItem L y = true → ∀ i ∈ y :: k, okItem L i = true := fun y hy i hi => (List.mem_cons.1 hi).elim (fun e => e ▸ hy) (hk i)
    cases x with
    | inBlock id => exact .inl (goesOn_still (hto k hk) fun w cs => by simp [stepG, G, stepG.exec])
    | inScope c => exact .inl (goesOn_still (hto k hk) fun w cs => by simp [stepG, G, stepG.exec])
    | inLoop c => exact .inl (goesOn_still (hto (.code c :: .inLoop c :: k) (fun i hi => (List.mem_cons.1 hi).elim (fun e => e ▸ hx) (hk2 (.inLoop c) hx i))) fun w cs => by simp [stepG, G, stepG.exec])
    | inRangeFunc l => simp [okItem] at hx
    | endRangeFunc l => simp [okItem] at hx
    | beginRound => simp [okItem] at hx
    | call => simp [okItem] at hx
    | extern => simp [okItem] at hx
    | inRegion ops l =>
      cases l with
      | nil => exact .inl (goesOn_still (hto k hk) fun w cs => by simp [stepG, G, stepG.exec])
      | cons i rest =>
        cases hw : ((ops[i]?).map (Region.wanted · (yielded ops tmps))).getD false with
        | false =>
          refine .inl (goesOn_still (fr' := ({ fn, tmps, todo := .inRegion ops (i :: rest) :: k, defers := [], mode := .run, kind := .normal, roundOf := none } : Frame).finish undef) (mid' := mid) ⟨hok.1.finish _, hok.2⟩ fun w cs => ?_)
          simp [stepG, G, stepG.exec, hw]
        | true =>
          cases ho : ops[i]? with
          | none => rw [ho] at hw; simp at hw
          | some o =>
            have hoo : okOper L o = true := by
              have h1 : ops.all (okOper L) = true := hx
              rw [Array.all_eq_true_iff_forall_mem] at h1
              exact h1 o (Array.mem_of_getElem? ho)
            have hA := apply_ok (w := w) hL hok (execOp_tame hL (ρ := ({ fn, tmps, todo := .inRegion ops (i :: rest) :: k, defers := [], mode := .run, kind := .normal, roundOf := none } : Frame).eval) (fun _ => rfl) hoo) (by intro a b c d k h; cases h) (by intro a b k h; cases h)
            refine hA.of fun w cs => ?_
            have hw' : Region.wanted o (yielded ops tmps) = true := by simpa [ho] using hw
            simp [stepG, G, stepG.exec, hw', stepG.oper, Frame.oper?, ho]
    | code c =>
      cases c with
      | skip => exact .inl (goesOn_still (hto k hk) fun w cs => by simp [stepG, G, stepG.exec])
      | label l => exact .inl (goesOn_still (hto k hk) fun w cs => by simp [stepG, G, stepG.exec])
      | seq a b =>
        simp only [okItem, okCode, Bool.and_eq_true] at hx
        exact .inl (goesOn_still (hto (.code a :: .code b :: k) (fun i hi => (List.mem_cons.1 hi).elim (fun e => e ▸ hx.1) (hk2 (.code b) hx.2 i))) fun w cs => by simp [stepG, G, stepG.exec])
      | cond c a b =>
        simp only [okItem, okCode, Bool.and_eq_true] at hx
        by_cases hb : ∃ t, ({ fn, tmps, todo := .code (.cond c a b) :: k, defers := [], mode := .run, kind := .normal, roundOf := none } : Frame).eval c = .bool t
        · obtain ⟨t, ht⟩ := hb
          refine .inl (goesOn_still (hto (.code (if t then a else b) :: k) (hk2 (.code (if t then a else b)) (by cases t; exact hx.2; exact hx.1))) fun w cs => ?_)
          simp [stepG, G, stepG.exec, ht]
        · refine .inr (ends_still fun w cs => ?_)
          simp only [stepG, G, stepG.exec]
          split
          · rename_i t ht; exact absurd ⟨t, ht⟩ hb
          · exact ⟨_, _, _, rfl⟩
      | block id c => exact .inl (goesOn_still (hto (.code c :: .inBlock id :: k) (fun i hi => (List.mem_cons.1 hi).elim (fun e => e ▸ hx) (hk2 (.inBlock id) rfl i))) fun w cs => by simp [stepG, G, stepG.exec])
      | loop c => exact .inl (goesOn_still (hto (.code c :: .inLoop c :: k) (fun i hi => (List.mem_cons.1 hi).elim (fun e => e ▸ hx) (hk2 (.inLoop c) hx i))) fun w cs => by simp [stepG, G, stepG.exec])
      | scope c => exact .inl (goesOn_still (hto (.code c :: .inScope c :: k) (fun i hi => (List.mem_cons.1 hi).elim (fun e => e ▸ hx) (hk2 (.inScope c) hx i))) fun w cs => by simp [stepG, G, stepG.exec])
      | rangeFunc => simp [okItem, okCode] at hx
      | refuse => exact .inr (ends_still fun w cs => by simp [stepG, G, stepG.exec])
      | ret => exact .inl (goesOn_still (fr' := { fn, tmps, todo := .code .ret :: k, defers := [], mode := .returning, kind := .normal, roundOf := none }) (mid' := mid) ⟨⟨hok.1.todo, rfl, rfl, rfl⟩, hok.2⟩ fun w cs => by simp [stepG, G, stepG.exec])
      | exit id =>
        cases he : exitTo id k with
        | some k' => exact .inl (goesOn_still (hto k' (exitTo_ok hk he)) fun w cs => by simp [stepG, G, stepG.exec, he])
        | none => exact .inr (ends_still fun w cs => by simp [stepG, G, stepG.exec, he])
      | goto l =>
        cases he : gotoIn l k with
        | some k' => exact .inl (goesOn_still (hto k' (gotoIn_ok hk he)) fun w cs => by simp [stepG, G, stepG.exec, he])
        | none => exact .inr (ends_still fun w cs => by simp [stepG, G, stepG.exec, he])
      | region id ops draw =>
        cases draw with
        | false => exact .inl (goesOn_still (hto (.inRegion ops (List.range ops.size) :: k) (hk2 _ hx)) fun w cs => by simp [stepG, G, stepG.exec])
        | true =>
          refine .inl ⟨{ fn, tmps, todo := .inRegion ops (Region.schedule (P.follows .mixedOrders) ops (w.tape w.drawn (.order fn id))) :: k, defers := [], mode := .run, kind := .normal, roundOf := none }, mid, { w with drawn := w.drawn + 1 }, #[], hto _ (hk2 _ hx), by simp, Nat.le_succ _, rfl, fun t d ht cs => ?_⟩
          have h0 := ht 0 (.order fn id) (Nat.lt_succ_self _)
          simp only [Nat.add_zero] at h0
          have e1 : w.drawn + 1 - w.drawn = 1 := by omega
          simp [stepG, G, stepG.exec, choose, Sem.run, Question.forced, Question.cut, reT, h0]

theorem step_ok (hL : Closed P L) {fr : Frame} {mid : List Frame} (w : World) (hok : OkStack L fr mid) : (mid = [] ∧ fr.mode ≠ .run) ∨ GoesOn P L fr mid w ∨ Ends P fr mid w := by
  obtain ⟨fn, tmps, todo, defers, mode, kind, roundOf⟩ := fr
  obtain ⟨⟨h1, h2, h3, h4⟩, hm⟩ := hok
  simp only at h2 h3 h4
  subst h2 h3 h4
  cases mode with
  | run => exact .inr (step_run hL w ⟨⟨h1, rfl, rfl, rfl⟩, hm⟩)
  | panicking chain =>
    cases mid with
    | nil => exact .inl ⟨rfl, by simp⟩
    | cons c rest =>
      refine .inr (.inl (goesOn_still (fr' := c.raise chain) (mid' := rest) ⟨(hm c (List.mem_cons_self)).raise _, fun x hx => hm x (List.mem_cons_of_mem _ hx)⟩ fun w cs => ?_))
      have hca : (({ fn, tmps, todo, defers := [], mode := .panicking chain, kind := .normal, roundOf := none } : Frame).catches P) = false := by
        unfold Frame.catches
        split
        · rename_i a b c' d k _ hk
          exact absurd (h1 _ (by rw [show todo = _ from hk]; exact List.mem_cons_self)) (by simp [okItem])
        · rfl
      simp [stepG, G, unwind, hca]
  | returning =>
    cases mid with
    | nil => exact .inl ⟨rfl, by simp⟩
    | cons c rest =>
      have hc := hm c (List.mem_cons_self)
      have hr : ∀ x ∈ rest, OkFrame L x := fun x hx => hm x (List.mem_cons_of_mem _ hx)
      right
      cases hf : P.funcs[fn]? with
      | none =>
        refine .inl (goesOn_still (fr' := c.finish (tmps.getD 0 undef)) (mid' := rest) ⟨hc.finish _, hr⟩ fun w cs => ?_)
        simp [stepG, G, unwind, hf, doReturn]
      | some f =>
        obtain ⟨R1, R2, R3, R4, R5⟩ := tame_runT (results f tmps) (tt_results (P := P) f tmps) w #[] (by simp)
        cases hrr : (results f tmps).runT P w #[] with
        | mk r es =>
          rw [hrr] at R1 R2 R3 R4 R5
          simp only at R1 R2 R3 R4 R5
          cases r with
          | ok v w' =>
            refine .inl ⟨c.finish v, rest, w', seen P fn es ++ #[], ⟨hc.finish _, hr⟩, plain_after R3, R1, R2, fun t d hk cs => ?_⟩
            have e := R5 t d hk
            simp only [stepG, G, unwind, hf, e, reR, doReturn, GStep.after, List.cons_append]
          | halt x w' =>
            refine .inr ⟨w'.drawn - w.drawn, fun t d hk cs => ?_⟩
            have e := R5 t d (fun k q hlt => hk k q (by simp only [resW] at hlt; omega))
            cases x <;> simp only [stepG, G, unwind, hf, e, reR, GStep.after] <;> exact ⟨_, _, _, rfl⟩
end
end Go.Proofs.YtnmlhjigiemfgaaDoor
