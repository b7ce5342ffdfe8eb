/- One goroutine sends over a channel with a buffer and closes it, goroutine 0 receives till it is closed, beside goroutines that only leave: on whatever tape goroutine 0 comes through. -/
import Derived.Test.YtnmlhjigiemfgaaDoorLiveTrace
import Derived.Conc.CrowdComm
import Derived.Conc.Script
import Derived.Conc.PipeGen
namespace Go.Proofs.YtnmlhjigiemfgaaDoor
open Go Go.Conc
open Go.ConcN (sumTo upd sumTo_upd upd_ne upd_same)

/-- The sender's own steps hand the world back as it came, but for what they draw. -/
def DBX (Mine : Loc → Prop) (w w' : World) (es : Array Event) : Prop := (∃ d, w' = w.at d) ∧ ∀ e ∈ es, EvB Mine e

section
variable (P : Program) (c : Nat) (S : World → Prop) (Mine : Loc → Prop)

/-- AT THE CLOSE of a channel of whatever capacity, whatever it holds. -/
def AtShutX (g : Goroutine) : Prop :=
  g.status = .running ∧ mayWake P g = true ∧ ∃ (g₂ : Goroutine) (es : Array Event) (n : Nat),
    (∀ w cap buf s r tm, S w → w.heap[c]? = some (.chan cap buf false s r tm) → stepG P false g w = .go g₂ (w.setChan c cap buf true s r tm) (es.push ⟨.obj c, true, true⟩)) ∧ (∀ e ∈ es, EvB Mine e) ∧ QuitsIn P n g₂
/-- THE SENDER's SCRIPT. -/
def SendsX : List Value → Goroutine → Prop
  | [], g => ∃ n, Goes P false (fun _ w₁ => S w₁) (DBX Mine) (fun g₁ _ => AtShutX P c S Mine g₁) n g default
  | v :: vs, g => ∃ n, Goes P false (fun _ w₁ => S w₁) (DBX Mine) (fun g₁ _ => AtSend P c S Mine v (SendsX vs) g₁) n g default
def StopBX : List Value → Goroutine → World → Prop
  | [] => fun g₁ _ => AtShutX P c S Mine g₁
  | v :: vs => fun g₁ _ => AtSend P c S Mine v (SendsX P c S Mine vs) g₁
theorem sendsX_iff (vs : List Value) (g : Goroutine) : SendsX P c S Mine vs g ↔ ∃ n, Goes P false (fun _ w₁ => S w₁) (DBX Mine) (StopBX P c S Mine vs) n g default := by
  cases vs <;> exact Iff.rfl
def NextA (z : Value) (Fin : Goroutine → World → Prop) : List Value → Goroutine → World → Prop
  | [] => fun g₂ w₂ => Fin (Conc.served g₂ (.tuple #[z, .bool false])) w₂
  | v :: vs => fun g₂ w₂ => Recvs P c S Mine z Fin vs (Conc.served g₂ (.tuple #[v, .bool true])) w₂
theorem stopA_eq (z : Value) (Fin : Goroutine → World → Prop) (vs : List Value) : StopA P c S Mine z Fin vs = AtRecv P c Mine z (NextA P c S Mine z Fin vs) := by
  cases vs <;> rfl

inductive ChildAt (cap len : Nat) (closed : Bool) : List Value → Nat → Goroutine → Prop
  | run {vs : List Value} {n : Nat} {b : Goroutine} (hc : closed = false) (h : Goes P false (fun _ w₁ => S w₁) (DBX Mine) (StopBX P c S Mine vs) n b default) (hr : b.status = .running) : ChildAt cap len closed vs (n + 1) b
  | park {v : Value} {vs : List Value} {b : Goroutine} {z : Value} (hc : closed = false) (hl : len = cap) (h : SendsX P c S Mine vs (Conc.served b undef)) : ChildAt cap len closed (v :: vs) 0 (parked b #[scase c v z] .send)
  | gone {n : Nat} {b : Goroutine} (hc : closed = true) (h : QuitsIn P n b) : ChildAt cap len closed [] n b
inductive MainAt (z : Value) (Fin : Goroutine → World → Prop) (len : Nat) (closed : Bool) (vs : List Value) (w : World) : Nat → Goroutine → Prop
  | run {n : Nat} {a : Goroutine} (hr : a.status = .running) (h : Goes P true (Aside c) (DA c S Mine) (StopA P c S Mine z Fin vs) n a w) : MainAt z Fin len closed vs w (n + 1) a
  | park {a : Goroutine} (hc : closed = false) (hl : len = 0) (h : ∀ w₁, Aside c w w₁ → StopA P c S Mine z Fin vs a w₁) : MainAt z Fin len closed vs w 0 (parked (core a) #[rcase c z] (.recv true))
end

section
variable {P : Program} {c : Nat} {S : World → Prop} {Mine : Loc → Prop} {z : Value} {Fin : Goroutine → World → Prop}

theorem aside_setChan (w : World) (c cap : Nat) (buf : Array Value) (cl : Bool) (s r : Nat) (tm : Bool) : Aside c w (w.setChan c cap buf cl s r tm) := Aside.put c w _
theorem aside_at_setChan (w : World) (d c cap : Nat) (buf : Array Value) (cl : Bool) (s r : Nat) (tm : Bool) : Aside c w ((w.at d).setChan c cap buf cl s r tm) := (Aside.at c w d).trans (aside_setChan _ ..)
theorem chan_setChan {w : World} {c cap : Nat} {buf : Array Value} {cl : Bool} {s r : Nat} {tm : Bool} {o : Obj} (h : w.heap[c]? = some o) : (w.setChan c cap buf cl s r tm).heap[c]? = some (.chan cap buf cl s r tm) := heap_put h

theorem MainAt.aside {len : Nat} {closed : Bool} {vs : List Value} {w w₁ : World} {m : Nat} {a : Goroutine} (h : MainAt P c S Mine z Fin len closed vs w m a) (ha : Aside c w w₁) : MainAt P c S Mine z Fin len closed vs w₁ m a := by
  cases h with
  | run hr h => exact .run hr (Goes.rely (R := Aside c) (fun _ _ _ h1 h2 => h1.trans h2) h ha)
  | park hc hl h => exact .park hc hl fun w₂ h₂ => h w₂ (ha.trans h₂)
theorem MainAt.runs {len closed vs w m a} (h : MainAt P c S Mine z Fin len closed vs w m a) : a.status = .running ∨ a.status = .blocked := by
  cases h with
  | run hr _ => exact .inl hr
  | park _ _ _ => exact .inr rfl
theorem ChildAt.runs {cap len closed vs m b} (h : ChildAt P c S Mine cap len closed vs m b) : b.status = .running ∨ b.status = .blocked ∨ b.status = .finished := by
  cases h with
  | run _ _ hr => exact .inl hr
  | park _ _ _ => exact .inr (.inl rfl)
  | gone _ h => exact h.status.elim .inl fun x => .inr (.inr x)

/-- Whoever steps, the parked ones stay so while the channel is open. -/
theorem MainAt.woken {len closed vs w m a} (h : MainAt P c S Mine z Fin len closed vs w m a) (g g' : Goroutine) {w' : World} {cap : Nat} {buf : Array Value} {s r : Nat} {tm : Bool} (hc : w'.heap[c]? = some (.chan cap buf closed s r tm)) : Go.Conc.woken P g g' w' a = a := by
  cases h with
  | run hr _ => exact woken_run hr
  | park hcl _ _ => subst hcl; exact woken_recv_open g g' hc
theorem ChildAt.woken {cap len closed vs m b} (h : ChildAt P c S Mine cap len closed vs m b) (g g' : Goroutine) {w' : World} {cap' : Nat} {buf : Array Value} {s r : Nat} {tm : Bool} (hc : w'.heap[c]? = some (.chan cap' buf closed s r tm)) : Go.Conc.woken P g g' w' b = b := by
  cases h with
  | run _ _ hr => exact woken_run hr
  | park hcl _ _ => subst hcl; exact woken_send_open g g' hc
  | gone _ h => exact woken_quitsD (QuitsD.of_quitsIn h)

/-- A RECEIVE TAKES FROM A FULL BUFFER, AT WHICH A SENDER IS PARKED: its value comes in. -/
theorem crowd_recv_shift {gs : Array Goroutine} {w w₁ : World} {sl : Option (Nat × Nat)} {i j : Nat} {g g₂ gj : Goroutine} {es : Array Event} {cap s r : Nat} {buf : Array Value} {closed tm : Bool} {v zj : Value}
    (hi : gs[i]? = some g) (h : stepG P (i == 0) g w = .comm g₂ #[rcase c z] true (.recv true) w₁ es) (hc : w₁.heap[c]? = some (.chan cap buf closed s r tm)) (hsome : 0 < buf.size)
    (hij : j ≠ i) (hj : gs[j]? = some (parked gj #[scase c v zj] .send)) (hp : partners (gs.setIfInBounds i ph) c true = [(j, 0)]) :
    runT P (crowd gs w sl) i = (.next (crowd ((gs.setIfInBounds j (Conc.served gj undef)).setIfInBounds i (Conc.served g₂ (.tuple #[buf.getD 0 undef, .bool true]))) (w₁.setChan c cap ((buf.extract 1 buf.size).push v) closed (s + 1) (r + 1) tm) sl),
      MemOp.ofEvents i g.frame.fn g.frame.place es ++ #[{ g := i, fn := g₂.frame.fn, pos := g₂.frame.place, act := .recv c r cap }, { g := i, fn := g₂.frame.fn, pos := g₂.frame.place, act := .recvDone c r },
        { g := j, fn := gj.frame.fn, pos := gj.frame.place, act := .send c s }, { g := j, fn := gj.frame.fn, pos := gj.frame.place, act := .sendDone c s }]) := by
  rw [runT_crowd_comm hi h]
  have hj' := stand_get (i := i) hij hj
  have hfp := finishPartner_at P (gs.setIfInBounds i ph) hj' (cs := #[scase c v zj]) (sh := .send) rfl 0 undef
  have hgd : (gs.setIfInBounds i ph).getD j default = parked gj #[scase c v zj] .send := by rw [Array.getD_eq_getD_getElem?, hj']; rfl
  have hov : offeredValue (gs.setIfInBounds i ph) j 0 = v := by simp [offeredValue, hj', parked, scase]
  simp [communicate, ways, rcase, hc, hp, hsome, choose, Sem.run, Question.forced, bind, Sem.bind, pure, World.setChan, crowd, hfp, hgd, hov, set_stand2, finishComm_parked, scase, parked]
  rfl

/-! ### the invariant, and one step -/
structure Live (P : Program) (c : Nat) (S : World → Prop) (Mine : Loc → Prop) (z : Value) (Fin : Goroutine → World → Prop) (j cap : Nat) (K M : Nat) (gs : Array Goroutine) (w : World) (T : Trace) : Prop where
  ex : ∃ (a b : Goroutine) (q : Nat → Nat) (bs vs : List Value) (closed : Bool) (s r ma mb : Nat),
    gs[0]? = some a ∧ gs[j]? = some b ∧ (∀ i g, 0 < i → i ≠ j → gs[i]? = some g → QuitsD P (q i) (Deaf T i) g) ∧ (∀ i, gs.size ≤ i → Deaf T i = 0) ∧
    w.heap[c]? = some (.chan cap bs.toArray closed s r false) ∧ S w ∧ bs.length ≤ cap ∧
    MainAt P c S Mine z Fin bs.length closed (bs ++ vs) w ma a ∧ ChildAt P c S Mine cap bs.length closed vs mb b ∧ LT j c Mine T closed ∧
    K = 2 * vs.length + bs.length + (if closed then 0 else 1) ∧ M = ma + mb + sumTo gs.size q

theorem deaf_ofEvents_other (T : Trace) {g g' : Nat} (h : g' ≠ g) (fn : FuncId) (pos : String) (es : Array Event) : Deaf (T ++ MemOp.ofEvents g' fn pos es) g = Deaf T g :=
  Deaf_other T h _ (fun op hop => by obtain ⟨e, _, rfl⟩ := Go.Conc.mem_ofEvents hop; rfl)
theorem deaf_still_own (T : Trace) (g : Nat) (fn : FuncId) (pos : String) {es : Array Event} (h : ∀ e ∈ es, ∀ m, e.loc = .mark m → Neutral m) : Deaf (T ++ MemOp.ofEvents g fn pos es) g = Deaf T g := by
  rw [Deaf_own]
  exact deafBehind_still (fun e he => ⟨fun x => Neutral.ne_disable (h e he _ x) rfl, fun x => by have := h e he _ x; cases this⟩) _
theorem deaf_comm (T : Trace) (g : Nat) (u : Trace) (h : ∀ op ∈ u, ∀ m, op.act ≠ .mark m) : Deaf (T ++ u) g = Deaf T g := by
  have key : ∀ (l : List MemOp), (∀ op ∈ l, ∀ m, op.act ≠ .mark m) → ∀ d, l.foldl (deafStep g) d = d := by
    intro l
    induction l with
    | nil => exact fun _ _ => rfl
    | cons y l ih =>
      intro hl d
      have hy := hl y (List.mem_cons_self)
      have : deafStep g d y = d := by
        obtain ⟨yg, yf, yp, ya⟩ := y
        cases ya <;> first | rfl | exact absurd rfl (hy _)
      rw [List.foldl_cons, this]
      exact ih (fun op hop => hl op (List.mem_cons_of_mem _ hop)) d
  have e : T ++ u = T ++ u.toList.toArray := by simp
  rw [e, Deaf_append]
  exact key _ (fun op hop => h op (Array.mem_toList_iff.1 hop)) _

theorem LT.mainEv {j : Nat} {T : Trace} {closed : Bool} (hj0 : j ≠ 0) (h : LT j c Mine T closed) {fn : FuncId} {pos : String} {es : Array Event} (he : ∀ e ∈ es, EvA Mine e) : LT j c Mine (T ++ MemOp.ofEvents 0 fn pos es) closed := by
  refine h.main hj0 (fun op hop => by obtain ⟨e, _, rfl⟩ := Go.Conc.mem_ofEvents hop; rfl) (fun op hop b hb _ hw => ?_) (deaf_still_own T 0 fn pos fun e hee => (he e hee).1)
  obtain ⟨e, hee, rfl⟩ := Go.Conc.mem_ofEvents hop
  obtain ⟨h1, h2⟩ := ofEvent_touch (he e hee).1 hb
  rw [h1]
  exact (he e hee).2 (h2 ▸ hw)
theorem LT.childEv {j : Nat} {T : Trace} (hj0 : j ≠ 0) (h : LT j c Mine T false) {fn : FuncId} {pos : String} {es : Array Event} (he : ∀ e ∈ es, EvB Mine e) : LT j c Mine (T ++ MemOp.ofEvents j fn pos es) false := by
  refine h.child hj0 (fun op hop => by obtain ⟨e, _, rfl⟩ := Go.Conc.mem_ofEvents hop; rfl) (fun op hop b hb => ?_) (deaf_still_own T j fn pos fun e hee => (he e hee).1)
  obtain ⟨e, hee, rfl⟩ := Go.Conc.mem_ofEvents hop
  obtain ⟨h1, h2⟩ := ofEvent_touch (he e hee).1 hb
  exact ⟨h2.trans (he e hee).2.1, by rw [h1]; exact (he e hee).2.2⟩
/-- What a communication lists. -/
theorem LT.comm {j : Nat} {T : Trace} {closed : Bool} (h : LT j c Mine T closed) {u : Trace} (hu : ∀ op ∈ u, op.act.touch? = none ∧ ∀ m, op.act ≠ .mark m) : LT j c Mine (T ++ u) closed :=
  h.mute (fun op hop => (hu op hop).1) (deaf_comm T 0 u fun op hop => (hu op hop).2) (deaf_comm T j u fun op hop => (hu op hop).2)
/-- A leaver's. -/
theorem LT.leaver {j i : Nat} {T : Trace} {closed : Bool} (hi0 : i ≠ 0) (hij : i ≠ j) (h : LT j c Mine T closed) {fn : FuncId} {pos : String} {es : Array Event} (hm : ∀ e ∈ es, Event.mute e = true) : LT j c Mine (T ++ MemOp.ofEvents i fn pos es) closed :=
  h.mute (fun op hop => by obtain ⟨e, he, rfl⟩ := Go.Conc.mem_ofEvents hop; exact touch_mute (hm e he)) (deaf_ofEvents_other T hi0 fn pos es) (deaf_ofEvents_other T hij fn pos es)
theorem LT.leaver' {j : Nat} {T : Trace} {closed : Bool} (hj0 : j ≠ 0) (h : LT j c Mine T closed) {fn : FuncId} {pos : String} : LT j c Mine (T ++ MemOp.ofEvents j fn pos #[]) closed := by
  have : MemOp.ofEvents j fn pos #[] = #[] := rfl
  rw [this, Array.append_empty]
  exact h

theorem atRecv_retry {Next : Goroutine → World → Prop} {a a' : Goroutine} {w : World} (h1 : a'.frame = a.frame) (h2 : a'.callers = a.callers) (h3 : a'.dying = a.dying) (hr : a'.status = .running) (h : AtRecv P c Mine z Next a w) : AtRecv P c Mine z Next a' w := by
  obtain ⟨_, es, hs, he, hn⟩ := h
  have hcore : core a' = core a := by
    obtain ⟨f, cs, st, d, o⟩ := a
    obtain ⟨f', cs', st', d', o'⟩ := a'
    simp only at h1 h2 h3
    subst h1 h2 h3
    rfl
  refine ⟨hr, es, ?_, he, ?_⟩
  · rw [stepG_same h1 h2 h3, hs, hcore]
  · rw [hcore]; exact hn
end
end Go.Proofs.YtnmlhjigiemfgaaDoor
