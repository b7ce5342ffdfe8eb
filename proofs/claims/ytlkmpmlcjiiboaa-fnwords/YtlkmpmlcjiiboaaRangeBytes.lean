/- A loop over an iterator that appends to bytes of its own: the law of the loop for that case, and what the loop's body must keep. -/
import Derived.Test.YtlkmpmlcjiiboaaRangeKit
import Derived.Test.YtlkmpmlcjiiboaaWords
import Derived.Lib.AppendStr
namespace Go.Proofs.Ytlkmpmlcjiiboaa
open Go.RowKit Go.Shelf

/-- The iterator's own steps: a walk of its own moved on, or a row of bytes of its own written. -/
def TurnsB (B : Nat) (A : World) (row : Option Nat) : Prop := ∀ r, row = some r → B ≤ r ∧ ∃ o : Obj, A.heap[r]? = some o ∧ (o.isWalk = true ∨ ∃ cs fz, o = .cells cs 5 fz)
def AbidesB {β : Type} (B : Nat) (J : β → World → Prop) : Prop := ∀ s W W' row, J s W → W.grownBy W' row → TurnsB B W row → J s W'
/-- What the caller says of its own memory stands where no cells turn but rows of bytes. -/
def OwnB {β : Type} (B : Nat) (I : β → World → Prop) : Prop :=
  ∀ s W W' row, I s W → W.grownBy W' row → (∀ r, row = some r → B ≤ r ∧ ∃ o : Obj, W.heap[r]? = some o ∧ (o.isCells = false ∨ ∃ cs fz, o = .cells cs 5 fz)) → I s W'
theorem OwnB.from {β : Type} {B : Nat} {I : β → World → Prop} (h : OwnB B I) : OwnFrom B I := fun s W W' row hs hg hr => h s W W' row hs hg (fun r e => let ⟨a, o, b, c⟩ := hr r e; ⟨a, o, b, .inl c⟩)

def SeqStopsB {α : Type} (F : Fence) (n : Nat) (P : Program) (g : Nat) (lb : Array Value) (encs : α → Array Value) (Kp : World → World → Prop) (S Sp : List α → Prop) (N : Nat) (w : World) : Prop :=
  ∀ (l : Nat) (J Jx : List α → World → Prop) (W : World), Below w.heap.size w W → AbidesB W.heap.size J → AbidesB W.heap.size Jx →
    (∀ pre x W1, J pre W1 → pre.length < N → YieldAt F (n - 1) P l (encs x) W1 fun e W' =>
      (e = .returned (.bool true) ∧ J (pre ++ [x]) W' ∧ Kp W1 W') ∨ (e = .returned (.bool false) ∧ Jx (pre ++ [x]) W')) →
    J [] W →
    CallsIn F n P g (#[.func (.yield l) #[] #[]] ++ lb) W fun e W' => (∃ v, e = .returned v) ∧ ((∃ xs, S xs ∧ J xs W') ∨ (∃ pre, Sp pre ∧ Jx pre W'))

/-- A block that is neither a walk nor a row of bytes lies as it lay. -/
theorem turnsB_keeps {B : Nat} {W W' : World} {row : Option Nat} (hg : W.grownBy W' row) (hr : TurnsB B W row) {k : Nat} {o : Obj} (hk : W.heap[k]? = some o) (hw : o.isWalk = false) (hc : o.isCells = false) : W'.heap[k]? = some o := by
  refine (hg.block k (Array.getElem?_eq_some_iff.1 hk).1 (fun e => ?_)).trans hk
  obtain ⟨_, o', ho', h⟩ := hr k e.symm
  rw [hk] at ho'
  cases ho'
  rcases h with h | ⟨cs, fz, rfl⟩
  · rw [h] at hw; cases hw
  · cases hc

variable {F : Fence} {n : Nat} {P : Program}

theorem wpIn_rangeFunc_ownB {α : Type} {g : Operand} {ps : Array Tmp} {assign body : Code} {Q : Exit → Act → World → Prop} {a : Act} {w : World}
    (hro : F.round = none) (h1 : 1 ≤ n) {gf : Nat} {lb : Array Value} (hg : a.eval g = .func (.func gf) #[] lb) (hFg : F.fn gf) (eg : ∀ args w, (callFunc gf args).run P w = .ok (.enter gf args) w)
    {encs : α → Array Value} {Kp : World → World → Prop} {S Sp : List α → Prop} {N : Nat} {w0 : World} (hseq : SeqStopsB F (n - 1) P gf lb encs Kp S Sp N w0)
    (hKt : ∀ {A B C : World}, Kp A B → Kp B C → Kp A C) (hKb : ∀ (W : World) (l : Nat) (o o' : Obj), w.heap.size ≤ l → W.heap[l]? = some o → o.isCells = false → o.isWalk = false → Kp W (W.putObj l o')) (hb0 : Below w0.heap.size w0 w) (hps : ∀ x, (encs x).size = ps.size)
    (I : List α → World → Prop) (hIB : OwnB w.heap.size I) (h0 : I [] w) (a₁ : α → Act)
    (hassign : ∀ (l : Nat) (x : α) (W : World) (K : Act → World → Prop), K (a₁ x) W →
      assign.wpIn (F.inRound l) (n - 1 - 1) P (Exit.then K (fun _ _ _ => False)) { tmps := (ps.zip (encs x)).foldl (fun t (p, v) => t.setIfInBounds p v) a.tmps, defers := [] } W)
    (hbody : ∀ (l : Nat) (pre : List α) (x : α) (W : World), I pre W → pre.length < N → body.wpIn (F.inRound l) (n - 1 - 1) P (ownPostG w.heap.size Kp I (fun _ _ _ => False) (pre ++ [x]) W) (a₁ x) W)
    (hdone : ∀ (D : Nat) (xs : List α) (W : World), w.heap.size ≤ D → S xs → I xs W → W.heap[D]? = some (.deferred (some [])) → Q .normal { a with defers := { target := .collected D, args := #[] } :: a.defers } W) :
    (Code.rangeFunc g ps assign body).wpIn F n P Q a w := by
  have hI := hIB.from
  refine wpIn_rangeFunc ?_
  intro fn hfn
  rw [hro]
  obtain ⟨rec, hrec⟩ : ∃ rec : LoopState → Option Code → Loop, rec = fun st pe => { state := st, pending := pe, fn, tmps := a.tmps, params := ps, assign, body, defers := w.heap.size } := ⟨_, rfl⟩
  obtain ⟨W1, hW1⟩ : ∃ W1, (w.alloc (.deferred (some []))).alloc (.loop (rec .ready none)) = W1 := ⟨_, rfl⟩
  have hL1 : W1.heap[w.heap.size + 1]? = some (.loop (rec .ready none)) := by
    rw [← hW1]; have := World.alloc_heap_new (w.alloc (.deferred (some []))) (.loop (rec .ready none)); rwa [World.size_alloc] at this
  have hK1 : W1.heap[w.heap.size]? = some (.deferred (some [])) := by
    rw [← hW1]; exact (Below.heap_alloc _ _ _ (by simp)).trans (World.alloc_heap_new w _)
  have hsz1 : W1.heap.size = w.heap.size + 2 := by rw [← hW1]; simp
  have hI1 : I [] W1 := by rw [← hW1]; exact hI.alloc _ (hI.alloc _ h0)
  have hb1 : Below w0.heap.size w0 W1 := by
    rw [← hW1]; exact hb0.trans ((((Below.refl _ w).alloc (Nat.le_refl _) _).alloc (by simp) _).mono hb0.size)
  refine ⟨w.heap.size + 1, [{ target := .collected w.heap.size, args := #[] }], W1, { target := .fn (.func gf) lb, args := #[.func (.yield (w.heap.size + 1)) #[] #[]] }, W1, gf,
    #[.func (.yield (w.heap.size + 1)) #[] #[]] ++ lb, W1, ?_, ?_, ?_, ?_, fun _ => h1, ?_⟩
  · rw [← hW1, hrec]; exact run_enterLoop_outer _ _ _ _ _
  · simp only [resolve, hg]
    simp [go_sem]
  · intro f' hf'; simp [Target.leads] at hf'; subst hf'; exact hFg
  · simp [invoke, go_sem, eg]
  · refine (hseq (w.heap.size + 1)
      (fun pre W => I pre W ∧ W.heap[w.heap.size + 1]? = some (.loop (rec .ready none)) ∧ W.heap[w.heap.size]? = some (.deferred (some [])))
      (fun _ _ => False) W1 hb1 ?_ (fun _ _ _ _ hs _ _ => hs) ?_ ⟨hI1, hL1, hK1⟩).mono ?_
    · rintro s A B row ⟨hs, hl, hk⟩ hg' hr
      refine ⟨hIB s A B row hs hg' (fun r e => ?_), turnsB_keeps hg' hr hl rfl rfl, turnsB_keeps hg' hr hk rfl rfl⟩
      obtain ⟨hB, o, ho, h⟩ := hr r e
      refine ⟨by omega, o, ho, ?_⟩
      rcases h with h | h
      · exact .inl (Obj.not_cells_of_walk h)
      · exact .inr h
    · rintro pre x W ⟨hi, hl, hk⟩ hlen
      have hlt : w.heap.size + 1 < W.heap.size := (Array.getElem?_eq_some_iff.1 hl).1
      have hy := run_yield (P := P) (args := encs x) hl (by rw [hrec]; exact hps x)
      rw [hrec] at hy
      refine ⟨fn, _, assign, body, hy, roundIn_of_wpIn hfn (hassign _ x W _ ⟨_, run_beginRound hl (by rw [hrec]), ?_⟩)⟩
      have hl2 : (W.putObj (w.heap.size + 1) (.loop { rec .ready none with state := .busy })).heap[w.heap.size + 1]? = some (.loop { rec .ready none with state := .busy }) := World.putObj_heap_same hlt
      have hk2 : (W.putObj (w.heap.size + 1) (.loop { rec .ready none with state := .busy })).heap[w.heap.size]? = some (.deferred (some [])) := (World.putObj_heap_other (by omega)).trans hk
      have hw2 : Kp W (W.putObj (w.heap.size + 1) (.loop { rec .ready none with state := .busy })) := hKb _ _ _ _ (by omega) hl rfl rfl
      refine wpIn_mono (hbody _ pre x _ (hI.putObj _ hi (by omega) hl rfl) hlen) ?_
      rintro e a3 W3 hp
      cases e with
      | normal =>
        obtain ⟨hk3, hkp3, hi3⟩ := hp
        have hl3 := hk3.same _ _ (by omega) hl2 rfl
        have hr := run_endRound (P := P) none hl3
        rw [hrec] at hr
        exact ⟨_, _, hr, .inl ⟨rfl, ⟨hI.putObj _ hi3 (by omega) hl3 rfl, by rw [hrec]; exact World.putObj_heap_same (Array.getElem?_eq_some_iff.1 hl3).1, (World.putObj_heap_other (by omega)).trans (hk3.same _ _ (Nat.le_refl _) hk2 rfl)⟩, hKt (hKt hw2 hkp3) (hKb _ _ _ _ (by omega) hl3 rfl rfl)⟩⟩
      | ret => exact hp.2.elim
      | exit id => exact hp.2.elim
      | goto t => exact hp.2.elim
      | panic ch => exact hp.elim
      | outgrown => exact hp.elim
    · rintro e W2 ⟨⟨v, rfl⟩, (⟨xs, hS, hi, hl, hk⟩ | ⟨pre, hSp, hf⟩)⟩
      · exact ⟨none, _, by have := run_endLoop (P := P) hl (by rw [hrec]; simp); rw [hrec] at this; exact this, hdone _ xs _ (Nat.le_refl _) hS (hI.putObj _ hi (by omega) hl rfl) ((World.putObj_heap_other (by omega)).trans hk)⟩
      · exact hf.elim

/-- The step of 'append(v, b...)', b a text, by its run; the operation may be guarded, where its guard says yes. -/
theorem wpListIn_append_run {ops : Array Oper} {rest : List Oper} {o : Oper} {a : Act} {Q : Exit → Act → World → Prop} {w : World} (hw : Region.wanted o (yielded ops a.tmps) = true) (sl x : Operand) (t u : TypeId)
    (ho : o.op = .call { callee := .builtin .append, args := #[sl, x], argTypes := #[t, u] }) (v : Value) (b : ByteArray) (hs : a.eval sl = v) (hx : a.eval x = .string b) (v' : Value) (w' : World)
    (hr : (Builtin.append_ #[t, u] o.type #[v, .string b]).run P w = .ok v' w') (h : wpListIn F n P ops Q rest (a.put o.dst v') w') : wpListIn F n P ops Q (o :: rest) a w := by
  refine wpListIn_step fun K hK => ?_
  rw [if_pos hw]
  unfold Oper.wpIn
  refine ⟨?_, ?_⟩
  · simp [Oper.about, ho, resolve, Target.leads, Sem.run_pure]
  · rw [Oper.semAt_plain F _ _ (by rw [ho]; intro c hc'; cases hc')]
    simp [execOp, ho, resolve, invoke, builtin, hs, hx, hr, Result.andThen]
    exact hK _ _ h

/-- 'v[:0]'. -/
def emptied : Value → Value
  | .slice a _ c => .slice a 0 c
  | v => v

theorem strCells_of {b : ByteArray} {x : List UInt8} (hb : b = strOf x) : Lib.strCells b = byteVals x := by
  subst hb; unfold Lib.strCells byteVals; rw [strOf_data]

/-- 'append(v, b...)', b a text: what it yields, and what v[:0] is behind it. -/
theorem append_str {W : World} {B : Nat} {v : Value} {wd x : List UInt8} {b : ByteArray} (h : Bytes W B v wd) (hb : b = strOf x) (hlen : wd.length + x.length ≤ 4000000) (hB : B ≤ W.heap.size) :
    ∃ v' W', (Builtin.append_ #[22, 9] 22 #[v, .string b]).run Try.prog W = .ok v' W' ∧ Bytes W' B v' (wd ++ x) ∧ W.grownBy W' v.ownBlock ∧ Bytes W' B (emptied v) [] := by
  obtain ⟨j0, kj, kz0, kz1, kz2⟩ := info_parts infoB
  have hsz : b.size = x.length := by rw [hb, strOf_size]
  obtain ⟨v', W', hr, ho, hg, hn⟩ := Lib.run_append_own_string (P := Try.prog) W B 22 9 22 5 j0 Try.underlying22 Try.underlying9 kj kz0 kz1 kz2 v wd.length (byteVals wd) h b (by unfold maxLen; omega) (by omega) hB
  refine ⟨v', W', hr, ?_, hg, ?_⟩
  · unfold Bytes
    rw [strCells_of hb, hsz] at ho
    have e : byteVals (wd ++ x) = byteVals wd ++ byteVals x := by simp [byteVals]
    rw [List.length_append, e]
    exact ho
  · rcases h.2 with ⟨rfl, _⟩ | ⟨g, cap, cur, rfl, hbg, hgc, hnc, hcm, hcs, htake⟩
    · exact World.ownsRow_nil _ _ _ _
    · have hcs' : cur.size = cap := by simpa using hcs
      by_cases hroom : wd.length + b.size ≤ cap
      · have hr2 := Lib.run_append_room_string (P := Try.prog) W 22 9 22 5 j0 Try.underlying22 Try.underlying9 kj kz1 g wd.length cap cur hgc b hroom (by omega)
        rw [hr] at hr2
        simp only [Result.ok.injEq] at hr2
        obtain ⟨_, rfl⟩ := hr2
        refine ⟨by simp [byteVals], .inr ⟨g, cap, _, rfl, hbg, setRow_heap W g cur _ 5 _ hgc, Nat.zero_le _, hcm, ?_, by simp [byteVals]⟩⟩
        simp only [List.size_toArray, List.length_append, List.length_take, List.length_drop, Array.length_toList, Lib.strCells_length]
        omega
      · have holds := World.ownsRow.cells h (g := g) rfl
        have hr2 := Lib.run_append_grow_string (P := Try.prog) W 22 9 22 5 j0 (.int .u8 0) Try.underlying22 Try.underlying9 kj kz0 ⟨g, 0, none⟩ wd.length cap (byteVals wd) (by rw [kz1]; simp [byteVals]) holds b (by omega) (by omega) (by rw [kz2]; exact growslice_fits (by omega) (by omega))
        rw [hr] at hr2
        simp only [Result.ok.injEq] at hr2
        obtain ⟨_, rfl⟩ := hr2
        refine ⟨by simp [byteVals], .inr ⟨g, cap, cur, rfl, hbg, ?_, Nat.zero_le _, hcm, hcs, by simp [byteVals]⟩⟩
        rw [heap_alloc_old W.drew _ g (Array.getElem?_eq_some_iff.1 hgc).1]
        exact hgc

/-- What the body of a loop keeps for an iterator with bytes of its own. -/
def KeepsBytes (W W' : World) : Prop := ∀ (k : Nat) (cs : Array Value) (fz : Nat × Nat), W.heap[k]? = some (Obj.cells cs 5 fz) → W'.heap[k]? = some (Obj.cells cs 5 fz)
def KeptB (n₀ : Nat) (W W' : World) : Prop := Below n₀ W W' ∧ KeepsWalks W W' ∧ KeepsBytes W W'
theorem keptB_t {n₀ : Nat} {A B C : World} (h : KeptB n₀ A B) (k : KeptB n₀ B C) : KeptB n₀ A C := ⟨h.1.trans k.1, h.2.1.trans k.2.1, fun i cs fz hi => k.2.2 i cs fz (h.2.2 i cs fz hi)⟩
theorem keptB_b {n₀ : Nat} {w : World} (hn : n₀ ≤ w.heap.size) (W : World) (l : Nat) (o o' : Obj) (hl : w.heap.size ≤ l) (h : W.heap[l]? = some o) (hc : o.isCells = false) (hw : o.isWalk = false) : KeptB n₀ W (W.putObj l o') :=
  ⟨belowK_b hn W l o o' hl h hc hw, walksK_b (w := w) W l o o' hl h hc hw, fun k cs fz hk => (World.putObj_heap_other (fun e => by subst e; rw [h] at hk; cases hk; cases hc)).trans hk⟩
theorem Bytes.keptB {n₀ : Nat} {W W' : World} (h : KeptB n₀ W W') {B : Nat} {v : Value} {l : List UInt8} (hb : Bytes W B v l) : Bytes W' B v l := by
  refine ⟨hb.1, ?_⟩
  rcases hb.2 with hn | ⟨g, cap, cur, hv, hbg, hg, rest⟩
  · exact .inl hn
  · exact .inr ⟨g, cap, cur, hv, hbg, h.2.2 g cur _ hg, rest⟩
end Go.Proofs.Ytlkmpmlcjiiboaa
