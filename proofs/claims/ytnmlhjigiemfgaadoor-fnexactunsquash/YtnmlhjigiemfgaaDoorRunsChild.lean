/- The goroutine that sends a text's bytes into a channel, and closes it. -/
import Derived.Test.YtnmlhjigiemfgaaDoorLivePipe
import Derived.Test.YtnmlhjigiemfgaaDoorDropAt
import Derived.Test.YtnmlhjigiemfgaaDoorByteRow
import Derived.Conc.PipeWords
import Derived.Conc.DeferLaws
import Derived.Conc.CompanyDraw
import Derived.KernelRfl
namespace Go.Proofs.YtnmlhjigiemfgaaDoor
open Go Go.Conc Go.RowKit

theorem dbx {Mine : Loc → Prop} {w : World} {es : Array Event} (h : ∀ e ∈ es, EvB Mine e) : DBX Mine w w es := ⟨⟨w.drawn, rfl⟩, h⟩

/-- What is goroutine 0's own while the bytes come: the block N of the run, and all that is made behind the four. -/
def MineR (N : Nat) : Loc → Prop := fun l => ∃ a, l = .cell a ∧ (a.block = N ∨ N + 4 ≤ a.block)
/-- WHAT THE SENDER READS. -/
structure ShR (N : Nat) (s : ByteArray) (w : World) : Prop where
  sb : w.heap[N + 1]? = some (.cells #[.string s] 9 (0, 0))
  cb : w.heap[N + 3]? = some (.cells #[.chan (some (N + 2))] 54 (0, 0))
theorem ShR.sv {N : Nat} {s : ByteArray} {w : World} (h : ShR N s w) : w.cell? ⟨N + 1, 0, none⟩ = some (.string s) := by simp [World.cell?, h.sb]
theorem ShR.ch {N : Nat} {s : ByteArray} {w : World} (h : ShR N s w) : w.cell? ⟨N + 3, 0, none⟩ = some (.chan (some (N + 2))) := by simp [World.cell?, h.cb]
theorem evB_cellR {N : Nat} (a : Addr) (s : Bool) (h : a.block = N + 1 ∨ a.block = N + 3) : EvB (MineR N) ⟨.cell a, false, s⟩ :=
  ⟨fun m => by simp, rfl, fun ⟨a', e, h'⟩ => by cases e; omega⟩

noncomputable def b25 : Frame := { (default : Frame) with fn := 38, kind := .deferred }
noncomputable def body25 : Code := Tryd.f38.body.getD .skip
noncomputable def L25 : Code := match body25 with | .seq _ (.seq _ (.block _ (.loop c))) => c | _ => .skip
noncomputable def ops25a : Array Oper := match body25 with | .seq (.region _ ops _) _ => ops | _ => #[]
noncomputable def tail25 : Code := match body25 with | .seq _ r => r | _ => .skip
noncomputable def R25 : Code := match L25 with | .seq _ (.seq _ (.seq _ r)) => r | _ => .skip
noncomputable def ops25 : Array Oper := match L25 with | .seq _ (.seq _ (.seq (.block _ (.seq _ (.region _ ops _))) _)) => ops | _ => #[]
/-- The child's bottom frame. -/
noncomputable def bot : Frame := { (default : Frame) with fn := Tryd.prog.funcs.size, defers := [], mode := .panicking [goexitEntry] }
def dClose (N : Nat) : Deferred := { target := .builtin .close #[54] 0 #[false], args := #[.chan (some (N + 2))] }
/-- The bytes of a text. -/
def sentV (l : List UInt8) : List Value := l.map fun b => .int .u8 (b.toNat : Int)

theorem stepG_deferB {P : Program} {main : Bool} {b : Frame} {a : Act} {k : List Item} {cs : List Frame} {w w' : World} {ops : Array Oper} {i : Nat} {rest : List Nat} {o : Oper} {d : Deferred} (ho : ops[i]? = some o) (hw : Region.wanted o (yielded ops a.tmps) = true)
    (hk : b.kind ≠ .early) (hr : (execOp a.eval o).run P w = .ok (.defer d) w') :
    stepG P main (G (b.at a (.inRegion ops (i :: rest) :: k)) cs) w = .go (G (b.at (({ a with defers := d :: a.defers } : Act).put o.dst undef) (.inRegion ops rest :: k)) cs) w' (listed P b.fn a o w) := by
  have hk' : (b.kind == CallKind.early) = false := by simpa using hk
  have hfin : ({ b.at a (.inRegion ops (i :: rest) :: k) with defers := d :: a.defers } : Frame).finish undef = b.at (({ a with defers := d :: a.defers } : Act).put o.dst undef) (.inRegion ops rest :: k) := by
    have h0 : ({ b.at a (.inRegion ops (i :: rest) :: k) with defers := d :: a.defers } : Frame) = b.at { a with defers := d :: a.defers } (.inRegion ops (i :: rest) :: k) := rfl
    rw [h0, Frame.finish_at, ho]
    rfl
  rw [stepG_oper ho hw, ← hfin]
  simp [stepG.apply, hr, G, Frame.at, hk', GStep.after, listed]

/-- The orders that a region may come in. -/
def allOrd (md : Region.Mode) (ops : Array Oper) : Nat → Array Bool → List (List Nat)
  | 0, _ => [[]]
  | fuel + 1, l => match Region.ready md ops l with
    | [] => [[]]
    | i :: r => (i :: r).flatMap fun j => (allOrd md ops fuel (l.setIfInBounds j true)).map (j :: ·)
theorem linearise_in (md : Region.Mode) (ops : Array Oper) : ∀ (fuel t : Nat) (l : Array Bool), Region.linearise.go md ops fuel t l [] ∈ allOrd md ops fuel l := by
  intro fuel
  induction fuel with
  | zero => intro t l; simp [Region.linearise.go, allOrd]
  | succ fuel ih =>
    intro t l
    simp only [Region.linearise.go, allOrd]
    change (match (Region.ready md ops l)[t % (Region.ready md ops l).length]? with
      | some i => Region.linearise.go md ops fuel (t / (Region.ready md ops l).length) (l.setIfInBounds i true) [i]
      | none => [].reverse) ∈ _
    cases hr : Region.ready md ops l with
    | nil => simp
    | cons x xs =>
      cases hi : (x :: xs)[t % (x :: xs).length]? with
      | none =>
        have hlt : t % (x :: xs).length < (x :: xs).length := Nat.mod_lt _ (by simp)
        simp only [List.getElem?_eq_none_iff] at hi
        omega
      | some i =>
        simp only [List.mem_flatMap]
        refine ⟨i, List.mem_of_getElem? hi, ?_⟩
        rw [linearise_go_acc, List.reverse_singleton, List.singleton_append]
        exact List.mem_map_of_mem (ih _ _)
theorem orders25 : allOrd .any ops25 5 (Array.replicate 5 false) = [[0, 1, 2, 3, 4], [0, 2, 1, 3, 4], [1, 0, 2, 3, 4], [1, 2, 0, 3, 4], [1, 2, 3, 0, 4], [2, 0, 1, 3, 4], [2, 1, 0, 3, 4], [2, 1, 3, 0, 4]] := by kernel_rfl
theorem follows25 : Tryd.prog.follows .mixedOrders = true := by kernel_rfl
theorem schedule25 (t : Nat) : Region.schedule true ops25 t ∈ [[0, 1, 2, 3, 4], [0, 2, 1, 3, 4], [1, 0, 2, 3, 4], [1, 2, 0, 3, 4], [1, 2, 3, 0, 4], [2, 0, 1, 3, 4], [2, 1, 0, 3, 4], [2, 1, 3, 0, 4]] := by
  rw [← orders25]
  have : Region.schedule true ops25 t = Region.linearise.go .any ops25 5 t (Array.replicate 5 false) [] := by
    simp only [Region.schedule, Bool.true_or, if_true]
    rfl
  rw [this]
  exact linearise_in _ _ _ _ _

section
variable (N : Nat) (s : ByteArray)

/-- The loop's head, 'k' bytes sent. -/
noncomputable def headR (k : Nat) (u2 u3 u7 u8 u9 u10 u11 u12 u13 : Value) : Goroutine :=
  G (b25.at ⟨#[.pointer (some ⟨N + 3, 0, none⟩), .pointer (some ⟨N + 1, 0, none⟩), u2, u3, .string s, .int .i64 s.size, .int .i64 k, u7, u8, u9, u10, u11, u12, u13], [dClose N]⟩ [.code L25, .inLoop L25, .inBlock 0]) [bot]
/-- At the send of byte 'k'. -/
noncomputable def atSendR (k : Nat) (u2 u3 u7 u8 u10 u11 u13 : Value) (b : UInt8) (rest : List Nat) : Goroutine :=
  G (b25.at ⟨#[.pointer (some ⟨N + 3, 0, none⟩), .pointer (some ⟨N + 1, 0, none⟩), u2, u3, .string s, .int .i64 s.size, .int .i64 k, u7, u8, .chan (some (N + 2)), u10, u11, .int .u8 (b.toNat : Int), u13], [dClose N]⟩ [.inRegion ops25 rest, .inBlock 1, .code R25, .inLoop L25, .inBlock 0]) [bot]
/-- Ahead of the region that draws. -/
noncomputable def atDrawR (k : Nat) (u3 u7 u8 u9 u10 u11 u12 u13 : Value) (i : Item) : Goroutine :=
  G (b25.at ⟨#[.pointer (some ⟨N + 3, 0, none⟩), .pointer (some ⟨N + 1, 0, none⟩), .int .i64 k, u3, .string s, .int .i64 s.size, .int .i64 k, u7, u8, u9, u10, u11, u12, u13], [dClose N]⟩ [i, .inBlock 1, .code R25, .inLoop L25, .inBlock 0]) [bot]
/-- On its way out, the close ahead. -/
noncomputable def atShutR (u2 u3 u4 u5 u6 u7 u8 u9 u10 u11 u12 u13 : Value) (ds : List Deferred) : Goroutine :=
  G { b25.at ⟨#[.pointer (some ⟨N + 3, 0, none⟩), .pointer (some ⟨N + 1, 0, none⟩), u2, u3, u4, u5, u6, u7, u8, u9, u10, u11, u12, u13], ds⟩ [] with mode := .returning } [bot]

theorem events_len_string (s : ByteArray) (t : TypeId) (w : World) (es : Array Event) : (Builtin.len_ #[9] t #[.string s]).events Tryd.prog w es = es := by
  simp [Builtin.len_, Tryd.underlying9, go_sem, goInt]
theorem events_index_string (s : ByteArray) (k : Nat) (hk : k < s.size) (w : World) (es : Array Event) : (Instr.index 9 (.string s) (.int .i64 (k : Int))).events Tryd.prog w es = es := by
  simp [Instr.index, asIntOf, Tryd.underlying9, go_sem, hk]
set_option maxRecDepth 100000 in
theorem seg_draw (Stop : Goroutine → World → Prop) (n₀ k : Nat) (hk : k < s.size) (u2 u3 u7 u8 u9 u10 u11 u12 u13 : Value) (w : World)
    (next : ∀ (u3 u7 u8 u9 u10 u11 u12 u13 : Value) w', Goes Tryd.prog false (fun _ w₁ => ShR N s w₁) (DBX (MineR N)) Stop n₀ (atDrawR N s k u3 u7 u8 u9 u10 u11 u12 u13 (.code (.region 4 ops25 true))) w') : Goes Tryd.prog false (fun _ w₁ => ShR N s w₁) (DBX (MineR N)) Stop (n₀ + 14) (headR N s k u2 u3 u7 u8 u9 u10 u11 u12 u13) w := by
  simp only [headR, atDrawR, ops25, R25, L25, body25, Tryd.f38, Option.getD_some] at next ⊢
  repeat (first | (refine Goes.step rfl (fun _ _ => ?_); own_rw; refine ⟨dbx (by simp), ?_⟩) | (refine Goes.step rfl (fun w₁ h₁ => ?_); refine goes_oper_k rfl rfl (by decide) (fun K hK => ?_); have hx := ShR.sv h₁; have hch := ShR.ch h₁; go_simp; refine hK _ _ ⟨dbx (fun e he => ?_), ?_⟩; (have hm := mem_listed he; simp [go_sem, *] at hm; try (subst hm; exact evB_cellR _ _ (by first | exact .inl rfl | exact .inr rfl))); clear hK K hx hch h₁))
  refine Goes.step rfl (fun _ _ => ?_)
  rw [stepG_cond (t := true) rfl]
  simp only [goes_go, if_true, if_false, Bool.false_eq_true, ↓reduceIte]
  refine ⟨dbx (by simp), ?_⟩
  repeat (first | (refine Goes.step rfl (fun _ _ => ?_); own_rw; refine ⟨dbx (by simp), ?_⟩) | (refine Goes.step rfl (fun w₁ h₁ => ?_); refine goes_oper_k rfl rfl (by decide) (fun K hK => ?_); have hx := ShR.sv h₁; have hch := ShR.ch h₁; go_simp; refine hK _ _ ⟨dbx (fun e he => ?_), ?_⟩; (have hm := mem_listed he; simp [go_sem, *] at hm; try (subst hm; exact evB_cellR _ _ (by first | exact .inl rfl | exact .inr rfl))); clear hK K hx hch h₁))
  exact next ..

/-- One of the orders is gone through. -/
theorem seg_order (Stop : Goroutine → World → Prop) (n₀ k : Nat) (hk : k < s.size) (u3 u7 u8 u9 u10 u11 u12 u13 : Value) (w : World) (l : List Nat) (hl : l ∈ [[0, 1, 2, 3, 4], [0, 2, 1, 3, 4], [1, 0, 2, 3, 4], [1, 2, 0, 3, 4], [1, 2, 3, 0, 4], [2, 0, 1, 3, 4], [2, 1, 0, 3, 4], [2, 1, 3, 0, 4]])
    (next : ∀ (u2 u3 u7 u8 u10 u11 u13 : Value) w', Goes Tryd.prog false (fun _ w₁ => ShR N s w₁) (DBX (MineR N)) Stop n₀ (atSendR N s k u2 u3 u7 u8 u10 u11 u13 s[k] [4]) w') : Goes Tryd.prog false (fun _ w₁ => ShR N s w₁) (DBX (MineR N)) Stop (n₀ + 4) (atDrawR N s k u3 u7 u8 u9 u10 u11 u12 u13 (.inRegion ops25 l)) w := by
  have hb : ∀ w es, (Instr.index 9 (.string s) (.int .i64 (k : Int))).events Tryd.prog w es = es := events_index_string s k hk
  simp only [atSendR, atDrawR, ops25, R25, L25, body25, Tryd.f38, Option.getD_some] at next ⊢
  simp only [List.mem_cons, List.not_mem_nil, or_false] at hl
  rcases hl with rfl | rfl | rfl | rfl | rfl | rfl | rfl | rfl
  all_goals
    repeat (first | (refine Goes.step rfl (fun _ _ => ?_); own_rw; refine ⟨dbx (by simp), ?_⟩) | (refine Goes.step rfl (fun w₁ h₁ => ?_); refine goes_oper_k rfl rfl (by decide) (fun K hK => ?_); have hx := ShR.sv h₁; have hch := ShR.ch h₁; go_simp; refine hK _ _ ⟨dbx (fun e he => ?_), ?_⟩; (have hm := mem_listed he; simp [go_sem, *] at hm; try (subst hm; exact evB_cellR _ _ (by first | exact .inl rfl | exact .inr rfl))); clear hK K hx hch h₁))
    exact next ..
set_option maxRecDepth 100000 in
/-- From behind the send to the head. -/
theorem seg_next (Stop : Goroutine → World → Prop) (n₀ k : Nat) (hk : k < s.size) (hn : s.size ≤ 9223372036854775807) (u2 u3 u7 u8 u10 u11 u13 : Value) (b : UInt8) (w : World)
    (next : ∀ (u2 u3 u7 u8 u9 u10 u11 u12 u13 : Value) w', Goes Tryd.prog false (fun _ w₁ => ShR N s w₁) (DBX (MineR N)) Stop n₀ (headR N s (k + 1) u2 u3 u7 u8 u9 u10 u11 u12 u13) w') : Goes Tryd.prog false (fun _ w₁ => ShR N s w₁) (DBX (MineR N)) Stop (n₀ + 7) (atSendR N s k u2 u3 u7 u8 u10 u11 u13 b []) w := by
  have hwr : IntKind.i64.wrap ((k : Int) + 1) = ((k + 1 : Nat) : Int) := by rw [IntKind.wrap_i64]; omega
  simp only [headR, atSendR, ops25, R25, L25, body25, Tryd.f38, Option.getD_some] at next ⊢
  repeat (first | (refine Goes.step rfl (fun _ _ => ?_); own_rw; refine ⟨dbx (by simp), ?_⟩) | (refine Goes.step rfl (fun w₁ h₁ => ?_); refine goes_oper_k rfl rfl (by decide) (fun K hK => ?_); have hx := ShR.sv h₁; have hch := ShR.ch h₁; go_simp; refine hK _ _ ⟨dbx (fun e he => ?_), ?_⟩; (have hm := mem_listed he; simp [go_sem, *] at hm; try (subst hm; exact evB_cellR _ _ (by first | exact .inl rfl | exact .inr rfl))); clear hK K hx hch h₁))
  exact next ..

set_option maxRecDepth 100000 in
/-- From the head, all sent, to the close. -/
theorem seg_shut (Stop : Goroutine → World → Prop) (n₀ : Nat) (u2 u3 u7 u8 u9 u10 u11 u12 u13 : Value) (w : World)
    (next : ∀ (u2 u3 u4 u5 u6 u7 u8 u9 u10 u11 u12 u13 : Value) w', Goes Tryd.prog false (fun _ w₁ => ShR N s w₁) (DBX (MineR N)) Stop n₀ (atShutR N u2 u3 u4 u5 u6 u7 u8 u9 u10 u11 u12 u13 [dClose N]) w') : Goes Tryd.prog false (fun _ w₁ => ShR N s w₁) (DBX (MineR N)) Stop (n₀ + 8) (headR N s s.size u2 u3 u7 u8 u9 u10 u11 u12 u13) w := by
  simp only [headR, atShutR, L25, body25, Tryd.f38, Option.getD_some] at next ⊢
  repeat (first | (refine Goes.step rfl (fun _ _ => ?_); own_rw; refine ⟨dbx (by simp), ?_⟩) | (refine Goes.step rfl (fun w₁ h₁ => ?_); refine goes_oper_k rfl rfl (by decide) (fun K hK => ?_); have hx := ShR.sv h₁; have hch := ShR.ch h₁; go_simp; refine hK _ _ ⟨dbx (fun e he => ?_), ?_⟩; (have hm := mem_listed he; simp [go_sem, *] at hm; try (subst hm; exact evB_cellR _ _ (by first | exact .inl rfl | exact .inr rfl))); clear hK K hx hch h₁))
  refine Goes.step rfl (fun _ _ => ?_)
  rw [stepG_cond (t := false) rfl]
  simp only [goes_go, if_true, if_false, Bool.false_eq_true, ↓reduceIte]
  refine ⟨dbx (by simp), ?_⟩
  refine Goes.step rfl (fun _ _ => ?_)
  apply goes_exit
  · rfl
  refine ⟨dbx (by simp), ?_⟩
  refine Goes.step rfl (fun _ _ => ?_)
  rw [stepG_end]
  simp only [goes_go]
  refine ⟨dbx (by simp), ?_⟩
  exact next ..

set_option maxRecDepth 100000 in
/-- From the function's entry to the loop's head. -/
theorem seg_entry (Stop : Goroutine → World → Prop) (n₀ : Nat) (w : World)
    (next : ∀ (u2 u3 u7 u8 u9 u10 u11 u12 u13 : Value) w', Goes Tryd.prog false (fun _ w₁ => ShR N s w₁) (DBX (MineR N)) Stop n₀ (headR N s 0 u2 u3 u7 u8 u9 u10 u11 u12 u13) w') :
    Goes Tryd.prog false (fun _ w₁ => ShR N s w₁) (DBX (MineR N)) Stop (n₀ + 13) (G (b25.at ⟨#[.pointer (some ⟨N + 3, 0, none⟩), .pointer (some ⟨N + 1, 0, none⟩), undef, undef, undef, undef, undef, undef, undef, undef, undef, undef, undef, undef], []⟩ [.code body25]) [bot]) w := by
  have hlen := events_len_string s
  simp only [headR, L25, body25, Tryd.f38, Option.getD_some] at next ⊢
  repeat (first | (refine Goes.step rfl (fun _ _ => ?_); own_rw; refine ⟨dbx (by simp), ?_⟩) | (refine Goes.step rfl (fun w₁ h₁ => ?_); refine goes_oper_k rfl rfl (by decide) (fun K hK => ?_); have hx := ShR.sv h₁; have hch := ShR.ch h₁; go_simp; refine hK _ _ ⟨dbx (fun e he => ?_), ?_⟩; (have hm := mem_listed he; simp [go_sem, *] at hm; try (subst hm; exact evB_cellR _ _ (by first | exact .inl rfl | exact .inr rfl))); clear hK K hx hch h₁))
  refine Goes.step rfl (fun w₁ h₁ => ?_)
  rw [stepG_deferB (d := dClose N) (w' := w₁) rfl rfl (by decide) (by simp [go_sem, dClose, Act.eval])]
  simp only [goes_go]
  refine ⟨dbx (fun e he => ?_), ?_⟩
  · have hm := mem_listed he
    simp [go_sem] at hm
  clear h₁
  repeat (first | (refine Goes.step rfl (fun _ _ => ?_); own_rw; refine ⟨dbx (by simp), ?_⟩) | (refine Goes.step rfl (fun w₁ h₁ => ?_); refine goes_oper_k rfl rfl (by decide) (fun K hK => ?_); have hx := ShR.sv h₁; have hch := ShR.ch h₁; go_simp; refine hK _ _ ⟨dbx (fun e he => ?_), ?_⟩; (have hm := mem_listed he; simp [go_sem, *] at hm; try (subst hm; exact evB_cellR _ _ (by first | exact .inl rfl | exact .inr rfl))); clear hK K hx hch h₁))
  simpa using next ..

/-- AT THE SEND. -/
theorem atSend_stop (k : Nat) (vs : List Value) (u2 u3 u7 u8 u10 u11 u13 : Value) (b : UInt8)
    (next : SendsX Tryd.prog (N + 2) (ShR N s) (MineR N) vs (atSendR N s k u2 u3 u7 u8 u10 u11 u13 b [])) :
    AtSend Tryd.prog (N + 2) (ShR N s) (MineR N) (.int .u8 (b.toNat : Int)) (SendsX Tryd.prog (N + 2) (ShR N s) (MineR N) vs) (atSendR N s k u2 u3 u7 u8 u10 u11 u13 b [4]) := by
  refine ⟨rfl, atSendR N s k u2 u3 u7 u8 u10 u11 u13 b [4], .tuple #[], #[], fun w _ => ?_, by simp, ?_⟩
  · simp only [atSendR, ops25, L25, body25, Tryd.f38, Option.getD_some]
    rw [stepG_comm (cases := #[scase (N + 2) (.int .u8 (b.toNat : Int)) (.tuple #[])]) (blocking := true) (shape := .send) (w' := w) rfl rfl (by decide) (by simp [execOp, scase, Act.eval])]
    simp [listed, execOp, seen]
  · have e : Conc.served (atSendR N s k u2 u3 u7 u8 u10 u11 u13 b [4]) undef = atSendR N s k u2 u3 u7 u8 u10 u11 u13 b [] := by
      simp only [atSendR, ops25, L25, body25, Tryd.f38, Option.getD_some, served_G]
      rfl
    rw [e]; exact next

/-- BEHIND THE CLOSE IT ONLY LEAVES, AND SAYS NOTHING. -/
theorem quitsR (u2 u3 u4 u5 u6 u7 u8 u9 u10 u11 u12 u13 : Value) : QuitsIn Tryd.prog 2 (atShutR N u2 u3 u4 u5 u6 u7 u8 u9 u10 u11 u12 u13 []) := by
  simp only [atShutR]
  refine .inr ⟨rfl, G bot [], fun w => ?_, ?_⟩
  · simp [G, stepG, unwind, doReturn, results, Frame.at, b25, bot, Tryd.func38, Tryd.f38, seen, GStep.after, goexitEntry]
  refine .inr ⟨rfl, { G bot [] with status := .finished }, fun w => ?_, rfl⟩
  simp [G, stepG, unwind, bot, goexitEntry, Frame.catches]
  rfl

/-- AT THE CLOSE. -/
theorem atShut_stop (u2 u3 u4 u5 u6 u7 u8 u9 u10 u11 u12 u13 : Value) : AtShutX Tryd.prog (N + 2) (ShR N s) (MineR N) (atShutR N u2 u3 u4 u5 u6 u7 u8 u9 u10 u11 u12 u13 [dClose N]) := by
  refine ⟨rfl, ?_, atShutR N u2 u3 u4 u5 u6 u7 u8 u9 u10 u11 u12 u13 [], #[⟨.obj (N + 2), false, true⟩], 2, fun w cap buf sn r tm _ hc => ?_, ?_, quitsR N ..⟩
  · simp [mayWake, atShutR, G, Frame.at]
  · have hr := run_close_open (P := Tryd.prog) #[54] 0 hc
    have he := events_close_open (P := Tryd.prog) (es := #[]) #[54] 0 hc
    have hl : seen Tryd.prog b25.fn #[⟨.obj (N + 2), false, true⟩, ⟨.obj (N + 2), true, true⟩] = #[⟨.obj (N + 2), false, true⟩, ⟨.obj (N + 2), true, true⟩] := seen_eq (by simp [b25, Tryd.func38, Tryd.f38]) (by simp)
    simp [atShutR, G, stepG, unwind, callDeferred, Frame.at, dClose, invoke, builtin, Sem.runT, hr, he, GStep.after, World.setChan, hl]
  · intro e he
    simp at he
    subst he
    exact ⟨fun m => by simp, rfl, fun ⟨a, h, _⟩ => by cases h⟩

/-- THE SENDER's SCRIPT, FROM THE LOOP's HEAD: 'k' sent, 'm' to send. -/
theorem sends_from (hn : s.size ≤ 9223372036854775807) : ∀ (m k : Nat), k + m = s.size →
    ∃ n', ∀ (u2 u3 u7 u8 u9 u10 u11 u12 u13 : Value) (w : World), Goes Tryd.prog false (fun _ w₁ => ShR N s w₁) (DBX (MineR N)) (StopBX Tryd.prog (N + 2) (ShR N s) (MineR N) (sentV (s.data.toList.drop k))) n' (headR N s k u2 u3 u7 u8 u9 u10 u11 u12 u13) w := by
  intro m
  induction m with
  | zero =>
    intro k hk
    obtain rfl : k = s.size := by omega
    have hd : s.data.toList.drop s.size = [] := List.drop_eq_nil_of_le (by simp)
    rw [hd]
    exact ⟨0 + 8, fun u2 u3 u7 u8 u9 u10 u11 u12 u13 w => seg_shut N s _ 0 u2 u3 u7 u8 u9 u10 u11 u12 u13 w fun u2 u3 u4 u5 u6 u7 u8 u9 u10 u11 u12 u13 _ => Goes.stop fun _ _ => atShut_stop N s u2 u3 u4 u5 u6 u7 u8 u9 u10 u11 u12 u13⟩
  | succ m ih =>
    intro k hk
    obtain ⟨n₁, h₁⟩ := ih (k + 1) (by omega)
    have hk' : k < s.size := by omega
    rw [drop_one s[k] (at_byte s k hk')]
    refine ⟨0 + 4 + 1 + 14, fun u2 u3 u7 u8 u9 u10 u11 u12 u13 w => seg_draw N s _ (0 + 4 + 1) k hk' u2 u3 u7 u8 u9 u10 u11 u12 u13 w fun u3 u7 u8 u9 u10 u11 u12 u13 _ => ?_⟩
    refine Goes.step rfl fun w₁ h₁' => ?_
    rw [atDrawR, stepG_region_draw]
    simp only [goes_go]
    refine ⟨⟨⟨_, rfl⟩, by simp⟩, ?_⟩
    refine seg_order N s _ 0 k hk' u3 u7 u8 u9 u10 u11 u12 u13 _ _ ?_ fun u2 u3 u7 u8 u10 u11 u13 _ => Goes.stop fun _ _ => atSend_stop N s k _ u2 u3 u7 u8 u10 u11 u13 _ ?_
    · rw [follows25]; exact schedule25 _
    · exact (sendsX_iff ..).2 ⟨n₁ + 7, seg_next N s _ n₁ k hk' hn u2 u3 u7 u8 u10 u11 u13 _ default h₁⟩

/-- The call that the go statement holds. -/
def call25 (N : Nat) : Deferred := { target := .fn (.func 38) #[.pointer (some ⟨N + 3, 0, none⟩), .pointer (some ⟨N + 1, 0, none⟩)], args := #[] }
theorem born_step (w : World) : stepG Tryd.prog false (born Tryd.prog (call25 N)) w =
    .go (G (b25.at ⟨#[.pointer (some ⟨N + 3, 0, none⟩), .pointer (some ⟨N + 1, 0, none⟩), undef, undef, undef, undef, undef, undef, undef, undef, undef, undef, undef, undef], []⟩ [.code body25]) [bot]) w #[] := by
  simp [born, call25, stepG, unwind, callDeferred, invoke, callFunc, Tryd.func38, Tryd.f38, seen, GStep.after, G, Frame.enter, Frame.at, b25, bot, body25]
/-- THE SENDER's SCRIPT, WHOLE. -/
theorem sends_all (hn : s.size ≤ 9223372036854775807) : SendsX Tryd.prog (N + 2) (ShR N s) (MineR N) (sentV s.data.toList) (born Tryd.prog (call25 N)) := by
  obtain ⟨n₁, h₁⟩ := sends_from N s hn s.size 0 (by omega)
  refine (sendsX_iff ..).2 ⟨n₁ + 13 + 1, Goes.step rfl fun w₁ _ => ?_⟩
  rw [born_step]
  refine ⟨dbx (by simp), seg_entry N s _ n₁ w₁ ?_⟩
  simpa using h₁
end
end Go.Proofs.YtnmlhjigiemfgaaDoor
