/- The operations' small programs are tame. -/
import Derived.Test.YtnmlhjigiemfgaaDoorTame
import Derived.Laws.Sem
namespace Go.Proofs.YtnmlhjigiemfgaaDoor
open Go

section
variable {P : Program}
abbrev TT {α : Type} (P : Program) (s : Sem α) : Prop := Tame P (fun _ => True) s
theorem tt_pure {α : Type} (a : α) : TT P (pure a : Sem α) := trivial
theorem tt_bind {α β : Type} {x : Sem α} {f : α → Sem β} (hx : TT P x) (hf : ∀ a, TT P (f a)) : TT P (x >>= f) := Tame.bind hx fun a _ => hf a
theorem tt_map {α β : Type} {x : Sem α} {f : α → β} (hx : TT P x) : TT P (Functor.map f x) := Tame.bind hx fun _ _ => trivial
theorem tt_then {α β : Type} {K : β → Prop} {x : Sem α} {f : α → Sem β} (hx : TT P x) (hf : ∀ a, Tame P K (f a)) : Tame P K (x >>= f) := Tame.bind hx fun a _ => hf a
theorem tt_ite {α : Type} {c : Prop} [Decidable c] {x y : Sem α} (hx : TT P x) (hy : TT P y) : TT P (if c then x else y) := by
  by_cases h : c
  · rw [if_pos h]; exact hx
  · rw [if_neg h]; exact hy
theorem arr_cases (p : Array Value → Prop) (h0 : p #[]) (h1 : ∀ x, p #[x]) (h2 : ∀ x y, p #[x, y]) (h3 : ∀ x y z l, p ⟨x :: y :: z :: l⟩) (a : Array Value) : p a := by
  rcases a with ⟨_ | ⟨x0, _ | ⟨x1, _ | ⟨x2, l⟩⟩⟩⟩
  · exact h0
  · exact h1 _
  · exact h2 _ _
  · exact h3 _ _ _ _
theorem tt_addMatch (a : Array Value) (h1 : Option Addr → Value → Sem Value) (h2 : Array Value → Sem Value) (H1 : ∀ p y, TT P (h1 p y)) (H2 : ∀ a, TT P (h2 a)) :
    TT P (Builtin.unsafeAdd_.match_4 (fun _ => Sem Value) a h1 h2) := by
  refine arr_cases (fun a => TT P (Builtin.unsafeAdd_.match_4 (fun _ => Sem Value) a h1 h2)) (H2 _) (fun x0 => H2 _) (fun x0 y0 => ?_) (fun _ _ _ _ => H2 _) a
  cases x0 with
  | pointer p => exact H1 _ _
  | _ => exact H2 _
theorem tt_strMatch (a : Array Value) (h1 : Option Addr → Value → Sem Value) (h2 : Array Value → Sem Value) (H1 : ∀ p y, TT P (h1 p y)) (H2 : ∀ a, TT P (h2 a)) :
    TT P (Builtin.unsafeString_.match_3 (fun _ => Sem Value) a h1 h2) := by
  refine arr_cases (fun a => TT P (Builtin.unsafeString_.match_3 (fun _ => Sem Value) a h1 h2)) (H2 _) (fun x0 => H2 _) (fun x0 y0 => ?_) (fun _ _ _ _ => H2 _) a
  cases x0 with
  | pointer p => exact H1 _ _
  | _ => exact H2 _
theorem tt_dataMatch (a : Array Value) (h1 : Nat → Nat → Sem Value) (h2 : Addr → Nat → Nat → Sem Value) (h3 : Array Value → Sem Value) (H1 : ∀ p y, TT P (h1 p y)) (H2 : ∀ p y z, TT P (h2 p y z)) (H3 : ∀ a, TT P (h3 a)) :
    TT P (Builtin.unsafeSliceData_.match_1 (fun _ => Sem Value) a h1 h2 h3) := by
  refine arr_cases (fun a => TT P (Builtin.unsafeSliceData_.match_1 (fun _ => Sem Value) a h1 h2 h3)) (H3 _) (fun x0 => ?_) (fun x0 y0 => H3 _) (fun _ _ _ _ => H3 _) a
  cases x0 with
  | slice p l c =>
    cases p with
    | none => exact H1 _ _
    | some p => exact H2 _ _ _
  | _ => exact H3 _
theorem tt_listFor {α β : Type} (l : List α) (f : α → β → Sem (ForInStep β)) (hf : ∀ a b, TT P (f a b)) : ∀ b, TT P (forIn l b f) := by
  induction l with
  | nil => exact fun b => trivial
  | cons a l ih =>
    intro b
    rw [List.forIn_cons]
    refine tt_bind (hf a b) fun r => ?_
    cases r with
    | done b => exact trivial
    | yield b => exact ih b
theorem tt_arrFor {α β : Type} (l : Array α) (f : α → β → Sem (ForInStep β)) (b : β) (hf : ∀ a b, TT P (f a b)) : TT P (forIn l b f) := by
  rw [← Array.forIn_toList]
  exact tt_listFor _ _ hf b
theorem tt_rangeFor {β : Type} (r : Std.Legacy.Range) (f : Nat → β → Sem (ForInStep β)) (b : β) (hf : ∀ a b, TT P (f a b)) : TT P (forIn r b f) := by
  rw [Std.Legacy.Range.forIn_eq_forIn_range']
  exact tt_listFor _ _ hf b
theorem tt_foldlM {α β : Type} (l : List α) (f : β → α → Sem β) (hf : ∀ b a, TT P (f b a)) : ∀ b, TT P (l.foldlM f b) := by
  induction l with
  | nil => exact fun b => trivial
  | cons a l ih => exact fun b => tt_bind (hf b a) fun c => ih c
theorem tt_listMapM {α β : Type} (l : List α) (f : α → Sem β) (hf : ∀ a, TT P (f a)) : TT P (l.mapM f) := by
  induction l with
  | nil => exact trivial
  | cons a l ih =>
    rw [List.mapM_cons]
    exact tt_bind (hf a) fun _ => tt_bind ih fun _ => trivial
theorem tt_arrMapM {α β : Type} (l : Array α) (f : α → Sem β) (hf : ∀ a, TT P (f a)) : TT P (l.mapM f) := by
  rw [Array.mapM_eq_mapM_toList]
  exact tt_map (tt_listMapM _ _ hf)

theorem tt_load (a : Addr) (m : Mode) : TT P (load a m) := fun _ => trivial
theorem tt_store (a : Addr) (v : Value) (m : Mode) : TT P (store a v m) := trivial
theorem tt_newObj (o : Obj) : TT P (newObj o) := fun _ => trivial
theorem tt_shape (r : Nat) : TT P (shape r) := fun _ => trivial
theorem tt_freeze (a : Addr) (n : Nat) : TT P (freeze a n) := trivial
theorem tt_frozen (a : Addr) : TT P (frozen a) := fun _ => trivial
theorem tt_getObj (r : Nat) : TT P (getObj r) := fun _ => trivial
theorem tt_setObj (r : Nat) (o : Obj) : TT P (setObj r o) := trivial
theorem tt_choose (q : Question) : TT P (choose q) := fun _ => trivial
theorem tt_program : TT P program := trivial
theorem tt_sysenv : TT P (sys .env) := ⟨rfl, fun _ => trivial⟩
theorem tt_noRoom : TT P (mark .noRoom) := ⟨trivial, trivial⟩
theorem tt_stuck {α : Type} (s : String) : TT P (stuck s : Sem α) := trivial
theorem tt_unsupported {α : Type} (u : Unsupported) : TT P (unsupported u : Sem α) := trivial
theorem tt_goPanic {α : Type} (v : Value) : TT P (goPanic v : Sem α) := trivial

theorem tt_askRoom (n : Nat) : TT P (askRoom n) := by
  unfold askRoom
  repeat' (first
    | with_reducible apply tt_noRoom
    | with_reducible apply tt_bind
    | with_reducible apply tt_ite
    | with_reducible exact trivial
    | with_reducible apply tt_pure
    | assumption
    | with_reducible intro _
    | split
    | dsimp only
    | intro _)
theorem tt_typeInfo (t : TypeId) : TT P (typeInfo t) := by
  unfold typeInfo
  repeat' (first
    | with_reducible apply tt_program
    | with_reducible apply tt_stuck
    | with_reducible apply tt_bind
    | with_reducible apply tt_ite
    | with_reducible exact trivial
    | with_reducible apply tt_pure
    | assumption
    | with_reducible intro _
    | split
    | dsimp only
    | intro _)
theorem tt_underlying (t : TypeId) : TT P (underlying t) := by
  unfold underlying
  repeat' (first
    | with_reducible apply tt_program
    | with_reducible apply tt_stuck
    | with_reducible apply tt_typeInfo
    | with_reducible apply tt_bind
    | with_reducible apply tt_ite
    | with_reducible exact trivial
    | with_reducible apply tt_pure
    | assumption
    | with_reducible intro _
    | split
    | dsimp only
    | intro _)
theorem tt_zeroValue (t : TypeId) : TT P (zeroValue t) := by
  unfold zeroValue
  repeat' (first
    | with_reducible apply tt_unsupported
    | with_reducible apply tt_typeInfo
    | with_reducible apply tt_bind
    | with_reducible apply tt_ite
    | with_reducible exact trivial
    | with_reducible apply tt_pure
    | assumption
    | with_reducible intro _
    | split
    | dsimp only
    | intro _)
theorem tt_sizeOf (t : TypeId) : TT P (sizeOf t) := by
  unfold sizeOf
  repeat' (first
    | with_reducible apply tt_typeInfo
    | with_reducible apply tt_bind
    | with_reducible apply tt_ite
    | with_reducible exact trivial
    | with_reducible apply tt_pure
    | assumption
    | with_reducible intro _
    | split
    | dsimp only
    | intro _)
theorem tt_isAgg (t : TypeId) : TT P (isAgg t) := by
  unfold isAgg
  repeat' (first
    | with_reducible apply tt_underlying
    | with_reducible apply tt_bind
    | with_reducible apply tt_ite
    | with_reducible exact trivial
    | with_reducible apply tt_pure
    | assumption
    | with_reducible intro _
    | split
    | dsimp only
    | intro _)
theorem tt_viewAt (r : Nat) : TT P (viewAt r) := by
  unfold viewAt
  repeat' (first
    | with_reducible apply tt_shape
    | with_reducible apply tt_getObj
    | with_reducible apply tt_bind
    | with_reducible apply tt_ite
    | with_reducible exact trivial
    | with_reducible apply tt_pure
    | assumption
    | with_reducible intro _
    | split
    | dsimp only
    | intro _)
theorem tt_numberAt (r : Nat) : TT P (numberAt r) := by
  unfold numberAt
  repeat' (first
    | with_reducible apply tt_shape
    | with_reducible apply tt_getObj
    | with_reducible apply tt_bind
    | with_reducible apply tt_ite
    | with_reducible exact trivial
    | with_reducible apply tt_pure
    | assumption
    | with_reducible intro _
    | split
    | dsimp only
    | intro _)
theorem tt_cellsIn (r : Nat) : TT P (cellsIn r) := by
  unfold cellsIn
  repeat' (first
    | with_reducible apply tt_shape
    | with_reducible apply tt_getObj
    | with_reducible apply tt_bind
    | with_reducible apply tt_ite
    | with_reducible exact trivial
    | with_reducible apply tt_pure
    | assumption
    | with_reducible intro _
    | split
    | dsimp only
    | intro _)
theorem tt_asNumber (a : Addr) (b : Bool) : TT P (asNumber a b) := by
  unfold asNumber
  repeat' (first
    | with_reducible apply tt_newObj
    | with_reducible apply tt_bind
    | with_reducible apply tt_ite
    | with_reducible exact trivial
    | with_reducible apply tt_pure
    | assumption
    | with_reducible intro _
    | split
    | dsimp only
    | intro _)
theorem tt_behindNumber (a : Addr) : TT P (behindNumber a) := by
  unfold behindNumber
  repeat' (first
    | with_reducible apply tt_numberAt
    | with_reducible apply tt_bind
    | with_reducible apply tt_ite
    | with_reducible exact trivial
    | with_reducible apply tt_pure
    | assumption
    | with_reducible intro _
    | split
    | dsimp only
    | intro _)
theorem tt_backFromNumber (a : Addr) : TT P (backFromNumber a) := by
  unfold backFromNumber
  repeat' (first
    | with_reducible apply tt_unsupported
    | with_reducible apply tt_behindNumber
    | with_reducible apply tt_bind
    | with_reducible apply tt_ite
    | with_reducible exact trivial
    | with_reducible apply tt_pure
    | assumption
    | with_reducible intro _
    | split
    | dsimp only
    | intro _)
theorem tt_noView (a : Addr) : TT P (noView a) := by
  unfold noView
  repeat' (first
    | with_reducible apply tt_unsupported
    | with_reducible apply tt_viewAt
    | with_reducible apply tt_bind
    | with_reducible apply tt_ite
    | with_reducible exact trivial
    | with_reducible apply tt_pure
    | assumption
    | with_reducible intro _
    | split
    | dsimp only
    | intro _)
theorem tt_markStringish (a : Addr) : TT P (markStringish a) := by
  unfold markStringish
  repeat' (first
    | with_reducible apply tt_shape
    | with_reducible apply tt_freeze
    | with_reducible apply tt_bind
    | with_reducible apply tt_ite
    | with_reducible exact trivial
    | with_reducible apply tt_pure
    | assumption
    | with_reducible intro _
    | split
    | dsimp only
    | intro _)
theorem tt_stringish (a : Addr) : TT P (stringish a) := by
  unfold stringish
  repeat' (first
    | with_reducible apply tt_shape
    | with_reducible apply tt_frozen
    | with_reducible apply tt_bind
    | with_reducible apply tt_ite
    | with_reducible exact trivial
    | with_reducible apply tt_pure
    | assumption
    | with_reducible intro _
    | split
    | dsimp only
    | intro _)
theorem tt_mayBeOne (a b : Addr) : TT P (mayBeOne a b) := by
  unfold mayBeOne
  repeat' (first
    | with_reducible apply tt_shape
    | with_reducible apply tt_stringish
    | with_reducible apply tt_bind
    | with_reducible apply tt_ite
    | with_reducible exact trivial
    | with_reducible apply tt_pure
    | assumption
    | with_reducible intro _
    | split
    | dsimp only
    | intro _)
theorem tt_sameAddr (a b : Addr) : TT P (sameAddr a b) := by
  unfold sameAddr
  repeat' (first
    | with_reducible apply tt_frozen
    | with_reducible apply tt_choose
    | with_reducible apply tt_unsupported
    | with_reducible apply tt_noView
    | with_reducible apply tt_mayBeOne
    | with_reducible apply tt_bind
    | with_reducible apply tt_ite
    | with_reducible exact trivial
    | with_reducible apply tt_pure
    | assumption
    | with_reducible intro _
    | split
    | dsimp only
    | intro _)
theorem tt_samePointer (a b : Option Addr) : TT P (samePointer a b) := by
  unfold samePointer
  repeat' (first
    | with_reducible apply tt_sameAddr
    | with_reducible apply tt_bind
    | with_reducible apply tt_ite
    | with_reducible exact trivial
    | with_reducible apply tt_pure
    | assumption
    | with_reducible intro _
    | split
    | dsimp only
    | intro _)
theorem tt_typeStr (t : TypeId) : TT P (typeStr t) := by
  unfold typeStr
  repeat' (first
    | with_reducible apply tt_unsupported
    | with_reducible apply tt_typeInfo
    | with_reducible apply tt_bind
    | with_reducible apply tt_ite
    | with_reducible exact trivial
    | with_reducible apply tt_pure
    | assumption
    | with_reducible intro _
    | split
    | dsimp only
    | intro _)
theorem tt_loadCellsFrom (a : Addr) (i n : Nat) (acc : Array Value) : TT P (loadCellsFrom a i n acc) := by
  induction n generalizing i acc with
  | zero =>
    unfold loadCellsFrom
    repeat' (first
      | with_reducible apply tt_load
      | with_reducible apply tt_bind
      | with_reducible apply tt_ite
      | with_reducible exact trivial
      | with_reducible apply tt_pure
      | assumption
      | with_reducible intro _
      | split
      | dsimp only
      | intro _)
  | succ n ih =>
    unfold loadCellsFrom
    repeat' (first
      | with_reducible apply tt_load
      | with_reducible apply ih
      | with_reducible apply tt_bind
      | with_reducible apply tt_ite
      | with_reducible exact trivial
      | with_reducible apply tt_pure
      | assumption
      | with_reducible intro _
      | split
      | dsimp only
      | intro _)
theorem tt_loadCells (a : Addr) (n : Nat) : TT P (loadCells a n) := by
  unfold loadCells
  repeat' (first
    | with_reducible apply tt_loadCellsFrom
    | with_reducible apply tt_bind
    | with_reducible apply tt_ite
    | with_reducible exact trivial
    | with_reducible apply tt_pure
    | assumption
    | with_reducible intro _
    | split
    | dsimp only
    | intro _)
theorem tt_storeCells (a : Addr) (vs : List Value) (i : Nat) : TT P (storeCells a vs i) := by
  induction vs generalizing i with
  | nil =>
    unfold storeCells
    repeat' (first
      | with_reducible apply tt_store
      | with_reducible apply tt_bind
      | with_reducible apply tt_ite
      | with_reducible exact trivial
      | with_reducible apply tt_pure
      | assumption
      | with_reducible intro _
      | split
      | dsimp only
      | intro _)
  | cons v vs ih =>
    unfold storeCells
    repeat' (first
      | with_reducible apply tt_store
      | with_reducible apply ih
      | with_reducible apply tt_bind
      | with_reducible apply tt_ite
      | with_reducible exact trivial
      | with_reducible apply tt_pure
      | assumption
      | with_reducible intro _
      | split
      | dsimp only
      | intro _)
theorem tt_loadVar (t : TypeId) (a : Addr) : TT P (loadVar t a) := by
  unfold loadVar
  repeat' (first
    | with_reducible apply tt_load
    | with_reducible apply tt_sizeOf
    | with_reducible apply tt_isAgg
    | with_reducible apply tt_loadCells
    | with_reducible apply tt_bind
    | with_reducible apply tt_ite
    | with_reducible exact trivial
    | with_reducible apply tt_pure
    | assumption
    | with_reducible intro _
    | split
    | dsimp only
    | intro _)
theorem tt_storeVar (t : TypeId) (a : Addr) (v : Value) : TT P (storeVar t a v) := by
  unfold storeVar
  repeat' (first
    | with_reducible apply tt_stuck
    | with_reducible apply tt_sizeOf
    | with_reducible apply tt_storeCells
    | with_reducible apply tt_bind
    | with_reducible apply tt_ite
    | with_reducible exact trivial
    | with_reducible apply tt_pure
    | assumption
    | with_reducible intro _
    | split
    | dsimp only
    | intro _)
theorem tt_newRow (t : TypeId) (c : Array Value) : TT P (newRow t c) := by
  unfold newRow
  repeat' (first
    | with_reducible apply tt_newObj
    | with_reducible apply tt_bind
    | with_reducible apply tt_ite
    | with_reducible exact trivial
    | with_reducible apply tt_pure
    | assumption
    | with_reducible intro _
    | split
    | dsimp only
    | intro _)
theorem tt_newVar (t : TypeId) (v : Value) : TT P (newVar t v) := by
  unfold newVar
  repeat' (first
    | with_reducible apply tt_newRow
    | with_reducible apply tt_bind
    | with_reducible apply tt_ite
    | with_reducible exact trivial
    | with_reducible apply tt_pure
    | assumption
    | with_reducible intro _
    | split
    | dsimp only
    | intro _)
theorem tt_elemOf (t : TypeId) : TT P (elemOf t) := by
  unfold elemOf
  repeat' (first
    | with_reducible apply tt_stuck
    | with_reducible apply tt_underlying
    | with_reducible apply tt_bind
    | with_reducible apply tt_ite
    | with_reducible exact trivial
    | with_reducible apply tt_pure
    | assumption
    | with_reducible intro _
    | split
    | dsimp only
    | intro _)
theorem tt_part (t : TypeId) (c : Array Value) (o : Nat) : TT P (part t c o) := by
  unfold part
  repeat' (first
    | with_reducible apply tt_stuck
    | with_reducible apply tt_sizeOf
    | with_reducible apply tt_isAgg
    | with_reducible apply tt_bind
    | with_reducible apply tt_ite
    | with_reducible exact trivial
    | with_reducible apply tt_pure
    | assumption
    | with_reducible intro _
    | split
    | dsimp only
    | intro _)
theorem tt_runtimePanic {α : Type} (e : RuntimeError) : TT P (runtimePanic e : Sem α) := by
  unfold runtimePanic
  repeat' (first
    | with_reducible apply tt_program
    | with_reducible apply tt_goPanic
    | with_reducible apply tt_newVar
    | with_reducible apply tt_elemOf
    | with_reducible apply tt_bind
    | with_reducible apply tt_ite
    | with_reducible exact trivial
    | with_reducible apply tt_pure
    | assumption
    | with_reducible intro _
    | split
    | dsimp only
    | intro _)
theorem tt_boundsPanic {α : Type} (k : IntKind) (x y : Int) (c : BoundsCode) : TT P (boundsPanic k x y c : Sem α) := by
  unfold boundsPanic
  repeat' (first
    | with_reducible apply tt_choose
    | with_reducible apply tt_runtimePanic
    | with_reducible apply tt_map
    | with_reducible apply tt_bind
    | with_reducible apply tt_ite
    | with_reducible exact trivial
    | with_reducible apply tt_pure
    | assumption
    | with_reducible intro _
    | split
    | dsimp only
    | intro _)
theorem tt_asIntOf (v : Value) : TT P (asIntOf v) := by
  unfold asIntOf
  repeat' (first
    | with_reducible apply tt_stuck
    | with_reducible apply tt_unsupported
    | with_reducible apply tt_bind
    | with_reducible apply tt_ite
    | with_reducible exact trivial
    | with_reducible apply tt_pure
    | assumption
    | with_reducible intro _
    | split
    | dsimp only
    | intro _)
theorem tt_asInt (v : Value) : TT P (asInt v) := by
  unfold asInt
  repeat' (first
    | with_reducible apply tt_asIntOf
    | with_reducible apply tt_bind
    | with_reducible apply tt_ite
    | with_reducible exact trivial
    | with_reducible apply tt_pure
    | assumption
    | with_reducible intro _
    | split
    | dsimp only
    | intro _)
theorem tt_asBool (v : Value) : TT P (asBool v) := by
  unfold asBool
  repeat' (first
    | with_reducible apply tt_stuck
    | with_reducible apply tt_bind
    | with_reducible apply tt_ite
    | with_reducible exact trivial
    | with_reducible apply tt_pure
    | assumption
    | with_reducible intro _
    | split
    | dsimp only
    | intro _)
theorem tt_asString (v : Value) : TT P (asString v) := by
  unfold asString
  repeat' (first
    | with_reducible apply tt_stuck
    | with_reducible apply tt_bind
    | with_reducible apply tt_ite
    | with_reducible exact trivial
    | with_reducible apply tt_pure
    | assumption
    | with_reducible intro _
    | split
    | dsimp only
    | intro _)
theorem tt_asAgg (v : Value) : TT P (asAgg v) := by
  unfold asAgg
  repeat' (first
    | with_reducible apply tt_stuck
    | with_reducible apply tt_bind
    | with_reducible apply tt_ite
    | with_reducible exact trivial
    | with_reducible apply tt_pure
    | assumption
    | with_reducible intro _
    | split
    | dsimp only
    | intro _)
theorem tt_asAddr (v : Value) : TT P (asAddr v) := by
  unfold asAddr
  repeat' (first
    | with_reducible apply tt_stuck
    | with_reducible apply tt_runtimePanic
    | with_reducible apply tt_bind
    | with_reducible apply tt_ite
    | with_reducible exact trivial
    | with_reducible apply tt_pure
    | assumption
    | with_reducible intro _
    | split
    | dsimp only
    | intro _)
theorem tt_byteOf (a : Addr) : TT P (byteOf a) := by
  unfold byteOf
  repeat' (first
    | with_reducible apply tt_shape
    | with_reducible apply tt_program
    | with_reducible apply tt_stuck
    | with_reducible apply tt_noView
    | with_reducible apply tt_bind
    | with_reducible apply tt_ite
    | with_reducible exact trivial
    | with_reducible apply tt_pure
    | assumption
    | with_reducible intro _
    | split
    | dsimp only
    | intro _)
theorem tt_partAt (a : Addr) (c b : Nat) : TT P (partAt a c b) := by
  unfold partAt
  repeat' (first
    | with_reducible apply tt_byteOf
    | with_reducible apply tt_bind
    | with_reducible apply tt_ite
    | with_reducible exact trivial
    | with_reducible apply tt_pure
    | assumption
    | with_reducible intro _
    | split
    | dsimp only
    | intro _)
theorem tt_fieldPlace (a : Addr) (f : Field) : TT P (fieldPlace a f) := by
  unfold fieldPlace
  repeat' (first
    | with_reducible apply tt_sizeOf
    | with_reducible apply tt_partAt
    | with_reducible apply tt_bind
    | with_reducible apply tt_ite
    | with_reducible exact trivial
    | with_reducible apply tt_pure
    | assumption
    | with_reducible intro _
    | split
    | dsimp only
    | intro _)
theorem tt_variablesAt (a : Addr) (u : TypeId) (n : Nat) : TT P (variablesAt a u n) := by
  unfold variablesAt
  repeat' (first
    | with_reducible apply tt_shape
    | with_reducible apply tt_program
    | with_reducible apply tt_bind
    | with_reducible apply tt_ite
    | with_reducible exact trivial
    | with_reducible apply tt_pure
    | assumption
    | with_reducible intro _
    | split
    | dsimp only
    | intro _)
theorem tt_loadBytes (a : Addr) (acc : ByteArray) (n : Nat) : TT P (loadBytes a acc n) := by
  induction n generalizing a acc with
  | zero =>
    unfold loadBytes
    repeat' (first
      | with_reducible apply tt_load
      | with_reducible apply tt_stuck
      | with_reducible apply tt_bind
      | with_reducible apply tt_ite
      | with_reducible exact trivial
      | with_reducible apply tt_pure
      | assumption
      | with_reducible intro _
      | split
      | dsimp only
      | intro _)
  | succ n ih =>
    unfold loadBytes
    repeat' (first
      | with_reducible apply tt_load
      | with_reducible apply tt_stuck
      | with_reducible apply ih
      | with_reducible apply tt_bind
      | with_reducible apply tt_ite
      | with_reducible exact trivial
      | with_reducible apply tt_pure
      | assumption
      | with_reducible intro _
      | split
      | dsimp only
      | intro _)
theorem tt_alloc (t : TypeId) (b : Bool) (v : Value) : TT P (Instr.alloc t b v) := by
  unfold Instr.alloc
  repeat' (first
    | with_reducible apply tt_zeroValue
    | with_reducible apply tt_storeVar
    | with_reducible apply tt_newVar
    | with_reducible apply tt_bind
    | with_reducible apply tt_ite
    | with_reducible exact trivial
    | with_reducible apply tt_pure
    | assumption
    | with_reducible intro _
    | split
    | dsimp only
    | intro _)
theorem tt_box (t : TypeId) (v : Value) : TT P (Instr.box t v) := by
  unfold Instr.box
  repeat' (first
    | with_reducible apply tt_newVar
    | with_reducible apply tt_bind
    | with_reducible apply tt_ite
    | with_reducible exact trivial
    | with_reducible apply tt_pure
    | assumption
    | with_reducible intro _
    | split
    | dsimp only
    | intro _)
theorem tt_build (t : TypeId) (ps : Array (Nat × Value)) : TT P (Instr.build t ps) := by
  unfold Instr.build
  repeat' (first
    | with_reducible apply tt_stuck
    | with_reducible apply tt_underlying
    | with_reducible apply tt_zeroValue
    | with_reducible apply tt_sizeOf
    | with_reducible apply tt_part
    | with_reducible apply tt_arrMapM
    | with_reducible apply tt_bind
    | with_reducible apply tt_ite
    | with_reducible exact trivial
    | with_reducible apply tt_pure
    | assumption
    | with_reducible intro _
    | split
    | dsimp only
    | intro _)
theorem tt_buildSlice (t : TypeId) (n : Nat) (ps : Array (Nat × Value)) : TT P (Instr.buildSlice t n ps) := by
  unfold Instr.buildSlice
  repeat' (first
    | with_reducible apply tt_stuck
    | with_reducible apply tt_unsupported
    | with_reducible apply tt_underlying
    | with_reducible apply tt_zeroValue
    | with_reducible apply tt_sizeOf
    | with_reducible apply tt_newRow
    | with_reducible apply tt_part
    | with_reducible apply tt_bind
    | with_reducible apply tt_ite
    | with_reducible exact trivial
    | with_reducible apply tt_pure
    | assumption
    | with_reducible intro _
    | split
    | dsimp only
    | intro _)
theorem tt_sureAddr (v : Value) : TT P (Instr.sureAddr v) := by
  unfold Instr.sureAddr
  repeat' (first
    | with_reducible apply tt_stuck
    | with_reducible apply tt_bind
    | with_reducible apply tt_ite
    | with_reducible exact trivial
    | with_reducible apply tt_pure
    | assumption
    | with_reducible intro _
    | split
    | dsimp only
    | intro _)
theorem tt_loadAt (t : TypeId) (v : Value) : TT P (Instr.loadAt t v) := by
  unfold Instr.loadAt
  repeat' (first
    | with_reducible apply tt_loadVar
    | with_reducible apply tt_sureAddr
    | with_reducible apply tt_bind
    | with_reducible apply tt_ite
    | with_reducible exact trivial
    | with_reducible apply tt_pure
    | assumption
    | with_reducible intro _
    | split
    | dsimp only
    | intro _)
theorem tt_storeAt (t : TypeId) (a v : Value) : TT P (Instr.storeAt t a v) := by
  unfold Instr.storeAt
  repeat' (first
    | with_reducible apply tt_storeVar
    | with_reducible apply tt_sureAddr
    | with_reducible apply tt_bind
    | with_reducible apply tt_ite
    | with_reducible exact trivial
    | with_reducible apply tt_pure
    | assumption
    | with_reducible intro _
    | split
    | dsimp only
    | intro _)
theorem tt_fieldAt (t : TypeId) (v : Value) (f : Nat) : TT P (Instr.fieldAt t v f) := by
  unfold Instr.fieldAt
  repeat' (first
    | with_reducible apply tt_stuck
    | with_reducible apply tt_underlying
    | with_reducible apply tt_fieldPlace
    | with_reducible apply tt_sureAddr
    | with_reducible apply tt_bind
    | with_reducible apply tt_ite
    | with_reducible exact trivial
    | with_reducible apply tt_pure
    | assumption
    | with_reducible intro _
    | split
    | dsimp only
    | intro _)
theorem tt_indexAt (t : TypeId) (x i : Value) : TT P (Instr.indexAt t x i) := by
  unfold Instr.indexAt
  repeat' (first
    | with_reducible apply tt_stuck
    | with_reducible apply tt_unsupported
    | with_reducible apply tt_underlying
    | with_reducible apply tt_sizeOf
    | with_reducible apply tt_boundsPanic
    | with_reducible apply tt_asIntOf
    | with_reducible apply tt_sureAddr
    | with_reducible apply tt_bind
    | with_reducible apply tt_ite
    | with_reducible exact trivial
    | with_reducible apply tt_pure
    | assumption
    | with_reducible intro _
    | split
    | dsimp only
    | intro _)
theorem tt_sliceBound (x : Value) (y : Nat) (c : BoundsCode) : TT P (Instr.sliceBound x y c) := by
  unfold Instr.sliceBound
  repeat' (first
    | with_reducible apply tt_boundsPanic
    | with_reducible apply tt_asIntOf
    | with_reducible apply tt_bind
    | with_reducible apply tt_ite
    | with_reducible exact trivial
    | with_reducible apply tt_pure
    | assumption
    | with_reducible intro _
    | split
    | dsimp only
    | intro _)
theorem tt_sliceBounds (b : Bool) (l c : Nat) (x y z : Option Value) : TT P (Instr.sliceBounds b l c x y z) := by
  unfold Instr.sliceBounds
  repeat' (first
    | with_reducible apply tt_stuck
    | with_reducible apply tt_sliceBound
    | with_reducible apply tt_bind
    | with_reducible apply tt_ite
    | with_reducible exact trivial
    | with_reducible apply tt_pure
    | assumption
    | with_reducible intro _
    | split
    | dsimp only
    | intro _)
theorem tt_slice (t : TypeId) (v : Value) (x y z : Option Value) : TT P (Instr.slice t v x y z) := by
  unfold Instr.slice
  repeat' (first
    | with_reducible apply tt_stuck
    | with_reducible apply tt_typeInfo
    | with_reducible apply tt_underlying
    | with_reducible apply tt_sizeOf
    | with_reducible apply tt_newVar
    | with_reducible apply tt_asInt
    | with_reducible apply tt_asAddr
    | with_reducible apply tt_sliceBounds
    | with_reducible apply tt_arrMapM
    | with_reducible apply tt_bind
    | with_reducible apply tt_ite
    | with_reducible exact trivial
    | with_reducible apply tt_pure
    | assumption
    | with_reducible intro _
    | split
    | dsimp only
    | intro _)
theorem tt_sliceAt (t : TypeId) (v : Value) (x y z : Option Value) : TT P (Instr.sliceAt t v x y z) := by
  unfold Instr.sliceAt
  repeat' (first
    | with_reducible apply tt_stuck
    | with_reducible apply tt_unsupported
    | with_reducible apply tt_typeInfo
    | with_reducible apply tt_underlying
    | with_reducible apply tt_sizeOf
    | with_reducible apply tt_runtimePanic
    | with_reducible apply tt_asInt
    | with_reducible apply tt_variablesAt
    | with_reducible apply tt_sureAddr
    | with_reducible apply tt_sliceBounds
    | with_reducible apply tt_slice
    | with_reducible apply tt_bind
    | with_reducible apply tt_ite
    | with_reducible exact trivial
    | with_reducible apply tt_pure
    | assumption
    | with_reducible intro _
    | split
    | dsimp only
    | intro _)
theorem tt_index (t : TypeId) (x i : Value) : TT P (Instr.index t x i) := by
  unfold Instr.index
  repeat' (first
    | with_reducible apply tt_load
    | with_reducible apply tt_shape
    | with_reducible apply tt_stuck
    | with_reducible apply tt_unsupported
    | with_reducible apply tt_underlying
    | with_reducible apply tt_sizeOf
    | with_reducible apply tt_part
    | with_reducible apply tt_boundsPanic
    | with_reducible apply tt_asIntOf
    | with_reducible apply tt_asInt
    | with_reducible apply tt_slice
    | with_reducible apply tt_bind
    | with_reducible apply tt_ite
    | with_reducible exact trivial
    | with_reducible apply tt_pure
    | assumption
    | with_reducible intro _
    | split
    | dsimp only
    | intro _)
theorem tt_field (t : TypeId) (x : Value) (f : Nat) : TT P (Instr.field t x f) := by
  unfold Instr.field
  repeat' (first
    | with_reducible apply tt_load
    | with_reducible apply tt_shape
    | with_reducible apply tt_program
    | with_reducible apply tt_noRoom
    | with_reducible apply tt_stuck
    | with_reducible apply tt_unsupported
    | with_reducible apply tt_underlying
    | with_reducible apply tt_part
    | with_reducible apply tt_asInt
    | with_reducible apply tt_asAgg
    | with_reducible apply tt_fieldPlace
    | with_reducible apply tt_index
    | with_reducible apply tt_bind
    | with_reducible apply tt_ite
    | with_reducible exact trivial
    | with_reducible apply tt_pure
    | assumption
    | with_reducible intro _
    | split
    | dsimp only
    | intro _)
theorem tt_extract (x : Value) (n : Nat) : TT P (Instr.extract x n) := by
  unfold Instr.extract
  repeat' (first
    | with_reducible apply tt_stuck
    | with_reducible apply tt_index
    | with_reducible apply tt_bind
    | with_reducible apply tt_ite
    | with_reducible exact trivial
    | with_reducible apply tt_pure
    | assumption
    | with_reducible intro _
    | split
    | dsimp only
    | intro _)
theorem tt_makeInterface (t : TypeId) (x : Value) : TT P (Instr.makeInterface t x) := by
  unfold Instr.makeInterface
  repeat' (first
    | with_reducible apply tt_stuck
    | with_reducible apply tt_underlying
    | with_reducible apply tt_bind
    | with_reducible apply tt_ite
    | with_reducible exact trivial
    | with_reducible apply tt_pure
    | assumption
    | with_reducible intro _
    | split
    | dsimp only
    | intro _)
theorem tt_panicnil  : TT P (Instr.panicnil ) := by
  unfold Instr.panicnil
  repeat' (first
    | with_reducible apply tt_program
    | with_reducible apply tt_sysenv
    | with_reducible apply tt_stuck
    | with_reducible apply tt_extract
    | with_reducible apply tt_bind
    | with_reducible apply tt_ite
    | with_reducible exact trivial
    | with_reducible apply tt_pure
    | assumption
    | with_reducible intro _
    | split
    | dsimp only
    | intro _)
theorem tt_ipanic (x : Value) : TT P (Instr.panic x) := by
  unfold Instr.panic
  repeat' (first
    | with_reducible apply tt_stuck
    | with_reducible apply tt_goPanic
    | with_reducible apply tt_runtimePanic
    | with_reducible apply tt_panicnil
    | with_reducible apply tt_bind
    | with_reducible apply tt_ite
    | with_reducible exact trivial
    | with_reducible apply tt_pure
    | assumption
    | with_reducible intro _
    | split
    | dsimp only
    | intro _)
theorem tt_intArith (o : BinOp) (k : IntKind) (x y : Int) : TT P (Op.intArith o k x y) := by
  unfold Op.intArith
  repeat' (first
    | with_reducible apply tt_stuck
    | with_reducible apply tt_bind
    | with_reducible apply tt_ite
    | with_reducible exact trivial
    | with_reducible apply tt_pure
    | assumption
    | with_reducible intro _
    | split
    | dsimp only
    | intro _)
theorem tt_intDiv (o : BinOp) (k : IntKind) (x y : Int) : TT P (Op.intDiv o k x y) := by
  unfold Op.intDiv
  repeat' (first
    | with_reducible apply tt_stuck
    | with_reducible apply tt_runtimePanic
    | with_reducible apply tt_bind
    | with_reducible apply tt_ite
    | with_reducible exact trivial
    | with_reducible apply tt_pure
    | assumption
    | with_reducible intro _
    | split
    | dsimp only
    | intro _)
theorem tt_intBits (o : BinOp) (k : IntKind) (x y : Int) : TT P (Op.intBits o k x y) := by
  unfold Op.intBits
  cases o <;> exact trivial
theorem tt_intCmp (o : BinOp) (x y : Int) : TT P (Op.intCmp o x y) := by
  unfold Op.intCmp
  repeat' (first
    | with_reducible apply tt_stuck
    | with_reducible apply tt_bind
    | with_reducible apply tt_ite
    | with_reducible exact trivial
    | with_reducible apply tt_pure
    | assumption
    | with_reducible intro _
    | split
    | dsimp only
    | intro _)
theorem tt_shift (o : BinOp) (k : IntKind) (x : Int) (j : IntKind) (y : Int) : TT P (Op.shift o k x j y) := by
  unfold Op.shift
  dsimp only
  repeat' (first
    | with_reducible apply tt_stuck
    | with_reducible apply tt_runtimePanic
    | with_reducible apply tt_bind
    | with_reducible apply tt_ite
    | with_reducible exact trivial
    | with_reducible apply tt_pure
    | assumption
    | with_reducible intro _
    | split
    | dsimp only
    | intro _)
theorem tt_floatArith (o : BinOp) (k : FloatKind) (x y : Nat) : TT P (Op.floatArith o k x y) := by
  unfold Op.floatArith
  repeat' (first
    | with_reducible apply tt_choose
    | with_reducible apply tt_stuck
    | with_reducible apply tt_bind
    | with_reducible apply tt_ite
    | with_reducible exact trivial
    | with_reducible apply tt_pure
    | assumption
    | with_reducible intro _
    | split
    | dsimp only
    | intro _)
theorem tt_floatCmp (o : BinOp) (k : FloatKind) (x y : Nat) : TT P (Op.floatCmp o k x y) := by
  unfold Op.floatCmp
  dsimp only
  repeat' (first
    | with_reducible apply tt_stuck
    | with_reducible apply tt_bind
    | with_reducible apply tt_ite
    | with_reducible exact trivial
    | with_reducible apply tt_pure
    | assumption
    | with_reducible intro _
    | split
    | dsimp only
    | intro _)
theorem tt_floatToFloat (o : FloatKind) (x : Nat) (k : FloatKind) : TT P (Conv.floatToFloat o x k) := by
  unfold Conv.floatToFloat
  dsimp only
  repeat' (first
    | with_reducible apply tt_choose
    | with_reducible apply tt_bind
    | with_reducible apply tt_ite
    | with_reducible exact trivial
    | with_reducible apply tt_pure
    | assumption
    | with_reducible intro _
    | split
    | dsimp only
    | intro _)
theorem tt_carith (o : BinOp) (k : FloatKind) (x y : Nat) : TT P (Op.Complex.arith o k x y) := by
  unfold Op.Complex.arith
  repeat' (first
    | with_reducible apply tt_stuck
    | with_reducible apply tt_floatArith
    | with_reducible apply tt_bind
    | with_reducible apply tt_ite
    | with_reducible exact trivial
    | with_reducible apply tt_pure
    | assumption
    | with_reducible intro _
    | split
    | dsimp only
    | intro _)
theorem tt_ccmp (o : BinOp) (k : FloatKind) (x y : Nat) : TT P (Op.Complex.cmp o k x y) := by
  unfold Op.Complex.cmp
  repeat' (first
    | with_reducible apply tt_asBool
    | with_reducible apply tt_floatCmp
    | with_reducible apply tt_bind
    | with_reducible apply tt_ite
    | with_reducible exact trivial
    | with_reducible apply tt_pure
    | assumption
    | with_reducible intro _
    | split
    | dsimp only
    | intro _)
theorem tt_cconv (o : FloatKind) (x : Nat) (k : FloatKind) : TT P (Op.Complex.conv o x k) := by
  unfold Op.Complex.conv
  repeat' (first
    | with_reducible apply tt_stuck
    | with_reducible apply tt_floatToFloat
    | with_reducible apply tt_bind
    | with_reducible apply tt_ite
    | with_reducible exact trivial
    | with_reducible apply tt_pure
    | assumption
    | with_reducible intro _
    | split
    | dsimp only
    | intro _)
theorem tt_cadd (x y : Nat) : TT P (Op.Complex.add x y) := tt_carith _ _ _ _
theorem tt_csub (x y : Nat) : TT P (Op.Complex.sub x y) := tt_carith _ _ _ _
theorem tt_cmul (x y : Nat) : TT P (Op.Complex.mul x y) := tt_carith _ _ _ _
theorem tt_cquo (x y : Nat) : TT P (Op.Complex.quo x y) := tt_carith _ _ _ _
theorem tt_cproduct (a b c d : Nat) : TT P (Op.Complex.product a b c d) := by
  unfold Op.Complex.product
  repeat' (first
    | with_reducible apply tt_cadd
    | with_reducible apply tt_csub
    | with_reducible apply tt_cmul
    | with_reducible apply tt_bind
    | with_reducible apply tt_ite
    | with_reducible exact trivial
    | with_reducible apply tt_pure
    | assumption
    | with_reducible intro _
    | split
    | dsimp only
    | intro _)
theorem tt_ccorrected (s a b c d : Nat) : TT P (Op.Complex.corrected s a b c d) := by
  unfold Op.Complex.corrected
  repeat' (first
    | with_reducible apply tt_cadd
    | with_reducible apply tt_csub
    | with_reducible apply tt_cmul
    | with_reducible apply tt_bind
    | with_reducible apply tt_ite
    | with_reducible exact trivial
    | with_reducible apply tt_pure
    | assumption
    | with_reducible intro _
    | split
    | dsimp only
    | intro _)
theorem tt_cquotient (a b c d : Nat) : TT P (Op.Complex.quotient a b c d) := by
  unfold Op.Complex.quotient
  repeat' (first
    | with_reducible apply tt_ccmp
    | with_reducible apply tt_cadd
    | with_reducible apply tt_csub
    | with_reducible apply tt_cmul
    | with_reducible apply tt_cquo
    | with_reducible apply tt_ccorrected
    | with_reducible apply tt_bind
    | with_reducible apply tt_ite
    | with_reducible exact trivial
    | with_reducible apply tt_pure
    | assumption
    | with_reducible intro _
    | split
    | dsimp only
    | intro _)
theorem tt_complexOp (o : BinOp) (k : FloatKind) (a b c d : Nat) : TT P (Op.complexOp o k a b c d) := by
  unfold Op.complexOp
  repeat' (first
    | with_reducible apply tt_stuck
    | with_reducible apply tt_carith
    | with_reducible apply tt_ccmp
    | with_reducible apply tt_cconv
    | with_reducible apply tt_cadd
    | with_reducible apply tt_csub
    | with_reducible apply tt_cmul
    | with_reducible apply tt_cquo
    | with_reducible apply tt_cproduct
    | with_reducible apply tt_cquotient
    | with_reducible apply tt_bind
    | with_reducible apply tt_ite
    | with_reducible exact trivial
    | with_reducible apply tt_pure
    | assumption
    | with_reducible intro _
    | split
    | dsimp only
    | intro _)
theorem tt_stringOp (o : BinOp) (x y : ByteArray) : TT P (Op.stringOp o x y) := by
  unfold Op.stringOp
  dsimp only
  repeat' (first
    | with_reducible apply tt_stuck
    | with_reducible apply tt_unsupported
    | with_reducible apply tt_cadd
    | with_reducible apply tt_bind
    | with_reducible apply tt_ite
    | with_reducible exact trivial
    | with_reducible apply tt_pure
    | assumption
    | with_reducible intro _
    | split
    | dsimp only
    | intro _)
theorem tt_equalIn (d : Nat) (t : TypeId) (x y : Value) : TT P (Op.equalIn d t x y) := by
  induction d generalizing t x y with
  | zero =>
    unfold Op.equalIn
    repeat' (first
      | with_reducible apply tt_choose
      | with_reducible apply tt_program
      | with_reducible apply tt_stuck
      | with_reducible apply tt_unsupported
      | with_reducible apply tt_typeInfo
      | with_reducible apply tt_underlying
      | with_reducible apply tt_sizeOf
      | with_reducible apply tt_behindNumber
      | with_reducible apply tt_sameAddr
      | with_reducible apply tt_samePointer
      | with_reducible apply tt_typeStr
      | with_reducible apply tt_part
      | with_reducible apply tt_runtimePanic
      | with_reducible apply tt_byteOf
      | with_reducible apply tt_slice
      | with_reducible apply tt_arrFor
      | with_reducible apply tt_rangeFor
      | with_reducible apply tt_listFor
      | with_reducible apply tt_bind
      | with_reducible apply tt_ite
      | with_reducible exact trivial
      | with_reducible apply tt_pure
      | assumption
      | with_reducible intro _
      | split
      | dsimp only
      | intro _)
  | succ d ih =>
    unfold Op.equalIn
    repeat' (first
      | with_reducible apply tt_choose
      | with_reducible apply tt_program
      | with_reducible apply tt_stuck
      | with_reducible apply tt_unsupported
      | with_reducible apply tt_typeInfo
      | with_reducible apply tt_underlying
      | with_reducible apply tt_sizeOf
      | with_reducible apply tt_behindNumber
      | with_reducible apply tt_sameAddr
      | with_reducible apply tt_samePointer
      | with_reducible apply tt_typeStr
      | with_reducible apply tt_part
      | with_reducible apply tt_runtimePanic
      | with_reducible apply tt_byteOf
      | with_reducible apply tt_slice
      | with_reducible apply ih
      | with_reducible apply tt_arrFor
      | with_reducible apply tt_rangeFor
      | with_reducible apply tt_listFor
      | with_reducible apply tt_bind
      | with_reducible apply tt_ite
      | with_reducible exact trivial
      | with_reducible apply tt_pure
      | assumption
      | with_reducible intro _
      | split
      | dsimp only
      | intro _)
theorem tt_equal (t : TypeId) (x y : Value) : TT P (Op.equal t x y) := by
  unfold Op.equal
  repeat' (first
    | with_reducible apply tt_equalIn
    | with_reducible apply tt_bind
    | with_reducible apply tt_ite
    | with_reducible exact trivial
    | with_reducible apply tt_pure
    | assumption
    | with_reducible intro _
    | split
    | dsimp only
    | intro _)
theorem tt_eqGuardIn (d : Nat) (t : TypeId) (x y : Value) : TT P (Op.eqGuardIn d t x y) := by
  induction d generalizing t x y with
  | zero =>
    unfold Op.eqGuardIn
    repeat' (first
      | with_reducible apply tt_unsupported
      | with_reducible apply tt_underlying
      | with_reducible apply tt_sizeOf
      | with_reducible apply tt_part
      | with_reducible apply tt_arrFor
      | with_reducible apply tt_rangeFor
      | with_reducible apply tt_listFor
      | with_reducible apply tt_bind
      | with_reducible apply tt_ite
      | with_reducible exact trivial
      | with_reducible apply tt_pure
      | assumption
      | with_reducible intro _
      | split
      | dsimp only
      | intro _)
  | succ d ih =>
    unfold Op.eqGuardIn
    repeat' (first
      | with_reducible apply tt_unsupported
      | with_reducible apply tt_underlying
      | with_reducible apply tt_sizeOf
      | with_reducible apply tt_part
      | with_reducible apply ih
      | with_reducible apply tt_arrFor
      | with_reducible apply tt_rangeFor
      | with_reducible apply tt_listFor
      | with_reducible apply tt_bind
      | with_reducible apply tt_ite
      | with_reducible exact trivial
      | with_reducible apply tt_pure
      | assumption
      | with_reducible intro _
      | split
      | dsimp only
      | intro _)
theorem tt_twoPlaces (a b : Addr) : TT P (Op.twoPlaces a b) := by
  unfold Op.twoPlaces
  repeat' (first
    | with_reducible apply tt_program
    | with_reducible apply tt_unsupported
    | with_reducible apply tt_byteOf
    | with_reducible apply tt_bind
    | with_reducible apply tt_ite
    | with_reducible exact trivial
    | with_reducible apply tt_pure
    | assumption
    | with_reducible intro _
    | split
    | dsimp only
    | intro _)
theorem tt_addrSub (k : IntKind) (a b : Addr) : TT P (Op.addrSub k a b) := by
  unfold Op.addrSub
  repeat' (first
    | with_reducible apply tt_twoPlaces
    | with_reducible apply tt_bind
    | with_reducible apply tt_ite
    | with_reducible exact trivial
    | with_reducible apply tt_pure
    | assumption
    | with_reducible intro _
    | split
    | dsimp only
    | intro _)
theorem tt_addrCmp (o : BinOp) (a b : Addr) : TT P (Op.addrCmp o a b) := by
  unfold Op.addrCmp
  repeat' (first
    | with_reducible apply tt_unsupported
    | with_reducible apply tt_twoPlaces
    | with_reducible apply tt_bind
    | with_reducible apply tt_ite
    | with_reducible exact trivial
    | with_reducible apply tt_pure
    | assumption
    | with_reducible intro _
    | split
    | dsimp only
    | intro _)
theorem tt_addrMod (k : IntKind) (a : Addr) (n : Int) : TT P (Op.addrMod k a n) := by
  unfold Op.addrMod
  repeat' (first
    | with_reducible apply tt_shape
    | with_reducible apply tt_unsupported
    | with_reducible apply tt_typeInfo
    | with_reducible apply tt_byteOf
    | with_reducible apply tt_bind
    | with_reducible apply tt_ite
    | with_reducible exact trivial
    | with_reducible apply tt_pure
    | assumption
    | with_reducible intro _
    | split
    | dsimp only
    | intro _)
theorem tt_unsafeAdd (x : Array TypeId) (t : TypeId) (a : Array Value) : TT P (Builtin.unsafeAdd_ x t a) := by
  unfold Builtin.unsafeAdd_
  refine tt_addMatch a _ _ ?_ ?_
  repeat' (first
    | with_reducible apply tt_shape
    | with_reducible apply tt_program
    | with_reducible apply tt_stuck
    | with_reducible apply tt_unsupported
    | with_reducible apply tt_viewAt
    | with_reducible apply tt_asInt
    | with_reducible apply tt_bind
    | with_reducible apply tt_ite
    | with_reducible exact trivial
    | with_reducible apply tt_pure
    | assumption
    | with_reducible intro _
    | split
    | dsimp only
    | intro _)
theorem tt_movedNumber (t : TypeId) (x y : Value) : TT P (movedNumber t x y) := by
  unfold movedNumber
  repeat' (first
    | with_reducible apply tt_unsupported
    | with_reducible apply tt_underlying
    | with_reducible apply tt_asNumber
    | with_reducible apply tt_behindNumber
    | with_reducible apply tt_unsafeAdd
    | with_reducible apply tt_bind
    | with_reducible apply tt_ite
    | with_reducible exact trivial
    | with_reducible apply tt_pure
    | assumption
    | with_reducible intro _
    | split
    | dsimp only
    | intro _)
theorem tt_movedPointer (t : TypeId) (x y : Value) : TT P (movedPointer t x y) := by
  unfold movedPointer
  repeat' (first
    | with_reducible apply tt_unsupported
    | with_reducible apply tt_numberAt
    | with_reducible apply tt_unsafeAdd
    | with_reducible apply tt_bind
    | with_reducible apply tt_ite
    | with_reducible exact trivial
    | with_reducible apply tt_pure
    | assumption
    | with_reducible intro _
    | split
    | dsimp only
    | intro _)
theorem tt_eqGuard (o : BinOp) (t : TypeId) (x y : Operand) (a b : Value) : TT P (eqGuard o t x y a b) := by
  unfold eqGuard
  repeat' (first
    | with_reducible apply tt_program
    | with_reducible apply tt_unsupported
    | with_reducible apply tt_part
    | with_reducible apply tt_eqGuardIn
    | with_reducible apply tt_bind
    | with_reducible apply tt_ite
    | with_reducible exact trivial
    | with_reducible apply tt_pure
    | assumption
    | with_reducible intro _
    | split
    | dsimp only
    | intro _)
theorem tt_binOp (o : BinOp) (t : TypeId) (x y : Value) : TT P (Go.binOp o t x y) := by
  unfold Go.binOp
  repeat' (first
    | with_reducible apply tt_stuck
    | with_reducible apply tt_unsupported
    | with_reducible apply tt_underlying
    | with_reducible apply tt_behindNumber
    | with_reducible apply tt_intArith
    | with_reducible apply tt_intDiv
    | with_reducible apply tt_intBits
    | with_reducible apply tt_intCmp
    | with_reducible apply tt_shift
    | with_reducible apply tt_floatArith
    | with_reducible apply tt_floatCmp
    | with_reducible apply tt_cadd
    | with_reducible apply tt_csub
    | with_reducible apply tt_cmul
    | with_reducible apply tt_cquo
    | with_reducible apply tt_complexOp
    | with_reducible apply tt_stringOp
    | with_reducible apply tt_equal
    | with_reducible apply tt_addrSub
    | with_reducible apply tt_addrCmp
    | with_reducible apply tt_addrMod
    | with_reducible apply tt_movedNumber
    | with_reducible apply tt_movedPointer
    | with_reducible apply tt_bind
    | with_reducible apply tt_ite
    | with_reducible exact trivial
    | with_reducible apply tt_pure
    | assumption
    | with_reducible intro _
    | split
    | dsimp only
    | intro _)
theorem tt_unary (o : UnOp) (x : Value) : TT P (Op.unary o x) := by
  unfold Op.unary
  repeat' (first
    | with_reducible apply tt_stuck
    | with_reducible apply tt_unsupported
    | with_reducible apply tt_intArith
    | with_reducible apply tt_intBits
    | with_reducible apply tt_csub
    | with_reducible apply tt_bind
    | with_reducible apply tt_ite
    | with_reducible exact trivial
    | with_reducible apply tt_pure
    | assumption
    | with_reducible intro _
    | split
    | dsimp only
    | intro _)
theorem tt_intToInt (k : IntKind) (x : Int) : TT P (Conv.intToInt k x) := by
  unfold Conv.intToInt
  repeat' (first
    | with_reducible apply tt_bind
    | with_reducible apply tt_ite
    | with_reducible exact trivial
    | with_reducible apply tt_pure
    | assumption
    | with_reducible intro _
    | split
    | dsimp only
    | intro _)
theorem tt_intToFloat (k : FloatKind) (x : Int) : TT P (Conv.intToFloat k x) := by
  unfold Conv.intToFloat
  repeat' (first
    | with_reducible apply tt_bind
    | with_reducible apply tt_ite
    | with_reducible exact trivial
    | with_reducible apply tt_pure
    | assumption
    | with_reducible intro _
    | split
    | dsimp only
    | intro _)
theorem tt_floatToInt (o : FloatKind) (x : Nat) (k : IntKind) : TT P (Conv.floatToInt o x k) := by
  unfold Conv.floatToInt
  dsimp only
  repeat' (first
    | with_reducible apply tt_choose
    | with_reducible apply tt_bind
    | with_reducible apply tt_ite
    | with_reducible exact trivial
    | with_reducible apply tt_pure
    | assumption
    | with_reducible intro _
    | split
    | dsimp only
    | intro _)
theorem tt_complexToComplex (o : FloatKind) (x y : Nat) (k : FloatKind) : TT P (Conv.complexToComplex o x y k) := by
  unfold Conv.complexToComplex
  repeat' (first
    | with_reducible apply tt_stuck
    | with_reducible apply tt_floatToFloat
    | with_reducible apply tt_bind
    | with_reducible apply tt_ite
    | with_reducible exact trivial
    | with_reducible apply tt_pure
    | assumption
    | with_reducible intro _
    | split
    | dsimp only
    | intro _)
theorem tt_intToString (x : Int) : TT P (Conv.intToString x) := by
  unfold Conv.intToString
  repeat' (first
    | with_reducible apply tt_bind
    | with_reducible apply tt_ite
    | with_reducible exact trivial
    | with_reducible apply tt_pure
    | assumption
    | with_reducible intro _
    | split
    | dsimp only
    | intro _)
theorem tt_stringToRunes (t : TypeId) (x : ByteArray) : TT P (Conv.stringToRunes t x) := by
  unfold Conv.stringToRunes
  repeat' (first
    | with_reducible apply tt_choose
    | with_reducible apply tt_newRow
    | with_reducible apply tt_slice
    | with_reducible apply tt_bind
    | with_reducible apply tt_ite
    | with_reducible exact trivial
    | with_reducible apply tt_pure
    | assumption
    | with_reducible intro _
    | split
    | dsimp only
    | intro _)
theorem tt_stringToBytes (t : TypeId) (x : ByteArray) : TT P (Conv.stringToBytes t x) := by
  unfold Conv.stringToBytes
  repeat' (first
    | with_reducible apply tt_choose
    | with_reducible apply tt_markStringish
    | with_reducible apply tt_newRow
    | with_reducible apply tt_slice
    | with_reducible apply tt_bind
    | with_reducible apply tt_ite
    | with_reducible exact trivial
    | with_reducible apply tt_pure
    | assumption
    | with_reducible intro _
    | split
    | dsimp only
    | intro _)
theorem tt_runesToString (x : Value) : TT P (Conv.runesToString x) := by
  unfold Conv.runesToString
  repeat' (first
    | with_reducible apply tt_stuck
    | with_reducible apply tt_loadCells
    | with_reducible apply tt_slice
    | with_reducible apply tt_arrFor
    | with_reducible apply tt_rangeFor
    | with_reducible apply tt_listFor
    | with_reducible apply tt_bind
    | with_reducible apply tt_ite
    | with_reducible exact trivial
    | with_reducible apply tt_pure
    | assumption
    | with_reducible intro _
    | split
    | dsimp only
    | intro _)
theorem tt_bytesToString (x : Value) : TT P (Conv.bytesToString x) := by
  unfold Conv.bytesToString
  repeat' (first
    | with_reducible apply tt_stuck
    | with_reducible apply tt_loadCells
    | with_reducible apply tt_slice
    | with_reducible apply tt_arrFor
    | with_reducible apply tt_rangeFor
    | with_reducible apply tt_listFor
    | with_reducible apply tt_bind
    | with_reducible apply tt_ite
    | with_reducible exact trivial
    | with_reducible apply tt_pure
    | assumption
    | with_reducible intro _
    | split
    | dsimp only
    | intro _)
theorem tt_seenAt (a : Addr) : TT P (Conv.seenAt a) := by
  unfold Conv.seenAt
  repeat' (first
    | with_reducible apply tt_shape
    | with_reducible apply tt_program
    | with_reducible apply tt_unsupported
    | with_reducible apply tt_viewAt
    | with_reducible apply tt_bind
    | with_reducible apply tt_ite
    | with_reducible exact trivial
    | with_reducible apply tt_pure
    | assumption
    | with_reducible intro _
    | split
    | dsimp only
    | intro _)
theorem tt_unsafePointer (s d : TypeId) (x : Value) : TT P (Conv.unsafePointer s d x) := by
  unfold Conv.unsafePointer
  repeat' (first
    | with_reducible apply tt_newObj
    | with_reducible apply tt_shape
    | with_reducible apply tt_program
    | with_reducible apply tt_stuck
    | with_reducible apply tt_unsupported
    | with_reducible apply tt_underlying
    | with_reducible apply tt_sizeOf
    | with_reducible apply tt_cellsIn
    | with_reducible apply tt_asNumber
    | with_reducible apply tt_variablesAt
    | with_reducible apply tt_seenAt
    | with_reducible apply tt_arrFor
    | with_reducible apply tt_rangeFor
    | with_reducible apply tt_listFor
    | with_reducible apply tt_bind
    | with_reducible apply tt_ite
    | with_reducible exact trivial
    | with_reducible apply tt_pure
    | assumption
    | with_reducible intro _
    | split
    | dsimp only
    | intro _)
theorem tt_convert (s d : TypeId) (x : Value) : TT P (Go.convert s d x) := by
  unfold Go.convert
  repeat' (first
    | with_reducible apply tt_load
    | with_reducible apply tt_stuck
    | with_reducible apply tt_unsupported
    | with_reducible apply tt_underlying
    | with_reducible apply tt_markStringish
    | with_reducible apply tt_runtimePanic
    | with_reducible apply tt_slice
    | with_reducible apply tt_extract
    | with_reducible apply tt_floatToFloat
    | with_reducible apply tt_cadd
    | with_reducible apply tt_movedPointer
    | with_reducible apply tt_binOp
    | with_reducible apply tt_intToInt
    | with_reducible apply tt_intToFloat
    | with_reducible apply tt_floatToInt
    | with_reducible apply tt_complexToComplex
    | with_reducible apply tt_intToString
    | with_reducible apply tt_stringToRunes
    | with_reducible apply tt_stringToBytes
    | with_reducible apply tt_runesToString
    | with_reducible apply tt_bytesToString
    | with_reducible apply tt_unsafePointer
    | with_reducible apply tt_bind
    | with_reducible apply tt_ite
    | with_reducible exact trivial
    | with_reducible apply tt_pure
    | assumption
    | with_reducible intro _
    | split
    | dsimp only
    | intro _)
theorem tt_holdsCells (a : Addr) (n : Nat) : TT P (Builtin.holdsCells a n) := by
  unfold Builtin.holdsCells
  repeat' (first
    | with_reducible apply tt_shape
    | with_reducible apply tt_bind
    | with_reducible apply tt_ite
    | with_reducible exact trivial
    | with_reducible apply tt_pure
    | assumption
    | with_reducible intro _
    | split
    | dsimp only
    | intro _)
theorem tt_mayShare (a b c : Nat) (o : Option Addr) (x : Value) : TT P (Builtin.mayShare a b c o x) := by
  unfold Builtin.mayShare
  repeat' (first
    | with_reducible apply tt_frozen
    | with_reducible apply tt_slice
    | with_reducible apply tt_cadd
    | with_reducible apply tt_holdsCells
    | with_reducible apply tt_bind
    | with_reducible apply tt_ite
    | with_reducible exact trivial
    | with_reducible apply tt_pure
    | assumption
    | with_reducible intro _
    | split
    | dsimp only
    | intro _)
theorem tt_lenOf (x : Value) : TT P (Builtin.lenOf x) := by
  unfold Builtin.lenOf
  repeat' (first
    | with_reducible apply tt_stuck
    | with_reducible apply tt_slice
    | with_reducible apply tt_bind
    | with_reducible apply tt_ite
    | with_reducible exact trivial
    | with_reducible apply tt_pure
    | assumption
    | with_reducible intro _
    | split
    | dsimp only
    | intro _)
theorem tt_firstCells (a b : Nat) (x : Value) : TT P (Builtin.firstCells a b x) := by
  unfold Builtin.firstCells
  repeat' (first
    | with_reducible apply tt_stuck
    | with_reducible apply tt_loadCells
    | with_reducible apply tt_slice
    | with_reducible apply tt_extract
    | with_reducible apply tt_bind
    | with_reducible apply tt_ite
    | with_reducible exact trivial
    | with_reducible apply tt_pure
    | assumption
    | with_reducible intro _
    | split
    | dsimp only
    | intro _)
set_option maxHeartbeats 8000000 in
theorem tt_append (x : Array TypeId) (t : TypeId) (a : Array Value) : TT P (Builtin.append_ x t a) := by
  unfold Builtin.append_
  repeat' (first
    | with_reducible apply tt_choose
    | with_reducible apply tt_noRoom
    | with_reducible apply tt_stuck
    | with_reducible apply tt_unsupported
    | with_reducible apply tt_askRoom
    | with_reducible apply tt_typeInfo
    | with_reducible apply tt_underlying
    | with_reducible apply tt_zeroValue
    | with_reducible apply tt_sizeOf
    | with_reducible apply tt_storeCells
    | with_reducible apply tt_newRow
    | with_reducible apply tt_runtimePanic
    | with_reducible apply tt_asInt
    | with_reducible apply tt_slice
    | with_reducible apply tt_cadd
    | with_reducible apply tt_mayShare
    | with_reducible apply tt_lenOf
    | with_reducible apply tt_firstCells
    | with_reducible apply tt_bind
    | with_reducible apply tt_ite
    | with_reducible exact trivial
    | with_reducible apply tt_pure
    | assumption
    | with_reducible intro _
    | split
    | dsimp only
    | intro _)
theorem tt_len (x : Array TypeId) (t : TypeId) (a : Array Value) : TT P (Builtin.len_ x t a) := by
  unfold Builtin.len_
  repeat' (first
    | with_reducible apply tt_getObj
    | with_reducible apply tt_stuck
    | with_reducible apply tt_underlying
    | with_reducible apply tt_slice
    | with_reducible apply tt_bind
    | with_reducible apply tt_ite
    | with_reducible exact trivial
    | with_reducible apply tt_pure
    | assumption
    | with_reducible intro _
    | split
    | dsimp only
    | intro _)
theorem tt_cap (x : Array TypeId) (t : TypeId) (a : Array Value) : TT P (Builtin.cap_ x t a) := by
  unfold Builtin.cap_
  repeat' (first
    | with_reducible apply tt_getObj
    | with_reducible apply tt_stuck
    | with_reducible apply tt_underlying
    | with_reducible apply tt_slice
    | with_reducible apply tt_bind
    | with_reducible apply tt_ite
    | with_reducible exact trivial
    | with_reducible apply tt_pure
    | assumption
    | with_reducible intro _
    | split
    | dsimp only
    | intro _)
theorem tt_copy (x : Array TypeId) (t : TypeId) (a : Array Value) : TT P (Builtin.copy_ x t a) := by
  unfold Builtin.copy_
  repeat' (first
    | with_reducible apply tt_stuck
    | with_reducible apply tt_underlying
    | with_reducible apply tt_sizeOf
    | with_reducible apply tt_storeCells
    | with_reducible apply tt_slice
    | with_reducible apply tt_lenOf
    | with_reducible apply tt_firstCells
    | with_reducible apply tt_bind
    | with_reducible apply tt_ite
    | with_reducible exact trivial
    | with_reducible apply tt_pure
    | assumption
    | with_reducible intro _
    | split
    | dsimp only
    | intro _)
theorem tt_min2 (x y : Value) : TT P (Builtin.min2 x y) := by
  unfold Builtin.min2
  repeat' (first
    | with_reducible apply tt_choose
    | with_reducible apply tt_stuck
    | with_reducible apply tt_unsupported
    | with_reducible apply tt_asBool
    | with_reducible apply tt_stringOp
    | with_reducible apply tt_bind
    | with_reducible apply tt_ite
    | with_reducible exact trivial
    | with_reducible apply tt_pure
    | assumption
    | with_reducible intro _
    | split
    | dsimp only
    | intro _)
theorem tt_min (x : Array TypeId) (t : TypeId) (a : Array Value) : TT P (Builtin.min_ x t a) := by
  unfold Builtin.min_
  repeat' (first
    | with_reducible apply tt_stuck
    | with_reducible apply tt_min2
    | with_reducible apply tt_foldlM
    | with_reducible apply tt_bind
    | with_reducible apply tt_ite
    | with_reducible exact trivial
    | with_reducible apply tt_pure
    | assumption
    | with_reducible intro _
    | split
    | dsimp only
    | intro _)
theorem tt_unsafeSliceData (x : Array TypeId) (t : TypeId) (a : Array Value) : TT P (Builtin.unsafeSliceData_ x t a) := by
  unfold Builtin.unsafeSliceData_
  refine tt_dataMatch a _ _ _ ?_ ?_ ?_
  repeat' (first
    | with_reducible apply tt_newObj
    | with_reducible apply tt_stuck
    | with_reducible apply tt_viewAt
    | with_reducible apply tt_elemOf
    | with_reducible apply tt_slice
    | with_reducible apply tt_bind
    | with_reducible apply tt_ite
    | with_reducible exact trivial
    | with_reducible apply tt_pure
    | assumption
    | with_reducible intro _
    | split
    | dsimp only
    | intro _)
theorem tt_unsafeString (x : Array TypeId) (t : TypeId) (a : Array Value) : TT P (Builtin.unsafeString_ x t a) := by
  unfold Builtin.unsafeString_
  refine tt_strMatch a _ _ ?_ ?_
  repeat' (first
    | with_reducible apply tt_freeze
    | with_reducible apply tt_stuck
    | with_reducible apply tt_unsupported
    | with_reducible apply tt_elemOf
    | with_reducible apply tt_runtimePanic
    | with_reducible apply tt_asInt
    | with_reducible apply tt_variablesAt
    | with_reducible apply tt_loadBytes
    | with_reducible apply tt_unsafePointer
    | with_reducible apply tt_len
    | with_reducible apply tt_bind
    | with_reducible apply tt_ite
    | with_reducible exact trivial
    | with_reducible apply tt_pure
    | assumption
    | with_reducible intro _
    | split
    | dsimp only
    | intro _)
theorem tt_followBlind (l : List FieldStep) (t : TypeId) (x : Option Value) : TT P (Go.followBlind l t x) := by
  induction l generalizing t x with
  | nil =>
    unfold Go.followBlind
    repeat' (first
      | with_reducible apply tt_stuck
      | with_reducible apply tt_underlying
      | with_reducible apply tt_part
      | with_reducible apply tt_index
      | with_reducible apply tt_field
      | with_reducible apply tt_bind
      | with_reducible apply tt_ite
      | with_reducible exact trivial
      | with_reducible apply tt_pure
      | assumption
      | with_reducible intro _
      | split
      | dsimp only
      | intro _)
  | cons s l ih =>
    unfold Go.followBlind
    repeat' (first
      | with_reducible apply tt_stuck
      | with_reducible apply tt_underlying
      | with_reducible apply tt_part
      | with_reducible apply tt_index
      | with_reducible apply tt_field
      | with_reducible apply ih
      | with_reducible apply tt_bind
      | with_reducible apply tt_ite
      | with_reducible exact trivial
      | with_reducible apply tt_pure
      | assumption
      | with_reducible intro _
      | split
      | dsimp only
      | intro _)
theorem tt_nilAhead (n : Nat) (t : TypeId) (v : Value) (s : String) : TT P (Go.nilAhead n t v s) := by
  induction n generalizing t v s with
  | zero =>
    unfold Go.nilAhead
    repeat' (first
      | with_reducible apply tt_stuck
      | with_reducible apply tt_typeInfo
      | with_reducible apply tt_underlying
      | with_reducible apply tt_followBlind
      | with_reducible apply tt_bind
      | with_reducible apply tt_ite
      | with_reducible exact trivial
      | with_reducible apply tt_pure
      | assumption
      | with_reducible intro _
      | split
      | dsimp only
      | intro _)
  | succ n ih =>
    unfold Go.nilAhead
    repeat' (first
      | with_reducible apply tt_stuck
      | with_reducible apply tt_typeInfo
      | with_reducible apply tt_underlying
      | with_reducible apply tt_followBlind
      | with_reducible apply ih
      | with_reducible apply tt_bind
      | with_reducible apply tt_ite
      | with_reducible exact trivial
      | with_reducible apply tt_pure
      | assumption
      | with_reducible intro _
      | split
      | dsimp only
      | intro _)
theorem tt_results (f : Func) (a : Array Value) : TT P (Go.results f a) := by
  unfold Go.results
  repeat' (first
    | with_reducible apply tt_loadVar
    | with_reducible apply tt_asAddr
    | with_reducible apply tt_arrMapM
    | with_reducible apply tt_bind
    | with_reducible apply tt_ite
    | with_reducible exact trivial
    | with_reducible apply tt_pure
    | assumption
    | with_reducible intro _
    | split
    | dsimp only
    | intro _)
end
end Go.Proofs.YtnmlhjigiemfgaaDoor
