/- A row of bytes of the call's own (Words has its own copy: never import both). The contract of impl.cutSet: a set as a closure over its ranges. -/
import Derived.Test.YtipepbnmllbonaaGreatDoorM16
import Derived.Test.YtipepbnmllbonaaGreatDoorM3
import Derived.Maps.AppendAt
import Derived.OneCell
import Derived.Laws.OwnMore
namespace Go.Proofs.YtipepbnmllbonaaGreatDoor
open Go.RowKit

theorem owns_on {w w' : World} {B : Nat} {e : TypeId} {size : Nat} {v : Value} {n : Nat} {xs : List Value} (h : w.ownsRow B e size v n xs) (hb : Below w.heap.size w w') : w'.ownsRow B e size v n xs := by
  refine h.kept (row := none) ⟨hb.os, hb.tape, hb.output, hb.size, fun k hk _ => hb.block k hk⟩ ?_
  rcases h.2 with ⟨rfl, _⟩ | ⟨g, cap, cur, rfl, _⟩
  · exact .inl rfl
  · exact .inr (by simp [Value.ownBlock])
theorem owns_drew {w : World} {B : Nat} {e : TypeId} {size : Nat} {v : Value} {n : Nat} {xs : List Value} (h : w.ownsRow B e size v n xs) (k : Nat) : (w.drewN k).ownsRow B e size v n xs := h

/-- The bytes of a text as cells. -/
def byteVals (l : List UInt8) : List Value := l.map fun c => Value.int .u8 (c.toNat : Int)
theorem byteCells_str (l : List UInt8) : byteCells (strOf l) = byteVals l := by unfold byteCells byteVals; rw [strOf_data]
/-- The slice v, whose row lies from block B on, holds the bytes l. -/
def Bytes (w : World) (B : Nat) (v : Value) (l : List UInt8) : Prop := w.ownsRow B 5 1 v l.length (byteVals l)
theorem Bytes.own {w : World} {B : Nat} {v : Value} {l : List UInt8} (h : Bytes w B v l) : w.ownsRow B 5 1 v l.length (byteVals l) := h
theorem Bytes.on {w w' : World} {B : Nat} {v : Value} {l : List UInt8} (h : Bytes w B v l) (hb : Below w.heap.size w w') : Bytes w' B v l := owns_on h hb
theorem Bytes.snoc {w : World} {B : Nat} {v : Value} {l : List UInt8} {c : UInt8} (h : w.ownsRow B 5 1 v (l.length + 1) (byteVals l ++ [.int .u8 (c.toNat : Int)])) : Bytes w B v (l ++ [c]) := by
  unfold Bytes byteVals at *
  rw [List.length_append, List.map_append]
  exact h
theorem Bytes.more {w : World} {B : Nat} {v : Value} {l m : List UInt8} (h : w.ownsRow B 5 1 v (l.length + (strOf m).size) (byteVals l ++ byteCells (strOf m))) : Bytes w B v (l ++ m) := by
  rw [byteCells_str, strOf_size] at h
  unfold Bytes byteVals at *
  rw [List.length_append, List.map_append]
  exact h
theorem infoB : (Tryz.prog.info? 5).map (fun i => (i.zero, i.size, i.bytes)) = some (some (.int .u8 0), 1, 1) := by kernel_rfl
theorem Bytes.shape {w : World} {B : Nat} {v : Value} {l : List UInt8} (h : Bytes w B v l) : (v = .slice none 0 0 ∧ l = []) ∨ ∃ g cap cur, v = .slice (some ⟨g, 0, none⟩) l.length cap ∧ B ≤ g ∧ w.heap[g]? = some (.cells cur 5 (0, 0)) := by
  rcases h.2 with ⟨hv, hn⟩ | ⟨g, cap, cur, hv, hb, hg, _⟩
  · exact .inl ⟨hv, List.eq_nil_of_length_eq_zero hn⟩
  · exact .inr ⟨g, cap, cur, hv, hb, hg⟩
/-- string(v). -/
theorem conv_bytes {w : World} {B : Nat} {v : Value} {l : List UInt8} (h : Bytes w B v l) :
    (convert 22 9 v).run Tryz.prog w = .ok (.string (strOf l)) w := by
  rcases h.2 with ⟨hv, hn⟩ | ⟨g, cap, cur, hv, hb, hg, _⟩
  · obtain rfl := List.eq_nil_of_length_eq_zero hn
    subst hv
    rw [run_convert_bytes_string w 22 9 5 none 0 0 Tryz.underlying22 Tryz.underlying5 Tryz.underlying9]
    rfl
  · subst hv
    exact run_convert_bytes_back (P := Tryz.prog) w 22 9 5 ⟨g, 0, none⟩ cap l Tryz.underlying22 Tryz.underlying5 Tryz.underlying9 (fun j hj => by
      have := h.own.cells (g := g) rfl j (.int .u8 (l[j].toNat : Int)) (by simp [byteVals, hj])
      exact this)
theorem Bytes.grown {w w0 w1 : World} {B : Nat} {v : Value} {l : List UInt8} {o : Obj} (h : Bytes w B v l) (hb : Below B w0 w) (hB : B ≤ w.heap.size) (hg : (w.alloc o).grownBy w1 v.ownBlock) : Below B w0 w1 :=
  (hb.alloc hB o).grown hg (by simp; omega) (fun k e => (World.ownsRow.lt h k e).1)
theorem Bytes.grown0 {w w0 w1 : World} {B : Nat} {v : Value} {l : List UInt8} (h : Bytes w B v l) (hb : Below B w0 w) (hB : B ≤ w.heap.size) (hg : w.grownBy w1 v.ownBlock) : Below B w0 w1 :=
  hb.grown hg hB (fun k e => (World.ownsRow.lt h k e).1)
end Go.Proofs.YtipepbnmllbonaaGreatDoor
namespace Go.Proofs.YtipepbnmllbonaaGreatDoor
open Go.RowKit

def strN : Value → Nat
  | .string s => s.size
  | _ => 0
/-- The cells of ranges. -/
def rangeVals (ps : List (UInt8 × UInt8)) : List Value := ps.flatMap fun p => [.int .u8 (p.1.toNat : Int), .int .u8 (p.2.toNat : Int)]
theorem rangeVals_snoc (ps : List (UInt8 × UInt8)) (p : UInt8 × UInt8) : rangeVals (ps ++ [p]) = rangeVals ps ++ [.int .u8 (p.1.toNat : Int), .int .u8 (p.2.toNat : Int)] := by unfold rangeVals; simp
theorem rangeVals_at : ∀ (ps : List (UInt8 × UInt8)) (j : Nat) (p : UInt8 × UInt8), ps[j]? = some p → (rangeVals ps)[j * 2]? = some (.int .u8 (p.1.toNat : Int)) ∧ (rangeVals ps)[j * 2 + 1]? = some (.int .u8 (p.2.toNat : Int))
  | [], j, p, h => by simp at h
  | q :: r, 0, p, h => by simp at h; subst h; exact ⟨rfl, rfl⟩
  | q :: r, j + 1, p, h => by
    have := rangeVals_at r j p (by simpa using h)
    rw [show (j + 1) * 2 = j * 2 + 2 by omega]
    exact this
def RangeRow (w : World) (B : Nat) (v : Value) (ps : List (UInt8 × UInt8)) : Prop := w.ownsRow B 225 2 v ps.length (rangeVals ps)
theorem RangeRow.own {w : World} {B : Nat} {v : Value} {ps : List (UInt8 × UInt8)} (h : RangeRow w B v ps) : w.ownsRow B 225 2 v ps.length (rangeVals ps) := h
theorem RangeRow.snoc {w : World} {B : Nat} {v : Value} {ps : List (UInt8 × UInt8)} {p : UInt8 × UInt8} (h : w.ownsRow B 225 2 v (ps.length + 1) (rangeVals ps ++ [.int .u8 (p.1.toNat : Int), .int .u8 (p.2.toNat : Int)])) : RangeRow w B v (ps ++ [p]) := by
  unfold RangeRow
  rw [List.length_append, rangeVals_snoc]
  exact h
theorem RangeRow.on {w w' : World} {B : Nat} {v : Value} {ps : List (UInt8 × UInt8)} (h : RangeRow w B v ps) (hb : Below w.heap.size w w') : RangeRow w' B v ps := owns_on h hb
theorem infoR : (Tryz.prog.info? 225).map (fun i => (i.zero, i.size, i.bytes)) = some (some (.agg #[.int .u8 0, .int .u8 0]), 2, 2) := by kernel_rfl
/-- A box of one cell. -/
def Box (W : World) (b : Nat) (t : TypeId) (v : Value) : Prop := W.heap[b]? = some (.cells #[v] t (0, 0))
theorem Box.cell {W : World} {b : Nat} {t : TypeId} {v : Value} (h : Box W b t v) : W.cell? ⟨b, 0, none⟩ = some v ∧ W.frozen? ⟨b, 0, none⟩ = false := by
  unfold Box at h
  exact ⟨by simp [World.cell?, h], frozen_of_row W b 0 _ _ h⟩
theorem Box.on {W W' : World} {b : Nat} {t : TypeId} {v : Value} (h : Box W b t v) (hb : Below W.heap.size W W') : Box W' b t v := (hb.block b (Array.getElem?_eq_some_iff.1 h).1).trans h
theorem Box.lt {W : World} {b : Nat} {t : TypeId} {v : Value} (h : Box W b t v) : b < W.heap.size := (Array.getElem?_eq_some_iff.1 h).1

/-- What is left to be cut of a set. -/
def contL (acc : List (UInt8 × UInt8)) (l : List UInt8) : Option (List (UInt8 × UInt8) × List UInt8) :=
  if acc ≠ [] ∧ headIs 93 l = true then some (acc, l.drop 1) else (rangesL l.length l).map fun y => (acc ++ y.1, y.2)
theorem contL_start (l : List UInt8) : contL [] l = rangesL l.length l := by
  unfold contL
  rw [if_neg (by simp)]
  cases rangesL l.length l <;> simp
theorem contL_end {acc : List (UInt8 × UInt8)} {l : List UInt8} (h : acc ≠ []) (h2 : headIs 93 l = true) : contL acc l = some (acc, l.drop 1) := if_pos ⟨h, h2⟩
theorem contL_none {acc : List (UInt8 × UInt8)} {l : List UInt8} (h : acc = [] ∨ headIs 93 l = false) (h2 : rangeL l = none) : contL acc l = none := by
  unfold contL
  rw [if_neg (by rintro ⟨g1, g2⟩; rcases h with h | h; exact g1 h; rw [h] at g2; cases g2)]
  cases l with
  | nil => rfl
  | cons c r => rw [List.length_cons, rangesL, h2]; rfl
theorem contL_step {acc : List (UInt8 × UInt8)} {l : List UInt8} {x : UInt8 × UInt8} {r : List UInt8} (h : acc = [] ∨ headIs 93 l = false) (h2 : rangeL l = some (x, r)) : contL acc l = contL (acc ++ [x]) r := by
  have hl : r.length < l.length := (rangeL_facts true (.inl rfl) h2).1
  obtain ⟨k, hk⟩ : ∃ k, l.length = k + 1 := ⟨l.length - 1, by omega⟩
  unfold contL
  rw [if_neg (by rintro ⟨g1, g2⟩; rcases h with h | h; exact g1 h; rw [h] at g2; cases g2), hk, rangesL, h2]
  simp only []
  cases h93 : headIs 93 r with
  | true => simp
  | false =>
    rw [rangesL_eq k r false (by omega) (.inr h93), rangesL_eq r.length r false (Nat.le_refl _) (.inr h93)]
    simp [Option.map_map]
    rfl

/-- A set's closure: over the box of its ranges and that of its turn. -/
def ClosAt (W : World) (B : Nat) (t : Bool) (rs : List (UInt8 × UInt8)) (v : Value) : Prop :=
  ∃ (n1 n2 : Nat) (sv : Value), v = .func (.func 216) #[] #[.pointer (some ⟨n2, 0, none⟩), .pointer (some ⟨n1, 0, none⟩)] ∧ B ≤ n1 ∧ B ≤ n2 ∧ Box W n1 4 (.bool t) ∧ Box W n2 223 sv ∧ RangeRow W B sv rs
theorem ClosAt.on {W W' : World} {B : Nat} {t : Bool} {rs : List (UInt8 × UInt8)} {v : Value} (h : ClosAt W B t rs v) (hb : Below W.heap.size W W') : ClosAt W' B t rs v := by
  obtain ⟨n1, n2, sv, h1, h2, h3, h4, h5, h6⟩ := h
  exact ⟨n1, n2, sv, h1, h2, h3, h4.on hb, h5.on hb, h6.on hb⟩
theorem ClosAt.mono {W : World} {B B' : Nat} {t : Bool} {rs : List (UInt8 × UInt8)} {v : Value} (h : ClosAt W B t rs v) (hB : B' ≤ B) : ClosAt W B' t rs v := by
  obtain ⟨n1, n2, sv, h1, h2, h3, h4, h5, h6⟩ := h
  refine ⟨n1, n2, sv, h1, by omega, by omega, h4, h5, ?_⟩
  refine ⟨h6.1, ?_⟩
  rcases h6.2 with h | ⟨g, cap, cur, hv, hb, rest⟩
  · exact .inl h
  · exact .inr ⟨g, cap, cur, hv, by omega, rest⟩
theorem cutBang (l : ByteArray) (W : World) : Calls Tryz.prog 76 #[.string l, .string ⟨#[33]⟩] W fun e w' => e = .returned (.tuple #[.string (strOf (setB l.data.toList)), .bool (headIs 33 l.data.toList)]) ∧ w' = W := by
  refine (Tryz.strings_CutPrefix l ⟨#[33]⟩ W).mono fun e w' he => ?_
  rw [show (⟨#[33]⟩ : ByteArray).data.toList = [33] from rfl, trim_is, has_is] at he
  exact he
/-- The boxes of cutSet. -/
structure SetAt (w W : World) (t : Bool) (acc : List (UInt8 × UInt8)) (v : Value) : Prop where
  b0 : Box W w.heap.size 4 (.bool t)
  b1 : Box W (w.heap.size + 1) 223 v
  row : RangeRow W (w.heap.size + 2) v acc
  bel : Below w.heap.size w W
theorem SetAt.on {w W W' : World} {t : Bool} {acc : List (UInt8 × UInt8)} {v : Value} (h : SetAt w W t acc v) (hb : Below W.heap.size W W') : SetAt w W' t acc v :=
  ⟨h.b0.on hb, h.b1.on hb, h.row.on hb, h.bel.trans (hb.mono h.bel.size)⟩
theorem SetAt.start (w : World) (t : Bool) : SetAt w ((w.alloc (.cells #[.bool t] 4)).alloc (.cells #[.slice none 0 0] 223)) t [] (.slice none 0 0) := by
  refine ⟨?_, ?_, World.ownsRow_nil _ _ _ _, ((Below.refl _ _).alloc (Nat.le_refl _) _).alloc (by simp) _⟩
  · unfold Box
    rw [Below.heap_alloc _ _ _ (by simp)]
    exact heap_alloc_new w _
  · have := heap_alloc_new (w.alloc (.cells #[.bool t] 4)) (.cells #[.slice none 0 0] 223)
    simpa [Box] using this
/-- The ranges grow by one, and are stored. -/
theorem SetAt.more {w W W1 : World} {t : Bool} {acc : List (UInt8 × UInt8)} {v v' : Value} {x : UInt8 × UInt8} (h : SetAt w W t acc v) (hg : W.grownBy W1 v.ownBlock) (hown : W1.ownsRow (w.heap.size + 2) 225 2 v' (acc.length + 1) (rangeVals acc ++ [.int .u8 (x.1.toNat : Int), .int .u8 (x.2.toNat : Int)])) :
    Box W1 (w.heap.size + 1) 223 v ∧ SetAt w (W1.setCell ⟨w.heap.size + 1, 0, none⟩ v') t (acc ++ [x]) v' := by
  have hn : ∀ k, k < w.heap.size + 2 → v.ownBlock ≠ some k := fun k hk e => by
    have := (World.ownsRow.lt h.row.own k e).1; omega
  have k0 : Box W1 w.heap.size 4 (.bool t) := (hg.block _ h.b0.lt (fun e => hn _ (by omega) e.symm)).trans h.b0
  have k1 : Box W1 (w.heap.size + 1) 223 v := (hg.block _ h.b1.lt (fun e => hn _ (by omega) e.symm)).trans h.b1
  refine ⟨k1, ?_, one_setCell k1, ?_, ?_⟩
  · unfold Box at k0 ⊢
    rw [Below.heap_setCell _ _ _ _ (by simp)]
    exact k0
  · exact ownsRow_setCell_below (RangeRow.snoc hown) (by simp) _
  · exact (h.bel.grown hg h.bel.size (fun k e => by have := (World.ownsRow.lt h.row.own k e).1; omega)).setCell (by simp) _
end Go.Proofs.YtipepbnmllbonaaGreatDoor
