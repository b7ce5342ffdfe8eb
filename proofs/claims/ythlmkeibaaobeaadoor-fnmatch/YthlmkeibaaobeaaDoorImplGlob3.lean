/- The contract of impl.cutSet: a set as a closure over its ranges. -/
import Derived.Test.YthlmkeibaaobeaaDoorImplGlob2
import Derived.Test.YthlmkeibaaobeaaDoorByteRow
import Derived.OneCell
import Derived.Laws.OwnMore
namespace Go.Proofs.YthlmkeibaaobeaaDoor
open Go.RowKit

def strN : Value → Nat
  | .string s => s.size
  | _ => 0
/-- The cells of ranges. -/
def rangeVals (ps : List (UInt8 × UInt8)) : List Value := ps.flatMap fun p => [.int .u8 (p.1.toNat : Int), .int .u8 (p.2.toNat : Int)]
theorem rangeVals_snoc (ps : List (UInt8 × UInt8)) (p : UInt8 × UInt8) : rangeVals (ps ++ [p]) = rangeVals ps ++ [.int .u8 (p.1.toNat : Int), .int .u8 (p.2.toNat : Int)] := by unfold rangeVals; simp
theorem rangeVals_at : ∀ (ps : List (UInt8 × UInt8)) (j : Nat) (p : UInt8 × UInt8), ps[j]? = some p → (rangeVals ps)[j * 2]? = some (.int .u8 (p.1.toNat : Int)) ∧ (rangeVals ps)[j * 2 + 1]? = some (.int .u8 (p.2.toNat : Int))
  | [], j, p, h => by simp at h
  | q :: r, 0, p, h => by simp at h; subst h; exact ⟨rfl, rfl⟩
  | q :: r, j + 1, p, h => by
    have := rangeVals_at r j p (by simpa using h)
    rw [show (j + 1) * 2 = j * 2 + 2 by omega]
    exact this
def RangeRow (w : World) (B : Nat) (v : Value) (ps : List (UInt8 × UInt8)) : Prop := w.ownsRow B 83 2 v ps.length (rangeVals ps)
theorem RangeRow.own {w : World} {B : Nat} {v : Value} {ps : List (UInt8 × UInt8)} (h : RangeRow w B v ps) : w.ownsRow B 83 2 v ps.length (rangeVals ps) := h
theorem RangeRow.snoc {w : World} {B : Nat} {v : Value} {ps : List (UInt8 × UInt8)} {p : UInt8 × UInt8} (h : w.ownsRow B 83 2 v (ps.length + 1) (rangeVals ps ++ [.int .u8 (p.1.toNat : Int), .int .u8 (p.2.toNat : Int)])) : RangeRow w B v (ps ++ [p]) := by
  unfold RangeRow
  rw [List.length_append, rangeVals_snoc]
  exact h
theorem RangeRow.on {w w' : World} {B : Nat} {v : Value} {ps : List (UInt8 × UInt8)} (h : RangeRow w B v ps) (hb : Below w.heap.size w w') : RangeRow w' B v ps := owns_on h hb
theorem infoR : (Tryd.prog.info? 83).map (fun i => (i.zero, i.size, i.bytes)) = some (some (.agg #[.int .u8 0, .int .u8 0]), 2, 2) := by kernel_rfl
/-- A box of one cell. -/
def Box (W : World) (b : Nat) (t : TypeId) (v : Value) : Prop := W.heap[b]? = some (.cells #[v] t (0, 0))
theorem Box.cell {W : World} {b : Nat} {t : TypeId} {v : Value} (h : Box W b t v) : W.cell? ⟨b, 0, none⟩ = some v ∧ W.frozen? ⟨b, 0, none⟩ = false := by
  unfold Box at h
  exact ⟨by simp [World.cell?, h], frozen_of_row W b 0 _ _ h⟩
theorem Box.on {W W' : World} {b : Nat} {t : TypeId} {v : Value} (h : Box W b t v) (hb : Below W.heap.size W W') : Box W' b t v := (hb.block b (Array.getElem?_eq_some_iff.1 h).1).trans h
theorem Box.lt {W : World} {b : Nat} {t : TypeId} {v : Value} (h : Box W b t v) : b < W.heap.size := (Array.getElem?_eq_some_iff.1 h).1

/-- What is left to be cut of a set. -/
def contL (acc : List (UInt8 × UInt8)) (l : List UInt8) : Option (List (UInt8 × UInt8) × List UInt8) :=
  if acc ≠ [] ∧ headIs 93 l = true then some (acc, l.drop 1) else (rangesL l.length l).map fun y => (acc ++ y.1, y.2)
theorem contL_start (l : List UInt8) : contL [] l = rangesL l.length l := by
  unfold contL
  rw [if_neg (by simp)]
  cases rangesL l.length l <;> simp
theorem contL_end {acc : List (UInt8 × UInt8)} {l : List UInt8} (h : acc ≠ []) (h2 : headIs 93 l = true) : contL acc l = some (acc, l.drop 1) := if_pos ⟨h, h2⟩
theorem contL_none {acc : List (UInt8 × UInt8)} {l : List UInt8} (h : acc = [] ∨ headIs 93 l = false) (h2 : rangeL l = none) : contL acc l = none := by
  unfold contL
  rw [if_neg (by rintro ⟨g1, g2⟩; rcases h with h | h; exact g1 h; rw [h] at g2; cases g2)]
  cases l with
  | nil => rfl
  | cons c r => rw [List.length_cons, rangesL, h2]; rfl
theorem contL_step {acc : List (UInt8 × UInt8)} {l : List UInt8} {x : UInt8 × UInt8} {r : List UInt8} (h : acc = [] ∨ headIs 93 l = false) (h2 : rangeL l = some (x, r)) : contL acc l = contL (acc ++ [x]) r := by
  have hl : r.length < l.length := (rangeL_facts true (.inl rfl) h2).1
  obtain ⟨k, hk⟩ : ∃ k, l.length = k + 1 := ⟨l.length - 1, by omega⟩
  unfold contL
  rw [if_neg (by rintro ⟨g1, g2⟩; rcases h with h | h; exact g1 h; rw [h] at g2; cases g2), hk, rangesL, h2]
  simp only []
  cases h93 : headIs 93 r with
  | true => simp
  | false =>
    rw [rangesL_eq k r false (by omega) (.inr h93), rangesL_eq r.length r false (Nat.le_refl _) (.inr h93)]
    simp [Option.map_map]
    rfl

/-- A set's closure: over the box of its ranges and that of its turn. -/
def ClosAt (W : World) (B : Nat) (t : Bool) (rs : List (UInt8 × UInt8)) (v : Value) : Prop :=
  ∃ (n1 n2 : Nat) (sv : Value), v = .func (.func 59) #[] #[.pointer (some ⟨n2, 0, none⟩), .pointer (some ⟨n1, 0, none⟩)] ∧ B ≤ n1 ∧ B ≤ n2 ∧ Box W n1 4 (.bool t) ∧ Box W n2 81 sv ∧ RangeRow W B sv rs
theorem ClosAt.on {W W' : World} {B : Nat} {t : Bool} {rs : List (UInt8 × UInt8)} {v : Value} (h : ClosAt W B t rs v) (hb : Below W.heap.size W W') : ClosAt W' B t rs v := by
  obtain ⟨n1, n2, sv, h1, h2, h3, h4, h5, h6⟩ := h
  exact ⟨n1, n2, sv, h1, h2, h3, h4.on hb, h5.on hb, h6.on hb⟩
theorem ClosAt.mono {W : World} {B B' : Nat} {t : Bool} {rs : List (UInt8 × UInt8)} {v : Value} (h : ClosAt W B t rs v) (hB : B' ≤ B) : ClosAt W B' t rs v := by
  obtain ⟨n1, n2, sv, h1, h2, h3, h4, h5, h6⟩ := h
  refine ⟨n1, n2, sv, h1, by omega, by omega, h4, h5, ?_⟩
  refine ⟨h6.1, ?_⟩
  rcases h6.2 with h | ⟨g, cap, cur, hv, hb, rest⟩
  · exact .inl h
  · exact .inr ⟨g, cap, cur, hv, by omega, rest⟩
theorem cutBang (l : ByteArray) (W : World) : Calls Tryd.prog 29 #[.string l, .string ⟨#[33]⟩] W fun e w' => e = .returned (.tuple #[.string (strOf (setB l.data.toList)), .bool (headIs 33 l.data.toList)]) ∧ w' = W := by
  refine (Tryd.strings_CutPrefix l ⟨#[33]⟩ W).mono fun e w' he => ?_
  rw [show (⟨#[33]⟩ : ByteArray).data.toList = [33] from rfl, trim_is, has_is] at he
  exact he
/-- The boxes of cutSet. -/
structure SetAt (w W : World) (t : Bool) (acc : List (UInt8 × UInt8)) (v : Value) : Prop where
  b0 : Box W w.heap.size 4 (.bool t)
  b1 : Box W (w.heap.size + 1) 81 v
  row : RangeRow W (w.heap.size + 2) v acc
  bel : Below w.heap.size w W
theorem SetAt.on {w W W' : World} {t : Bool} {acc : List (UInt8 × UInt8)} {v : Value} (h : SetAt w W t acc v) (hb : Below W.heap.size W W') : SetAt w W' t acc v :=
  ⟨h.b0.on hb, h.b1.on hb, h.row.on hb, h.bel.trans (hb.mono h.bel.size)⟩
theorem SetAt.start (w : World) (t : Bool) : SetAt w ((w.alloc (.cells #[.bool t] 4)).alloc (.cells #[.slice none 0 0] 81)) t [] (.slice none 0 0) := by
  refine ⟨?_, ?_, World.ownsRow_nil _ _ _ _, ((Below.refl _ _).alloc (Nat.le_refl _) _).alloc (by simp) _⟩
  · unfold Box
    rw [Below.heap_alloc _ _ _ (by simp)]
    exact heap_alloc_new w _
  · have := heap_alloc_new (w.alloc (.cells #[.bool t] 4)) (.cells #[.slice none 0 0] 81)
    simpa [Box] using this
/-- The ranges grow by one, and are stored. -/
theorem SetAt.more {w W W1 : World} {t : Bool} {acc : List (UInt8 × UInt8)} {v v' : Value} {x : UInt8 × UInt8} (h : SetAt w W t acc v) (hg : W.grownBy W1 v.ownBlock) (hown : W1.ownsRow (w.heap.size + 2) 83 2 v' (acc.length + 1) (rangeVals acc ++ [.int .u8 (x.1.toNat : Int), .int .u8 (x.2.toNat : Int)])) :
    Box W1 (w.heap.size + 1) 81 v ∧ SetAt w (W1.setCell ⟨w.heap.size + 1, 0, none⟩ v') t (acc ++ [x]) v' := by
  have hn : ∀ k, k < w.heap.size + 2 → v.ownBlock ≠ some k := fun k hk e => by
    have := (World.ownsRow.lt h.row.own k e).1; omega
  have k0 : Box W1 w.heap.size 4 (.bool t) := (hg.block _ h.b0.lt (fun e => hn _ (by omega) e.symm)).trans h.b0
  have k1 : Box W1 (w.heap.size + 1) 81 v := (hg.block _ h.b1.lt (fun e => hn _ (by omega) e.symm)).trans h.b1
  refine ⟨k1, ?_, one_setCell k1, ?_, ?_⟩
  · unfold Box at k0 ⊢
    rw [Below.heap_setCell _ _ _ _ (by simp)]
    exact k0
  · exact ownsRow_setCell_below (RangeRow.snoc hown) (by simp) _
  · exact (h.bel.grown hg h.bel.size (fun k e => by have := (World.ownsRow.lt h.row.own k e).1; omega)).setCell (by simp) _
end Go.Proofs.YthlmkeibaaobeaaDoor
