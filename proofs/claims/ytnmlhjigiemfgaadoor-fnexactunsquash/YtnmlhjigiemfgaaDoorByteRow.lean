/- A row of bytes of the call's own (Words has its own copy: never import both). -/
import Derived.Test.YtnmlhjigiemfgaaDoorAppendStr
import Derived.Test.YtnmlhjigiemfgaaDoorDecText
import Derived.Maps.AppendAt
namespace Go.Proofs.YtnmlhjigiemfgaaDoor
open Go.RowKit

theorem owns_on {w w' : World} {B : Nat} {e : TypeId} {size : Nat} {v : Value} {n : Nat} {xs : List Value} (h : w.ownsRow B e size v n xs) (hb : Below w.heap.size w w') : w'.ownsRow B e size v n xs := by
  refine h.kept (row := none) ⟨hb.os, hb.tape, hb.output, hb.size, fun k hk _ => hb.block k hk⟩ ?_
  rcases h.2 with ⟨rfl, _⟩ | ⟨g, cap, cur, rfl, _⟩
  · exact .inl rfl
  · exact .inr (by simp [Value.ownBlock])
theorem owns_drew {w : World} {B : Nat} {e : TypeId} {size : Nat} {v : Value} {n : Nat} {xs : List Value} (h : w.ownsRow B e size v n xs) (k : Nat) : (w.drewN k).ownsRow B e size v n xs := h

/-- The bytes of a text as cells. -/
def byteVals (l : List UInt8) : List Value := l.map fun c => Value.int .u8 (c.toNat : Int)
theorem byteCells_str (l : List UInt8) : byteCells (strOf l) = byteVals l := by unfold byteCells byteVals; rw [strOf_data]
/-- The slice v, whose row lies from block B on, holds the bytes l. -/
def Bytes (w : World) (B : Nat) (v : Value) (l : List UInt8) : Prop := w.ownsRow B 5 1 v l.length (byteVals l)
theorem Bytes.own {w : World} {B : Nat} {v : Value} {l : List UInt8} (h : Bytes w B v l) : w.ownsRow B 5 1 v l.length (byteVals l) := h
theorem Bytes.on {w w' : World} {B : Nat} {v : Value} {l : List UInt8} (h : Bytes w B v l) (hb : Below w.heap.size w w') : Bytes w' B v l := owns_on h hb
theorem Bytes.snoc {w : World} {B : Nat} {v : Value} {l : List UInt8} {c : UInt8} (h : w.ownsRow B 5 1 v (l.length + 1) (byteVals l ++ [.int .u8 (c.toNat : Int)])) : Bytes w B v (l ++ [c]) := by
  unfold Bytes byteVals at *
  rw [List.length_append, List.map_append]
  exact h
theorem Bytes.more {w : World} {B : Nat} {v : Value} {l m : List UInt8} (h : w.ownsRow B 5 1 v (l.length + (strOf m).size) (byteVals l ++ byteCells (strOf m))) : Bytes w B v (l ++ m) := by
  rw [byteCells_str, strOf_size] at h
  unfold Bytes byteVals at *
  rw [List.length_append, List.map_append]
  exact h
theorem infoB : (Tryd.prog.info? 5).map (fun i => (i.zero, i.size, i.bytes)) = some (some (.int .u8 0), 1, 1) := by kernel_rfl
theorem Bytes.shape {w : World} {B : Nat} {v : Value} {l : List UInt8} (h : Bytes w B v l) : (v = .slice none 0 0 ∧ l = []) ∨ ∃ g cap cur, v = .slice (some ⟨g, 0, none⟩) l.length cap ∧ B ≤ g ∧ w.heap[g]? = some (.cells cur 5 (0, 0)) := by
  rcases h.2 with ⟨hv, hn⟩ | ⟨g, cap, cur, hv, hb, hg, _⟩
  · exact .inl ⟨hv, List.eq_nil_of_length_eq_zero hn⟩
  · exact .inr ⟨g, cap, cur, hv, hb, hg⟩
/-- string(v). -/
theorem conv_bytes {w : World} {B : Nat} {v : Value} {l : List UInt8} (h : Bytes w B v l) :
    (convert 22 9 v).run Tryd.prog w = .ok (.string (strOf l)) w := by
  rcases h.2 with ⟨hv, hn⟩ | ⟨g, cap, cur, hv, hb, hg, _⟩
  · obtain rfl := List.eq_nil_of_length_eq_zero hn
    subst hv
    rw [run_convert_bytes_string w 22 9 5 none 0 0 Tryd.underlying22 Tryd.underlying5 Tryd.underlying9]
    rfl
  · subst hv
    exact run_convert_bytes_back (P := Tryd.prog) w 22 9 5 ⟨g, 0, none⟩ cap l Tryd.underlying22 Tryd.underlying5 Tryd.underlying9 (fun j hj => by
      have := h.own.cells (g := g) rfl j (.int .u8 (l[j].toNat : Int)) (by simp [byteVals, hj])
      exact this)
theorem Bytes.grown {w w0 w1 : World} {B : Nat} {v : Value} {l : List UInt8} {o : Obj} (h : Bytes w B v l) (hb : Below B w0 w) (hB : B ≤ w.heap.size) (hg : (w.alloc o).grownBy w1 v.ownBlock) : Below B w0 w1 :=
  (hb.alloc hB o).grown hg (by simp; omega) (fun k e => (World.ownsRow.lt h k e).1)
theorem Bytes.grown0 {w w0 w1 : World} {B : Nat} {v : Value} {l : List UInt8} (h : Bytes w B v l) (hb : Below B w0 w) (hB : B ≤ w.heap.size) (hg : w.grownBy w1 v.ownBlock) : Below B w0 w1 :=
  hb.grown hg hB (fun k e => (World.ownsRow.lt h k e).1)
end Go.Proofs.YtnmlhjigiemfgaaDoor
