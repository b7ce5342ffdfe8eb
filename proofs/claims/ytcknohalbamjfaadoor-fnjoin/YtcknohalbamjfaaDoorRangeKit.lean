/- What a loop over an iterator of this program keeps: old blocks, and the places of walks. -/
import Derived.RangeFuncNested
import Derived.RangeFuncBound
import Derived.RangeFuncCalls
import Derived.RangeFuncLeaves
import Derived.RangeFuncBox
import Derived.Shelf.Abstract
import Derived.OwnWalkIn
import Derived.TacticsInMore
import Derived.LoopNIn
import Derived.LoopIn
import Derived.Maps.AppendAt
import Derived.Test.YtcknohalbamjfaaDoorStrs
import Derived.Test.YtcknohalbamjfaaDoorRunes
namespace Go.Proofs.YtcknohalbamjfaaDoor
open Go.RowKit Go.Shelf

/-- What a round that goes on keeps. -/
def Kept (n₀ : Nat) (W W' : World) : Prop := Below n₀ W W' ∧ KeepsWalks W W'
theorem kept_t {n₀ : Nat} {A B C : World} (h : Kept n₀ A B) (k : Kept n₀ B C) : Kept n₀ A C := ⟨h.1.trans k.1, h.2.trans k.2⟩
theorem kept_b {n₀ : Nat} {w : World} (hn : n₀ ≤ w.heap.size) (W : World) (l : Nat) (o o' : Obj) (hl : w.heap.size ≤ l) (h : W.heap[l]? = some o) (hc : o.isCells = false) (hw : o.isWalk = false) : Kept n₀ W (W.putObj l o') :=
  ⟨belowK_b hn W l o o' hl h hc hw, walksK_b (w := w) W l o o' hl h hc hw⟩

theorem grownBy_iterAt (w : World) (k : Nat) (s : ByteArray) (pos : Nat) : w.grownBy (w.iterAt k s pos) (some k) :=
  ⟨rfl, rfl, rfl, by rw [Lib.iterAt_size]; exact Nat.le_refl _, fun i _ hi => Lib.iterAt_other w k i s pos (fun e => hi (by rw [e]))⟩

theorem abides_alloc {β : Type} {B : Nat} {J : β → World → Prop} (h : AbidesFrom B J) {x : β} {W : World} (hs : J x W) (o : Obj) : J x (W.alloc o) :=
  h x W _ none hs (World.grownBy_alloc W o none) (fun r e => by cases e)
theorem abides_iterAt {β : Type} {B : Nat} {J : β → World → Prop} (h : AbidesFrom B J) {x : β} {W : World} (hs : J x W) {k : Nat} {s : ByteArray} {pos : Nat} (pos' : Nat) (hB : B ≤ k) (hk : W.heap[k]? = some (.stringIter s pos)) : J x (W.iterAt k s pos') :=
  h x W _ (some k) hs (grownBy_iterAt W k s pos') (fun r e => by cases e; exact ⟨hB, _, hk, rfl⟩)
theorem cell_iterAt {W : World} {k : Nat} {s : ByteArray} {pos : Nat} {a : Addr} (h : a.block ≠ k) : (W.iterAt k s pos).cell? a = W.cell? a :=
  World.cell?_of_block (Lib.iterAt_other W k a.block s pos h)
end Go.Proofs.YtcknohalbamjfaaDoor
