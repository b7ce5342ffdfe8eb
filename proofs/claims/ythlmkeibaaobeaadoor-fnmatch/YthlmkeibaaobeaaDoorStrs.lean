/- Lists of texts of the call's own, and contracts of the laws' helpers on them: eqStringS, markText, markStringS, heldStringS. -/
import Derived.Test.YthlmkeibaaobeaaDoorDecText
import Derived.OwnWalk
import Derived.Laws.OwnMore
import Derived.Laws.AppendOwn
import Derived.Laws.IdiomStrings
import Derived.Lib.QuietBelow
import Derived.Maps.AppendAt
namespace Go.Proofs.YthlmkeibaaobeaaDoor
open Go.RowKit

/-- The slice v, whose row lies from block B on, holds the texts ls. -/
def Strs (w : World) (B : Nat) (v : Value) (ls : List (List UInt8)) : Prop :=
  w.ownsRow B 9 1 v ls.length (ls.map fun l => Value.string (strOf l))

theorem Strs.nil (w : World) (B : Nat) : Strs w B (.slice none 0 0) [] := World.ownsRow_nil _ _ _ _
theorem Strs.form {w : World} {B : Nat} {v : Value} {ls : List (List UInt8)} (h : Strs w B v ls) :
    (v = .slice none 0 0 ∧ ls = []) ∨ ∃ g cap, v = .slice (some ⟨g, 0, none⟩) ls.length cap ∧ B ≤ g ∧ g < w.heap.size ∧ (∀ j (hj : j < ls.length), w.cell? ⟨g, j, none⟩ = some (.string (strOf ls[j]))) ∧ (∀ j, w.frozen? ⟨g, j, none⟩ = false) ∧ ls.length ≤ cap ∧ cap ≤ maxLen := by
  have h' := h
  rcases h.2 with ⟨hv, hn⟩ | ⟨g, cap, cur, hv, hb, hg, hc, hm, hs, ht⟩
  · exact .inl ⟨hv, List.eq_nil_of_length_eq_zero hn⟩
  · subst hv
    refine .inr ⟨g, cap, rfl, hb, (Array.getElem?_eq_some_iff.1 hg).1, fun j hj => ?_, fun j => World.ownsRow.frozenAt h' j, hc, hm⟩
    rw [World.ownsRow.cellAt h' j (by omega), List.getElem?_map, List.getElem?_eq_getElem hj]; rfl
theorem Strs.below {w w' : World} {B C : Nat} {v : Value} {ls : List (List UInt8)} (h : Strs w B v ls) (hb : Below C w w') (hC : v.ownBlock = none ∨ ∃ g, v.ownBlock = some g ∧ g < C) : Strs w' B v ls := by
  unfold Strs at *
  refine ⟨h.1, ?_⟩
  rcases h.2 with hn | ⟨g, cap, cur, hv, hb2, hg, rest⟩
  · exact .inl hn
  · refine .inr ⟨g, cap, cur, hv, hb2, ?_, rest⟩
    rcases hC with hC | ⟨g', hg', hlt⟩
    · subst hv; simp [Value.ownBlock] at hC
    · subst hv
      simp [Value.ownBlock] at hg'
      subst hg'
      rw [hb.block _ hlt]; exact hg
/-- A row stands where nothing of the old blocks turns. -/
theorem Strs.on {w w' : World} {B : Nat} {v : Value} {ls : List (List UInt8)} (h : Strs w B v ls) (hb : Below w.heap.size w w') : Strs w' B v ls := by
  refine h.below hb ?_
  rcases h.form with ⟨rfl, _⟩ | ⟨g, cap, rfl, _, hlt, _⟩
  · exact .inl rfl
  · exact .inr ⟨g, rfl, hlt⟩

theorem Strs.own {w : World} {B : Nat} {v : Value} {ls : List (List UInt8)} (h : Strs w B v ls) : w.ownsRow B 9 1 v ls.length (ls.map fun l => Value.string (strOf l)) := h
/-- Behind 'append(v, l)'. -/
theorem Strs.snoc {w : World} {B : Nat} {v : Value} {ls : List (List UInt8)} {l : List UInt8} {b : ByteArray} (hb : b = strOf l) (h : w.ownsRow B 9 1 v (ls.length + 1) ((ls.map fun l => Value.string (strOf l)) ++ [.string b])) : Strs w B v (ls ++ [l]) := by
  subst hb
  unfold Strs
  rw [List.length_append, List.map_append]
  exact h
theorem Strs.grown {w w0 w1 : World} {B : Nat} {v : Value} {ls : List (List UInt8)} {o : Obj} (h : Strs w B v ls) (hb : Below B w0 w) (hB : B ≤ w.heap.size) (hg : (w.alloc o).grownBy w1 v.ownBlock) : Below B w0 w1 :=
  (hb.alloc hB o).grown hg (by simp; omega) (fun k e => (World.ownsRow.lt h k e).1)





end Go.Proofs.YthlmkeibaaobeaaDoor
