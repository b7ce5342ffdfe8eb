/- What the table of the months' lengths holds, out of the row's condition on it. -/
import Derived.Test.YthcofpkppienaaaDoorBase
import Derived.Lib.LaidTab
import Derived.LaidSub
import Derived.MakeChecks
import Derived.ChangeVars
namespace Go.Proofs.YthcofpkppienaaaDoor
open Go.RowKit

def monthTab : List Int := [31, 28, 31, 30, 31, 30, 31, 31, 30, 31, 30, 31]
/-- The table of months. -/
structure Tabs (w : World) : Prop where
  mon : Lib.TabIs Tryd.prog w "loop.example/g00704/impl.monthLengths" .i64 monthTab

theorem tabs_of {l : List (String × DataW Unit)} {W : World}
    (hf : (l.filter fun x => x.1 == "loop.example/g00704/impl.monthLengths") = [("loop.example/g00704/impl.monthLengths", Lib.tabData .i64 monthTab)]) (h : laidMetH Tryd.prog l W) : Tabs W := by
  have h1 := laidMetH.filter (fun x => x.1 == "loop.example/g00704/impl.monthLengths") h
  rw [hf, MakeChecks.laidMetH_plain _ _ _ (by kernel_rfl)] at h1
  exact ⟨Lib.tabIs_of_head (g := 0) (t := 46) (e := 3) (n := 12) (by kernel_rfl) (by kernel_rfl) (by kernel_rfl) (by kernel_rfl) (by kernel_rfl) (by kernel_rfl) h1⟩

theorem var_lt {P : Program} {g : Nat} {W : World} {n : String} {cs : Array Value} (hg : P.globalNamed n = some g) (hv : W.var? P n = some cs) : g < W.heap.size := by
  unfold World.var? at hv
  simp only [hg, Option.bind_some] at hv
  cases hq : W.heap[g]? with
  | none => rw [hq] at hv; simp at hv
  | some o => exact (Array.getElem?_eq_some_iff.1 hq).1

/-- The table stands as long as the old blocks do. -/
theorem Tabs.on {w w' : World} (h : Tabs w) (hb : Below w.heap.size w w') : Tabs w' :=
  ⟨var?_below hb (g := 0) (by kernel_rfl) (var_lt (by kernel_rfl) h.mon) h.mon⟩
theorem Tabs.cell {w : World} (h : Tabs w) (j : Nat) (hj : j < monthTab.length) : w.cell? ⟨0, j, none⟩ = some (.int .i64 (monthTab.getD j 0)) :=
  h.mon.cell (by kernel_rfl) j hj

/-- What the table reads as. -/
theorem reads_mon {H : Type} (enc : TypeId × Value → H) (W : World) (sp : Nat → Bool) : DataW.trod enc Tryd.prog W 0 sp true 3 46 (monthTab.map (Value.int .i64)) = some (.agg (monthTab.map fun n => .lit (.int .i64 n)), []) := by kernel_rfl
/-- The row's own variable, ahead of the call and behind it. -/
theorem vars_read {H : Type} {enc : TypeId × Value → H} {W : World} {sp : Nat → Bool} {gs : List (DataW H)} {q : List MemPlace} (hT : Tabs W)
    (h : DataW.TrodVars enc Tryd.prog W sp ["loop.example/g00704/impl.monthLengths"] gs q) : gs = [.agg (monthTab.map fun n => .lit (.int .i64 n))] := by
  obtain ⟨g, t, cs, fuel, d, p', rfl, hg, ht, hvar, hd, rfl⟩ := ChangeShapes.trodVars_one h
  obtain rfl := Option.some.inj ((show Tryd.prog.globalNamed "loop.example/g00704/impl.monthLengths" = some 0 by kernel_rfl).symm.trans hg)
  obtain rfl := Option.some.inj ((show (Tryd.prog.globals[0]?).map (·.type) = some 46 by kernel_rfl).symm.trans ht)
  have e := Option.some.inj (hvar.symm.trans hT.mon)
  subst e
  obtain ⟨rfl, rfl⟩ := DataW.Trod.unique (v := .agg (monthTab.map (Value.int .i64)).toArray) ⟨fuel, hd⟩ ⟨3, reads_mon enc W _⟩
  rfl
theorem vars_mk {H : Type} (enc : TypeId × Value → H) {W : World} (sp : Nat → Bool) (hT : Tabs W) :
    DataW.TrodVars enc Tryd.prog W sp ["loop.example/g00704/impl.monthLengths"] [.agg (monthTab.map fun n => .lit (.int .i64 n))] (MemPlace.row ⟨0, 0, none⟩ (monthTab.map (Value.int .i64)).toArray.size ++ []) :=
  ChangeShapes.trodVars_mk1 (fuel := 3) (by kernel_rfl) (by kernel_rfl) hT.mon (reads_mon enc W sp)
end Go.Proofs.YthcofpkppienaaaDoor
