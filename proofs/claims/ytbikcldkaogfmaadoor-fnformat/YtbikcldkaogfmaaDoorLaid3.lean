/- What the listed tables hold, out of the rows' conditions on them: the letters of ages, the months' lengths, strconv's tables. -/
import Derived.Test.YtbikcldkaogfmaaDoorLaid
import Derived.ChangeVars
import Derived.OpenShut
namespace Go.Proofs.YtbikcldkaogfmaaDoor
open Go.RowKit

/-- The letters of ages, longest first, with their seconds. -/
def unitL : List Value := [.string ⟨#[119]⟩, .int .i64 604800, .string ⟨#[100]⟩, .int .i64 86400, .string ⟨#[104]⟩, .int .i64 3600, .string ⟨#[109]⟩, .int .i64 60, .string ⟨#[115]⟩, .int .i64 1]
def unitD {H : Type} : DataW H := .agg [.agg [.lit (.string [119]), .lit (.int .i64 604800)], .agg [.lit (.string [100]), .lit (.int .i64 86400)], .agg [.lit (.string [104]), .lit (.int .i64 3600)], .agg [.lit (.string [109]), .lit (.int .i64 60)], .agg [.lit (.string [115]), .lit (.int .i64 1)]]
theorem list_two {α : Type} {l : List α} (h : l.length = 2) : ∃ a b, l = [a, b] := by
  match l, h with
  | [a, b], _ => exact ⟨a, b, rfl⟩
theorem list_five {α : Type} {l : List α} (h : l.length = 5) : ∃ a b c d e, l = [a, b, c, d, e] := by
  match l, h with
  | [a, b, c, d, e], _ => exact ⟨a, b, c, d, e, rfl⟩
theorem list_ten {α : Type} {l : List α} (h : l.length = 10) : ∃ a b c d e f g i j k, l = [a, b, c, d, e, f, g, i, j, k] := by
  match l, h with
  | [a, b, c, d, e, f, g, i, j, k], _ => exact ⟨a, b, c, d, e, f, g, i, j, k, rfl⟩
structure TabsU (w : World) : Prop where
  u : w.var? Tryd.prog "loop.example/g00704/impl.ageUnits" = some unitL.toArray

theorem pair_cells {H : Type} {enc : TypeId × Value → H} {w : World} {base : Nat} {sp : Nat → Bool} {held : Bool} {fuel : Nat} {l : List Value} {x : DataW H × List MemPlace} {a : List UInt8} {z : Int}
    (h : DataW.trod enc Tryd.prog w base sp held fuel 71 l = some x) (hx : x.1 = .agg [.lit (.string a), .lit (.int .i64 z)]) : l = [.string ⟨a.toArray⟩, .int .i64 z] := by
  obtain ⟨xs, n, _, rfl, hl, hlen, hg⟩ := DataW.trod_struct Tryd.underlying71 h
  rw [show Tryd.prog.cellsOf 71 = 2 by kernel_rfl] at hl
  obtain ⟨c0, c1, rfl⟩ := list_two hl
  obtain ⟨y0, y1, rfl⟩ := list_two (show xs.length = 2 from hlen)
  have h0 : DataW.trod enc Tryd.prog w base sp held n 9 [c0] = some y0 := by simpa [show Tryd.prog.cellsOf 9 = 1 by kernel_rfl] using hg 0 _ rfl
  have h1 : DataW.trod enc Tryd.prog w base sp held n 3 [c1] = some y1 := by simpa [show Tryd.prog.cellsOf 3 = 1 by kernel_rfl] using hg 1 _ rfl
  obtain ⟨s, e0, rfl, _⟩ := DataW.trod_string Tryd.underlying9 h0
  obtain ⟨k, e1, rfl, _⟩ := DataW.trod_int Tryd.underlying3 h1
  simp only [List.cons.injEq, and_true] at e0 e1
  subst e0 e1
  simp at hx
  obtain ⟨rfl, rfl⟩ := hx
  rfl

theorem unit_cells {H : Type} {enc : TypeId × Value → H} {w : World} {base : Nat} {sp : Nat → Bool} {held : Bool} {fuel : Nat} {cs : List Value} {p : List MemPlace}
    (h : DataW.trod enc Tryd.prog w base sp held fuel 72 cs = some (unitD, p)) : cs = unitL := by
  obtain ⟨xs, n, _, hx, hl, hlen, hg⟩ := DataW.trod_array Tryd.underlying72 h
  rw [show Tryd.prog.cellsOf 72 = 10 by kernel_rfl] at hl
  obtain ⟨a0, a1, a2, a3, a4, a5, a6, a7, a8, a9, rfl⟩ := list_ten hl
  obtain ⟨y0, y1, y2, y3, y4, rfl⟩ := list_five hlen
  have two : Tryd.prog.cellsOf 71 = 2 := by kernel_rfl
  have hx1 : (unitD : DataW H) = .agg [y0.1, y1.1, y2.1, y3.1, y4.1] := congrArg Prod.fst hx
  unfold unitD at hx1
  simp only [DataW.agg.injEq, List.cons.injEq, and_true] at hx1
  obtain ⟨e0, e1, e2, e3, e4⟩ := hx1
  have t0 := pair_cells (by simpa [two] using hg 0 (by decide)) e0.symm
  have t1 := pair_cells (by simpa [two] using hg 1 (by decide)) e1.symm
  have t2 := pair_cells (by simpa [two] using hg 2 (by decide)) e2.symm
  have t3 := pair_cells (by simpa [two] using hg 3 (by decide)) e3.symm
  have t4 := pair_cells (by simpa [two] using hg 4 (by decide)) e4.symm
  simp at t0 t1 t2 t3 t4
  simp [unitL, t0, t1, t2, t3, t4]

theorem tabs_ofU {l : List (String × DataW Unit)} {W : World}
    (hf : (l.filter fun x => x.1 == "loop.example/g00704/impl.ageUnits") = [("loop.example/g00704/impl.ageUnits", unitD)]) (h : laidMetH Tryd.prog l W) : TabsU W := by
  have h1 := laidMetH.filter (fun x => x.1 == "loop.example/g00704/impl.ageUnits") h
  rw [hf, MakeChecks.laidMetH_plain _ _ _ (by kernel_rfl)] at h1
  obtain ⟨ps, ⟨g', t', cs, fuel, p, q, hg', ht', hvar, hd, _, _⟩, _⟩ := h1
  obtain rfl := Option.some.inj ((show Tryd.prog.globalNamed "loop.example/g00704/impl.ageUnits" = some 0 by kernel_rfl).symm.trans hg')
  obtain rfl := Option.some.inj ((show (Tryd.prog.globals[0]?).map (·.type) = some 72 by kernel_rfl).symm.trans ht')
  exact ⟨by rw [hvar, ← unit_cells hd]⟩
theorem TabsU.on {w w' : World} (h : TabsU w) (hb : Below w.heap.size w w') : TabsU w' :=
  ⟨var?_below hb (g := 0) (by kernel_rfl) (var_lt (by kernel_rfl) h.u) h.u⟩
theorem TabsU.cell {w : World} (h : TabsU w) (j : Nat) : w.cell? ⟨0, j, none⟩ = unitL[j]? := by
  rw [World.var?_cell (g := 0) (by kernel_rfl) h.u]; simp
theorem reads_unit {H : Type} (enc : TypeId × Value → H) (W : World) (sp : Nat → Bool) : DataW.trod enc Tryd.prog W 0 sp true 4 72 unitL = some (unitD, []) := by kernel_rfl
theorem vars_readU {H : Type} {enc : TypeId × Value → H} {W : World} {sp : Nat → Bool} {gs : List (DataW H)} {q : List MemPlace} (hT : TabsU W)
    (h : DataW.TrodVars enc Tryd.prog W sp ["loop.example/g00704/impl.ageUnits"] gs q) : gs = [unitD] := by
  obtain ⟨g, t, cs, fuel, d, p', rfl, hg, ht, hvar, hd, rfl⟩ := ChangeShapes.trodVars_one h
  obtain rfl := Option.some.inj ((show Tryd.prog.globalNamed "loop.example/g00704/impl.ageUnits" = some 0 by kernel_rfl).symm.trans hg)
  obtain rfl := Option.some.inj ((show (Tryd.prog.globals[0]?).map (·.type) = some 72 by kernel_rfl).symm.trans ht)
  have e := Option.some.inj (hvar.symm.trans hT.u)
  subst e
  obtain ⟨rfl, rfl⟩ := DataW.Trod.unique (v := .agg unitL.toArray) ⟨fuel, hd⟩ ⟨4, reads_unit enc W _⟩
  rfl
theorem vars_mkU {H : Type} (enc : TypeId × Value → H) {W : World} (sp : Nat → Bool) (hT : TabsU W) :
    DataW.TrodVars enc Tryd.prog W sp ["loop.example/g00704/impl.ageUnits"] [unitD] (MemPlace.row ⟨0, 0, none⟩ unitL.toArray.size ++ []) :=
  ChangeShapes.trodVars_mk1 (fuel := 4) (by kernel_rfl) (by kernel_rfl) hT.u (reads_unit enc W sp)

/-- The letters of ages, and strconv's tables. -/
structure TabsB (w : World) : Prop where
  s : Tabs w
  u : TabsU w
theorem TabsB.on {w w' : World} (h : TabsB w) (hb : Below w.heap.size w w') : TabsB w' := ⟨h.s.on hb, h.u.on hb⟩
theorem tabs_ofB {l : List (String × DataW Unit)} {W : World}
    (hf : (l.filter fun x => x.1 == "internal/strconv.uint64pow10") = [("internal/strconv.uint64pow10", Lib.tabData .u64 Lib.pow10Tab)])
    (hg : (l.filter fun x => x.1 == "math/bits.deBruijn64tab") = [("math/bits.deBruijn64tab", Lib.tabData .u8 deb64)])
    (hu : (l.filter fun x => x.1 == "loop.example/g00704/impl.ageUnits") = [("loop.example/g00704/impl.ageUnits", unitD)]) (h : laidMetH Tryd.prog l W) : TabsB W := ⟨tabs_of hf hg h, tabs_ofU hu h⟩
theorem vars_readB {H : Type} {enc : TypeId × Value → H} {W : World} {sp : Nat → Bool} {gs : List (DataW H)} {q : List MemPlace} (hT : TabsB W)
    (h : DataW.TrodVars enc Tryd.prog W sp ["loop.example/g00704/impl.ageUnits"] gs q) : gs = [unitD] := vars_readU hT.u h
theorem vars_mkB {H : Type} (enc : TypeId × Value → H) {W : World} (sp : Nat → Bool) (hT : TabsB W) :
    DataW.TrodVars enc Tryd.prog W sp ["loop.example/g00704/impl.ageUnits"] [unitD] (MemPlace.row ⟨0, 0, none⟩ unitL.toArray.size ++ []) := vars_mkU enc sp hT.u

def monthTab : List Int := [31, 28, 31, 30, 31, 30, 31, 31, 30, 31, 30, 31]
/-- The table of months. -/
structure TabsM (w : World) : Prop where
  mon : Lib.TabIs Tryd.prog w "loop.example/g00704/impl.monthLengths" .i64 monthTab
theorem tabs_ofM {l : List (String × DataW Unit)} {W : World}
    (hf : (l.filter fun x => x.1 == "loop.example/g00704/impl.monthLengths") = [("loop.example/g00704/impl.monthLengths", Lib.tabData .i64 monthTab)]) (h : laidMetH Tryd.prog l W) : TabsM W := by
  have h1 := laidMetH.filter (fun x => x.1 == "loop.example/g00704/impl.monthLengths") h
  rw [hf, MakeChecks.laidMetH_plain _ _ _ (by kernel_rfl)] at h1
  exact ⟨Lib.tabIs_of_head (g := 1) (t := 84) (e := 3) (n := 12) (by kernel_rfl) (by kernel_rfl) (by kernel_rfl) (by kernel_rfl) (by kernel_rfl) (by kernel_rfl) h1⟩
theorem TabsM.on {w w' : World} (h : TabsM w) (hb : Below w.heap.size w w') : TabsM w' :=
  ⟨var?_below hb (g := 1) (by kernel_rfl) (var_lt (by kernel_rfl) h.mon) h.mon⟩
theorem TabsM.cell {w : World} (h : TabsM w) (j : Nat) (hj : j < monthTab.length) : w.cell? ⟨1, j, none⟩ = some (.int .i64 (monthTab.getD j 0)) :=
  h.mon.cell (by kernel_rfl) j hj
theorem reads_mon {H : Type} (enc : TypeId × Value → H) (W : World) (sp : Nat → Bool) : DataW.trod enc Tryd.prog W 0 sp true 3 84 (monthTab.map (Value.int .i64)) = some (.agg (monthTab.map fun n => .lit (.int .i64 n)), []) := by kernel_rfl
theorem vars_readM {H : Type} {enc : TypeId × Value → H} {W : World} {sp : Nat → Bool} {gs : List (DataW H)} {q : List MemPlace} (hT : TabsM W)
    (h : DataW.TrodVars enc Tryd.prog W sp ["loop.example/g00704/impl.monthLengths"] gs q) : gs = [.agg (monthTab.map fun n => .lit (.int .i64 n))] := by
  obtain ⟨g, t, cs, fuel, d, p', rfl, hg, ht, hvar, hd, rfl⟩ := ChangeShapes.trodVars_one h
  obtain rfl := Option.some.inj ((show Tryd.prog.globalNamed "loop.example/g00704/impl.monthLengths" = some 1 by kernel_rfl).symm.trans hg)
  obtain rfl := Option.some.inj ((show (Tryd.prog.globals[1]?).map (·.type) = some 84 by kernel_rfl).symm.trans ht)
  have e := Option.some.inj (hvar.symm.trans hT.mon)
  subst e
  obtain ⟨rfl, rfl⟩ := DataW.Trod.unique (v := .agg (monthTab.map (Value.int .i64)).toArray) ⟨fuel, hd⟩ ⟨3, reads_mon enc W _⟩
  rfl
theorem vars_mkM {H : Type} (enc : TypeId × Value → H) {W : World} (sp : Nat → Bool) (hT : TabsM W) :
    DataW.TrodVars enc Tryd.prog W sp ["loop.example/g00704/impl.monthLengths"] [.agg (monthTab.map fun n => .lit (.int .i64 n))] (MemPlace.row ⟨1, 0, none⟩ (monthTab.map (Value.int .i64)).toArray.size ++ []) :=
  ChangeShapes.trodVars_mk1 (fuel := 3) (by kernel_rfl) (by kernel_rfl) hT.mon (reads_mon enc W sp)

/-- The months' lengths, and strconv's tables. -/
structure TabsC (w : World) : Prop where
  s : Tabs w
  m : TabsM w
theorem TabsC.on {w w' : World} (h : TabsC w) (hb : Below w.heap.size w w') : TabsC w' := ⟨h.s.on hb, h.m.on hb⟩
theorem tabs_ofC {l : List (String × DataW Unit)} {W : World}
    (hf : (l.filter fun x => x.1 == "internal/strconv.uint64pow10") = [("internal/strconv.uint64pow10", Lib.tabData .u64 Lib.pow10Tab)])
    (hg : (l.filter fun x => x.1 == "math/bits.deBruijn64tab") = [("math/bits.deBruijn64tab", Lib.tabData .u8 deb64)])
    (hu : (l.filter fun x => x.1 == "loop.example/g00704/impl.monthLengths") = [("loop.example/g00704/impl.monthLengths", Lib.tabData .i64 monthTab)]) (h : laidMetH Tryd.prog l W) : TabsC W := ⟨tabs_of hf hg h, tabs_ofM hu h⟩
theorem vars_readC {H : Type} {enc : TypeId × Value → H} {W : World} {sp : Nat → Bool} {gs : List (DataW H)} {q : List MemPlace} (hT : TabsC W)
    (h : DataW.TrodVars enc Tryd.prog W sp ["loop.example/g00704/impl.monthLengths"] gs q) : gs = [.agg (monthTab.map fun n => .lit (.int .i64 n))] := vars_readM hT.m h
theorem vars_mkC {H : Type} (enc : TypeId × Value → H) {W : World} (sp : Nat → Bool) (hT : TabsC W) :
    DataW.TrodVars enc Tryd.prog W sp ["loop.example/g00704/impl.monthLengths"] [.agg (monthTab.map fun n => .lit (.int .i64 n))] (MemPlace.row ⟨1, 0, none⟩ (monthTab.map (Value.int .i64)).toArray.size ++ []) := vars_mkM enc sp hT.m
end Go.Proofs.YtbikcldkaogfmaaDoor
