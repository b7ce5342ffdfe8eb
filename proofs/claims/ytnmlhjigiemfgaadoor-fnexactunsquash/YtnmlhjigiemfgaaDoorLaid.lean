/- What the listed tables of the library hold, out of the row's condition on them. -/
import Derived.Test.YtnmlhjigiemfgaaDoorBase
import Derived.Lib.LaidTab
import Derived.Lib.ItoaNum
import Derived.LaidSub
import Derived.MakeChecks
namespace Go.Proofs.YtnmlhjigiemfgaaDoor
open Go.RowKit

def deb64 : List Int := [0, 1, 56, 2, 57, 49, 28, 3, 61, 58, 42, 50, 38, 29, 17, 4, 62, 47, 59, 36, 45, 43, 51, 22, 53, 39, 33, 30, 24, 18, 12, 5, 63, 55, 48, 27, 60, 41, 37, 16, 46, 35, 44, 21, 52, 32, 23, 11, 54, 26, 40, 15, 34, 20, 31, 10, 25, 14, 19, 9, 13, 8, 7, 6]

/-- The tables that strconv's numerals are made with. -/
structure Tabs (w : World) : Prop where
  pow : Lib.TabIs Tryd.prog w "internal/strconv.uint64pow10" .u64 Lib.pow10Tab
  deb : Lib.TabIs Tryd.prog w "math/bits.deBruijn64tab" .u8 deb64

theorem tabs_of {l : List (String × DataW Unit)} {W : World}
    (hf : (l.filter fun x => x.1 == "internal/strconv.uint64pow10") = [("internal/strconv.uint64pow10", Lib.tabData .u64 Lib.pow10Tab)])
    (hg : (l.filter fun x => x.1 == "math/bits.deBruijn64tab") = [("math/bits.deBruijn64tab", Lib.tabData .u8 deb64)]) (h : laidMetH Tryd.prog l W) : Tabs W := by
  have h1 := laidMetH.filter (fun x => x.1 == "internal/strconv.uint64pow10") h
  rw [hf, MakeChecks.laidMetH_plain _ _ _ (by kernel_rfl)] at h1
  have h2 := laidMetH.filter (fun x => x.1 == "math/bits.deBruijn64tab") h
  rw [hg, MakeChecks.laidMetH_plain _ _ _ (by kernel_rfl)] at h2
  exact ⟨Lib.tabIs_of_head (g := 1) (t := 88) (e := 73) (n := 20) (by kernel_rfl) (by kernel_rfl) (by kernel_rfl) (by kernel_rfl) (by kernel_rfl) (by kernel_rfl) h1,
    Lib.tabIs_of_head (g := 3) (t := 94) (e := 5) (n := 64) (by kernel_rfl) (by kernel_rfl) (by kernel_rfl) (by kernel_rfl) (by kernel_rfl) (by kernel_rfl) h2⟩

theorem var_lt {P : Program} {g : Nat} {W : World} {n : String} {cs : Array Value} (hg : P.globalNamed n = some g) (hv : W.var? P n = some cs) : g < W.heap.size := by
  unfold World.var? at hv
  simp only [hg, Option.bind_some] at hv
  cases hq : W.heap[g]? with
  | none => rw [hq] at hv; simp at hv
  | some o => exact (Array.getElem?_eq_some_iff.1 hq).1

/-- The tables stand as long as the old blocks do. -/
theorem Tabs.on {w w' : World} (h : Tabs w) (hb : Below w.heap.size w w') : Tabs w' :=
  ⟨var?_below hb (g := 1) (by kernel_rfl) (var_lt (by kernel_rfl) h.pow) h.pow,
   var?_below hb (g := 3) (by kernel_rfl) (var_lt (by kernel_rfl) h.deb) h.deb⟩
theorem Tabs.cell7 {w : World} (h : Tabs w) : w.cell? ⟨3, 7, none⟩ = some (.int .u8 3) :=
  h.deb.cell (by kernel_rfl) 7 (by decide)
end Go.Proofs.YtnmlhjigiemfgaaDoor
