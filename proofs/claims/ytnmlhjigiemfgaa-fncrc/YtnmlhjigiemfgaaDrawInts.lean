/- The draws of ints: whatever the code is, an int comes out. -/
import Derived.Test.YtnmlhjigiemfgaaCur
namespace Go.Proofs.Ytnmlhjigiemfgaa
open Go.RowKit

theorem grownBy_new (W : World) (o : Obj) (row : Option Nat) : W.grownBy (W.alloc o) row :=
  World.grownBy_alloc W o row
theorem cells_litI (W : World) (cs : Array Value) (t : TypeId) (ls : List Int) (h : cs.toList = ls.map (Value.int .i64)) (j : Nat) (hj : j < ls.length) :
    (W.alloc (.cells cs t)).cell? ⟨W.heap.size, j, none⟩ = some (.int .i64 ls[j]) := by
  have e : (W.alloc (.cells cs t)).cell? ⟨W.heap.size, j, none⟩ = cs[j]? := World.cell?_alloc_at cs t _ j rfl
  rw [e, ← Array.getElem?_toList, h, List.getElem?_map, List.getElem?_eq_getElem hj]; rfl

theorem specPickInt (w0 W : World) (p : Nat) (a : Option Addr) (len cap i : Nat) (h : Int) (zs : List Int) (hr : IsRow .u8 w0 a len cap zs) (hc : Cur w0 W p a len cap i h) (hlen : len ≤ 1048576)
    (g L : Nat) (ls : List Int) (hL : ls.length = L) (hl : 1 ≤ L) (hl2 : L ≤ 256) (hcells : ∀ j (hj : j < ls.length), W.cell? ⟨g, j, none⟩ = some (.int .i64 ls[j])) (hne : g ≠ p) :
    Calls Try.prog 23 #[.pointer (some ⟨p, 0, none⟩), .slice (some ⟨g, 0, none⟩) L L] W fun e W' =>
      (∃ n, n ∈ ls ∧ e = .returned (.int .i64 n)) ∧ Cur w0 W' p a len cap (belowI len i L) (belowH h L) ∧ W.grownBy W' (some p) := by
  have hbd := belowX_bd zs len i h L (by omega)
  obtain ⟨x, hx⟩ : ∃ x : Nat, belowX zs len i h L = x := ⟨(belowX zs len i h L).toNat, by omega⟩
  rw [hx] at hbd
  have hxl : x < ls.length := by omega
  have HX := Lib.hid hx
  have HC := Lib.hid hcells
  obtain ⟨v, hv⟩ : ∃ v, ls[x] = v := ⟨_, rfl⟩
  have HM := Lib.hid (show v ∈ ls by rw [← hv]; exact List.getElem_mem _)
  have HV := Lib.hid hv
  have hxi : (x : Int) < (L : Int) := by omega
  clear hx hcells hv hbd hL
  go_enter Try.func23, Try.ntmps23
  go_wp2_with (go_at_call 21; refine (specBelow w0 _ p a len cap i h L zs hr hc hlen).mono ?_; rintro e W' ⟨rfl, hc', hg⟩; rw [HX.out]; have hcx := (cell_grown hg (HC.out x hxl) hne).trans (by rw [HV.out]))
  go_ret
  exact ⟨⟨v, HM.out, rfl⟩, hc', hg⟩





end Go.Proofs.Ytnmlhjigiemfgaa
