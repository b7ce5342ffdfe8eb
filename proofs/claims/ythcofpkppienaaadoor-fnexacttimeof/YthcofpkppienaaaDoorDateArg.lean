/- A date that comes in by value: six ints, read from no memory; laws.toDate and laws.eqDate. -/
import Derived.Test.YthcofpkppienaaaDoorDays4
import Derived.ChangeSame
import Derived.ChangeArms
import Derived.Deep.Fields
namespace Go.Proofs.YthcofpkppienaaaDoor
open Go.RowKit Go.ChangeShapes Go.WideShapes Go.Deep

/-- That six numbers are ints. -/
structure DateWf (y mo d h mi s : Int) : Prop where
  y : (Lit.int .i64 y).wf = true
  mo : (Lit.int .i64 mo).wf = true
  d : (Lit.int .i64 d).wf = true
  h : (Lit.int .i64 h).wf = true
  mi : (Lit.int .i64 mi).wf = true
  s : (Lit.int .i64 s).wf = true
theorem list_six {α : Type} {l : List α} (h : l.length = 6) : ∃ a b c d e f, l = [a, b, c, d, e, f] := by
  match l, h with
  | [a, b, c, d, e, f], _ => exact ⟨a, b, c, d, e, f, rfl⟩
theorem open_date {H : Type} {enc : TypeId × Value → H} {w : World} {base : Nat} {spare : Nat → Bool} {held : Bool} {r : Reach} {b0 : Nat} {v : Value} {dt : DataW H} {p : List MemPlace}
    (hv : Value.okWide Tryd.prog w r b0 35 v) (hr : DataW.Trod enc Tryd.prog w base spare held 35 v dt p) :
    ∃ y mo d h mi s : Int, v = .agg #[.int .i64 y, .int .i64 mo, .int .i64 d, .int .i64 h, .int .i64 mi, .int .i64 s] ∧
      dt = .agg [.lit (.int .i64 y), .lit (.int .i64 mo), .lit (.int .i64 d), .lit (.int .i64 h), .lit (.int .i64 mi), .lit (.int .i64 s)] ∧ p = [] ∧ DateWf y mo d h mi s := by
  obtain ⟨⟨l⟩, rfl, hsz⟩ := okWide_struct Tryd.underlying35 hv
  obtain ⟨c0, c1, c2, c3, c4, c5, rfl⟩ := list_six (show l.length = 6 from hsz.trans (by kernel_rfl))
  obtain ⟨fuel, hf⟩ := hr
  obtain ⟨xs, n, _, hx, _, hlen, hg⟩ := DataW.trod_struct Tryd.underlying35 hf
  obtain ⟨y0, y1, y2, y3, y4, y5, rfl⟩ := list_six (show xs.length = 6 from hlen)
  have one : Tryd.prog.cellsOf 3 = 1 := by kernel_rfl
  have h0 : DataW.trod enc Tryd.prog w base spare held n 3 [c0] = some y0 := by simpa [Value.cells, one] using hg 0 _ rfl
  have h1 : DataW.trod enc Tryd.prog w base spare held n 3 [c1] = some y1 := by simpa [Value.cells, one] using hg 1 _ rfl
  have h2 : DataW.trod enc Tryd.prog w base spare held n 3 [c2] = some y2 := by simpa [Value.cells, one] using hg 2 _ rfl
  have h3 : DataW.trod enc Tryd.prog w base spare held n 3 [c3] = some y3 := by simpa [Value.cells, one] using hg 3 _ rfl
  have h4 : DataW.trod enc Tryd.prog w base spare held n 3 [c4] = some y4 := by simpa [Value.cells, one] using hg 4 _ rfl
  have h5 : DataW.trod enc Tryd.prog w base spare held n 3 [c5] = some y5 := by simpa [Value.cells, one] using hg 5 _ rfl
  obtain ⟨z0, e0, rfl, w0⟩ := DataW.trod_int Tryd.underlying3 h0
  obtain ⟨z1, e1, rfl, w1⟩ := DataW.trod_int Tryd.underlying3 h1
  obtain ⟨z2, e2, rfl, w2⟩ := DataW.trod_int Tryd.underlying3 h2
  obtain ⟨z3, e3, rfl, w3⟩ := DataW.trod_int Tryd.underlying3 h3
  obtain ⟨z4, e4, rfl, w4⟩ := DataW.trod_int Tryd.underlying3 h4
  obtain ⟨z5, e5, rfl, w5⟩ := DataW.trod_int Tryd.underlying3 h5
  simp only [List.cons.injEq, and_true] at e0 e1 e2 e3 e4 e5
  subst e0 e1 e2 e3 e4 e5
  simp only [Prod.mk.injEq] at hx
  exact ⟨z0, z1, z2, z3, z4, z5, rfl, by simpa using hx.1, by simpa using hx.2, ⟨w0, w1, w2, w3, w4, w5⟩⟩
theorem shut_date {H : Type} {enc : TypeId × Value → H} {w : World} {base : Nat} {spare : Nat → Bool} {held : Bool} {y mo d h mi s : Int} (hw : DateWf y mo d h mi s) :
    DataW.Trod enc Tryd.prog w base spare held 35 (.agg #[.int .i64 y, .int .i64 mo, .int .i64 d, .int .i64 h, .int .i64 mi, .int .i64 s])
      (.agg [.lit (.int .i64 y), .lit (.int .i64 mo), .lit (.int .i64 d), .lit (.int .i64 h), .lit (.int .i64 mi), .lit (.int .i64 s)]) [] := by
  have one : Tryd.prog.cellsOf 3 = 1 := by kernel_rfl
  have I : ∀ z : Int, (Lit.int .i64 z).wf = true → DataW.trod enc Tryd.prog w base spare held 1 3 [.int .i64 z] = some (.lit (.int .i64 z), []) := fun z hz => trod_int_mk 0 Tryd.underlying3 hz
  have := trod_struct_mk (enc := enc) (w := w) (base := base) (spare := spare) (held := held) (n := 1) (cs := [.int .i64 y, .int .i64 mo, .int .i64 d, .int .i64 h, .int .i64 mi, .int .i64 s])
    (xs := [(.lit (.int .i64 y), []), (.lit (.int .i64 mo), []), (.lit (.int .i64 d), []), (.lit (.int .i64 h), []), (.lit (.int .i64 mi), []), (.lit (.int .i64 s), [])]) Tryd.underlying35 (by kernel_rfl)
    (by simp [one, I _ hw.y, I _ hw.mo, I _ hw.d, I _ hw.h, I _ hw.mi, I _ hw.s])
  exact ⟨2, this⟩

set_option maxRecDepth 100000 in
set_option maxHeartbeats 1000000 in
theorem toDate (y mo d h mi s : Int) (w : World) :
    Calls Tryd.prog 28 #[.agg #[.int .i64 y, .int .i64 mo, .int .i64 d, .int .i64 h, .int .i64 mi, .int .i64 s]] w fun e w' => e = .returned (.agg #[.int .i64 y, .int .i64 mo, .int .i64 d, .int .i64 h, .int .i64 mi, .int .i64 s]) ∧ Below w.heap.size w w' := by
  go_enter Tryd.func28, Tryd.ntmps28
  go_wp2
  refine bodyPost_ret (v := .agg #[.int .i64 y, .int .i64 mo, .int .i64 d, .int .i64 h, .int .i64 mi, .int .i64 s]) (by simp [results, Tryd.results28, go_sem]) rfl ⟨rfl, ?_⟩
  repeat (first | exact Below.refl _ _ | refine Below.alloc ?_ (by simp <;> omega) _ | refine Below.setCell ?_ (by simp) _)

set_option maxRecDepth 100000 in
set_option maxHeartbeats 1000000 in
theorem eqDate_same (y mo d h mi s : Int) (w : World) :
    Calls Tryd.prog 30 #[.agg #[.int .i64 y, .int .i64 mo, .int .i64 d, .int .i64 h, .int .i64 mi, .int .i64 s], .agg #[.int .i64 y, .int .i64 mo, .int .i64 d, .int .i64 h, .int .i64 mi, .int .i64 s]] w fun e w' => e = .returned (.bool true) ∧ Below w.heap.size w w' := by
  go_enter Tryd.func30, Tryd.ntmps30
  go_wp2
  go_ret
  exact ⟨rfl, ((Below.refl _ _).alloc (Nat.le_refl _) _).alloc (by simp) _⟩
end Go.Proofs.YthcofpkppienaaaDoor
