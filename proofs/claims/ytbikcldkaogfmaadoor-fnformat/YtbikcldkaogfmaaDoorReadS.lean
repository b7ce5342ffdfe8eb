/- What spec.ReadDate reads, as a plain function; its contract. -/
import Derived.Test.YtbikcldkaogfmaaDoorTake
import Derived.Test.YtbikcldkaogfmaaDoorUnits
import Derived.Test.YtbikcldkaogfmaaDoorAges
import Derived.Deep.RegionWith
namespace Go.Proofs.YtbikcldkaogfmaaDoor
open Go.RowKit

/-- The letters that a format may have, % among them. -/
def knownS (c : UInt8) : Bool := c == 37 || c == 89 || c == 109 || c == 100 || c == 72 || c == 77 || c == 83 || c == 106 || c == 115
theorem known_some (c : UInt8) (x : Dt) : (fieldS c x).isSome = knownS c := by
  unfold fieldS fieldV knownS
  repeat' split
  all_goals first | (subst_vars; rfl) | (simp [*])
/-- How many digits a letter takes. -/
def widS (s : List UInt8) (c : UInt8) (i : Nat) : Nat := if c = 115 then lead (s.drop i) else (digS c).toNat
structure StS where
  i : Nat
  x : D6
  t : Int
def numS (s : List UInt8) (c : UInt8) (i : Nat) : Int := numL ((s.drop i).take (widS s c i)) 12
def stepS (s : List UInt8) (c : UInt8) (z : StS) : StS := ⟨z.i + widS s c z.i, takeD z.x c (numS s c z.i), if c = 115 then numS s c z.i else z.t⟩
def badS (s : List UInt8) (c : UInt8) (z : StS) : Prop := (c = 115 ∧ 12 < widS s c z.i) ∨ knownS c = false ∨ s.length < z.i + widS s c z.i
instance (s : List UInt8) (c : UInt8) (z : StS) : Decidable (badS s c z) := by unfold badS; infer_instance
def rdS (s : List UInt8) : List UInt8 → StS → Option StS
  | [], z => some z
  | [c], z => if c = 37 then none else some ⟨z.i + 1, z.x, z.t⟩
  | c :: d :: r, z => if c = 37 then (if badS s d z then none else rdS s r (stepS s d z)) else rdS s (d :: r) ⟨z.i + 1, z.x, z.t⟩
theorem rdS_byte (s : List UInt8) (c : UInt8) (r : List UInt8) (z : StS) (h : c ≠ 37) : rdS s (c :: r) z = rdS s r ⟨z.i + 1, z.x, z.t⟩ := by
  cases r with
  | nil => simp [rdS, h]
  | cons d r => rw [rdS, if_neg h]
theorem rdS_last (s : List UInt8) (z : StS) : rdS s [37] z = none := by rw [rdS, if_pos rfl]
theorem rdS_bad (s : List UInt8) (d : UInt8) (r : List UInt8) (z : StS) (h : badS s d z) : rdS s (37 :: d :: r) z = none := by rw [rdS, if_pos rfl, if_pos h]
theorem rdS_step (s : List UInt8) (d : UInt8) (r : List UInt8) (z : StS) (h : ¬ badS s d z) : rdS s (37 :: d :: r) z = rdS s r (stepS s d z) := by rw [rdS, if_pos rfl, if_neg h]
/-- q is Render of the format at t. -/
def RendIs (f : List UInt8) (t : Int) (q : List UInt8) : Prop := (timeB t = false ∧ q = []) ∨ ∃ x : Dt, x.Ok ∧ x.time = t ∧ q = rendV x f
theorem rendIs_some (f : List UInt8) (t : Int) : ∃ q, RendIs f t q := by
  cases ht : timeB t
  · exact ⟨[], .inl ⟨ht, rfl⟩⟩
  · obtain ⟨h0, h1⟩ := inB_iff.1 ht
    obtain ⟨x, hx, hxt⟩ := dt_some t h0 h1
    exact ⟨_, .inr ⟨x, hx, hxt, rfl⟩⟩
theorem RendIs.one {f : List UInt8} {t : Int} {q q' : List UInt8} (h : RendIs f t q) (h' : RendIs f t q') : q = q' := by
  rcases h with ⟨h1, rfl⟩ | ⟨x, hx, hxt, rfl⟩ <;> rcases h' with ⟨h2, rfl⟩ | ⟨z, hz, hzt, rfl⟩
  · rfl
  · rw [← hzt, timeB_ok hz] at h1; cases h1
  · rw [← hxt, timeB_ok hx] at h2; cases h2
  · rw [Dt.one hx hz (hxt.trans hzt.symm)]
theorem specRenderR (s : ByteArray) (t : Int) (q : List UInt8) (hq : RendIs s.data.toList t q) (w : World) (hs : s.size ≤ 1048576) :
    Calls Tryd.prog 22 #[.string s, .int .i64 t] w fun e w' => e = .returned (.string (strOf q)) ∧ Below w.heap.size w w' := by
  rcases hq with ⟨ht, rfl⟩ | ⟨x, hx, rfl, rfl⟩
  · exact specRender_out s t w ht
  · exact specRender s x hx w hs
/-- The time that was told. -/
def toldS (f : List UInt8) (z : StS) : Int := if hasL 115 f then z.t else if hasL 89 f && hasL 109 f && hasL 100 f then timeV z.x.y z.x.mo z.x.d z.x.h z.x.mi z.x.s else -1
def zeroS : StS := ⟨0, ⟨0, 0, 0, 0, 0, 0⟩, -1⟩
/-- What spec.ReadDate answers. -/
def ReadS (f s : List UInt8) (r : Int) : Prop :=
  match rdS s f zeroS with
  | none => r = -1
  | some z => (toldS f z < 0 ∧ r = -1) ∨ (0 ≤ toldS f z ∧ ∃ q, RendIs f (toldS f z) q ∧ r = if q = s then toldS f z else -1)

/-- A date of the call's own. -/
def DayAt (w : World) (p : Nat) (x : D6) : Prop := w.heap[p]? = some (.cells x.arr 43 (0, 0))
theorem DayAt.on {w w' : World} {p : Nat} {x : D6} (h : DayAt w p x) (hb : Below w.heap.size w w') : DayAt w' p x := (hb.block p (Array.getElem?_eq_some_iff.1 h).1).trans h
theorem DayAt.drew {w : World} {p : Nat} {x : D6} (h : DayAt w p x) : DayAt w.drew p x := h
theorem set_blk {w : World} {b : Nat} {cs : Array Value} {t : TypeId} {fr : Nat × Nat} (h : w.heap[b]? = some (.cells cs t fr)) (j : Nat) (v : Value) : (w.setCell ⟨b, j, none⟩ v).heap[b]? = some (.cells (cs.setIfInBounds j v) t fr) := by
  simp [World.setCell, Array.getElem?_modify, h]
def six (w : World) (b : Nat) (x : D6) : World := (((((w.setCell ⟨b, 0, none⟩ (.int .i64 x.y)).setCell ⟨b, 1, none⟩ (.int .i64 x.mo)).setCell ⟨b, 2, none⟩ (.int .i64 x.d)).setCell ⟨b, 3, none⟩ (.int .i64 x.h)).setCell ⟨b, 4, none⟩ (.int .i64 x.mi)).setCell ⟨b, 5, none⟩ (.int .i64 x.s)
theorem DayAt.six {w : World} {b : Nat} {x : D6} (h : DayAt w b x) (y : D6) : DayAt (six w b y) b y :=
  set_blk (set_blk (set_blk (set_blk (set_blk (set_blk h 0 _) 1 _) 2 _) 3 _) 4 _) 5 _
theorem below_six {w w0 : World} {B b : Nat} (h : Below B w0 w) (k : B ≤ b) (y : D6) : Below B w0 (six w b y) :=
  (((((h.setCell (p := ⟨b, 0, none⟩) k _).setCell (p := ⟨b, 1, none⟩) k _).setCell (p := ⟨b, 2, none⟩) k _).setCell (p := ⟨b, 3, none⟩) k _).setCell (p := ⟨b, 4, none⟩) k _).setCell (p := ⟨b, 5, none⟩) k _
theorem DayAt.cell {w : World} {b : Nat} {x : D6} (h : DayAt w b x) (j : Nat) : w.cell? ⟨b, j, none⟩ = x.arr[j]? ∧ w.frozen? ⟨b, j, none⟩ = false := by
  constructor
  · have hb : w.heap[b]? = some (.cells x.arr 43 (0, 0)) := h
    simp [World.cell?, hb]
  · exact frozen_of_row w b j _ _ h
def x0 : Dt := ⟨1970, 1, 1, 0, 0, 0⟩
theorem x0_ok : x0.Ok := ⟨by decide, by decide, by decide, by decide, by decide, by decide, by decide, by decide, by decide, by decide, by decide, by decide⟩
theorem x0_time : x0.time = 0 := by decide
theorem specField0 (c : UInt8) (w : World) : Calls Tryd.prog 34 #[.int .u8 c.toNat, .int .i64 0] w fun e w' => e = .returned (.tuple #[.string (strOf ((fieldS c x0).getD [])), .int .i64 (digS c), .bool (knownS c)]) ∧ Below w.heap.size w w' := by
  have h := specField c x0 x0_ok w
  rw [x0_time, known_some] at h
  exact h
theorem widS_dig {s : List UInt8} {c : UInt8} {i : Nat} (h : c ≠ 115) : digS c = (widS s c i : Int) := by
  unfold widS; rw [if_neg h]
  unfold digS; repeat' split
  all_goals rfl
end Go.Proofs.YtbikcldkaogfmaaDoor
