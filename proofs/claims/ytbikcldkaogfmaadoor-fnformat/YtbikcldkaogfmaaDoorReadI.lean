/- What impl.ReadDate reads, as a plain function; what its loop keeps. -/
import Derived.Test.YtbikcldkaogfmaaDoorTold
import Derived.Test.YtbikcldkaogfmaaDoorImplRender
import Derived.Test.YtbikcldkaogfmaaDoorReadS
import Derived.WalkMore
import Derived.ScopeJumps
namespace Go.Proofs.YtbikcldkaogfmaaDoor
open Go.RowKit

structure M8 where
  x : D6
  j : Int
  t : Int
def M8.arr (m : M8) : Array Value := #[.int .i64 m.x.y, .int .i64 m.x.mo, .int .i64 m.x.d, .int .i64 m.x.h, .int .i64 m.x.mi, .int .i64 m.x.s, .int .i64 m.j, .int .i64 m.t]
def setM (m : M8) (c : UInt8) (n : Int) : M8 := if c = 106 then { m with j := n } else if c = 115 then { m with t := n } else { m with x := takeD m.x c n }
theorem setM_arr (c : UInt8) (f : Nat) (h : lookF c letL = some f) (m : M8) (n : Int) : m.arr.setIfInBounds (offF c) (.int .i64 n) = (setM m c n).arr := by
  unfold letL at h
  rw [lookF] at h
  by_cases k89 : 89 = c
  · subst k89; rfl
  rw [if_neg k89] at h
  rw [lookF] at h
  by_cases k109 : 109 = c
  · subst k109; rfl
  rw [if_neg k109] at h
  rw [lookF] at h
  by_cases k100 : 100 = c
  · subst k100; rfl
  rw [if_neg k100] at h
  rw [lookF] at h
  by_cases k72 : 72 = c
  · subst k72; rfl
  rw [if_neg k72] at h
  rw [lookF] at h
  by_cases k77 : 77 = c
  · subst k77; rfl
  rw [if_neg k77] at h
  rw [lookF] at h
  by_cases k83 : 83 = c
  · subst k83; rfl
  rw [if_neg k83] at h
  rw [lookF] at h
  by_cases k106 : 106 = c
  · subst k106; rfl
  rw [if_neg k106] at h
  rw [lookF] at h
  by_cases k115 : 115 = c
  · subst k115; rfl
  rw [if_neg k115] at h
  cases h
theorem off_lt (c : UInt8) : offF c < 8 := by unfold offF; repeat' split
                                              all_goals omega
theorem digF_bd (c : UInt8) : 1 ≤ digF c ∧ digF c ≤ 4 := by unfold digF; repeat' split
                                                            all_goals omega
def valI (l : List UInt8) : Int := if allDigB 10 l then (dnumB 10 l : Int) else -1
theorem val_cut (r : ByteArray) (n : Nat) : digitsVal 10 (r.extract 0 n) = valI (r.data.toList.take n) := by
  unfold digitsVal valI
  rw [Lib.extract_data]
  simp
def widI (c : UInt8) (r : List UInt8) : Nat := if c = 115 then max 1 (lead r) else (digF c).toNat
theorem widI_dig {c : UInt8} {r : List UInt8} (h : c ≠ 115) : digF c = (widI c r : Int) := by
  unfold widI; rw [if_neg h]; have := (digF_bd c).1; omega
def rdI : List (UInt8 × Bool) → List UInt8 → M8 → List UInt8 → Option (M8 × List UInt8)
  | [], _, m, ts => some (m, ts)
  | (c, false) :: ps, r, m, ts => match r with
    | [] => none
    | b :: r' => if b = c then rdI ps r' m ts else none
  | (c, true) :: ps, r, m, ts => if lookF c letL = none ∨ r.length < widI c r ∨ 12 < widI c r then none
    else rdI ps (r.drop (widI c r)) (setM m c (valI (r.take (widI c r)))) (addT ts c)
theorem rdI_empty (c : UInt8) (ps : List (UInt8 × Bool)) (m : M8) (ts : List UInt8) : rdI ((c, false) :: ps) [] m ts = none := by rw [rdI]
theorem rdI_misfit (b c : UInt8) (ps : List (UInt8 × Bool)) (r : List UInt8) (m : M8) (ts : List UInt8) (h : b ≠ c) : rdI ((c, false) :: ps) (b :: r) m ts = none := by rw [rdI]; simp [h]
theorem rdI_fit (c : UInt8) (ps : List (UInt8 × Bool)) (r : List UInt8) (m : M8) (ts : List UInt8) : rdI ((c, false) :: ps) (c :: r) m ts = rdI ps r m ts := by rw [rdI]; simp
theorem rdI_bad (c : UInt8) (ps : List (UInt8 × Bool)) (r : List UInt8) (m : M8) (ts : List UInt8) (h : lookF c letL = none ∨ r.length < widI c r ∨ 12 < widI c r) : rdI ((c, true) :: ps) r m ts = none := by rw [rdI, if_pos h]
theorem rdI_step (c : UInt8) (ps : List (UInt8 × Bool)) (r : List UInt8) (m : M8) (ts : List UInt8) (h : ¬ (lookF c letL = none ∨ r.length < widI c r ∨ 12 < widI c r)) :
    rdI ((c, true) :: ps) r m ts = rdI ps (r.drop (widI c r)) (setM m c (valI (r.take (widI c r)))) (addT ts c) := by rw [rdI, if_neg h]
def zeroM : M8 := ⟨⟨0, 0, 0, 0, 0, 0⟩, 0, 0⟩
def toldM (m : M8) (ts : List UInt8) : Int := toldI ts m.x.y m.x.mo m.x.d m.x.h m.x.mi m.x.s m.t
/-- What impl.ReadDate answers. -/
def ReadI (f s : List UInt8) (r : Int) : Prop :=
  match rdI (pieces f) s zeroM [] with
  | none => r = -1
  | some (m, ts) => ∃ q, RendIs f (toldM m ts) q ∧ r = if q = s then toldM m ts else -1
theorem implRenderR (s : ByteArray) (t : Int) (q : List UInt8) (hq : RendIs s.data.toList t q) (w : World) (hs : s.size ≤ 1048576) (hT : TabsC w) :
    Calls Tryd.prog 14 #[.string s, .int .i64 t] w fun e w' => e = .returned (.string (strOf q)) ∧ Below w.heap.size w w' := by
  rcases hq with ⟨ht, rfl⟩ | ⟨x, hx, rfl, rfl⟩
  · exact implRender_out s t w ht
  · exact implRender s x hx w hs hT
/-- All that the loop of ReadDate keeps in memory. -/
structure InI (w : World) (a : Option Addr) (ps : List (UInt8 × Bool)) (mb tb pm : Nat) (m : M8) (ts : List UInt8) : Prop where
  pc : PC w a ps
  map : MapF w mb letL
  told : MapT w tb ts
  mom : w.heap[pm]? = some (.cells m.arr 45 (0, 0))
section
variable {w w' : World} {a : Option Addr} {ps : List (UInt8 × Bool)} {mb tb pm : Nat} {m : M8} {ts : List UInt8}
theorem InI.on (h : InI w a ps mb tb pm m ts) (hb : Below w.heap.size w w') : InI w' a ps mb tb pm m ts :=
  ⟨h.pc.on hb, h.map.on hb, h.told.on hb, (hb.block pm (Array.getElem?_eq_some_iff.1 h.mom).1).trans h.mom⟩
theorem InI.drewN (h : InI w a ps mb tb pm m ts) (n : Nat) : InI (w.drewN n) a ps mb tb pm m ts := ⟨h.pc, h.map, h.told, h.mom⟩
theorem other_blk {b c : Nat} {o o' : Obj} (h : w.heap[b]? = some o) (h' : w.heap[c]? = some o') (hne : o ≠ o') : b ≠ c := fun e => hne (Option.some.inj (by rw [← h, e, h']))
theorem InI.set (h : InI w a ps mb tb pm m ts) {c : UInt8} {f : Nat} (hc : lookF c letL = some f) (n : Int) : InI (w.setCell ⟨pm, offF c, none⟩ (.int .i64 n)) a ps mb tb pm (setM m c n) ts := by
  have hm := h.mom
  refine ⟨?_, ?_, ?_, ?_⟩
  · rcases h.pc with e | ⟨g, cur, h1, h2, h3⟩
    · exact .inl e
    · exact .inr ⟨g, cur, h1, (Below.heap_setCell w ⟨pm, offF c, none⟩ _ g (other_blk h2 hm (by intro e; cases e))).trans h2, h3⟩
  · exact (Below.heap_setCell w ⟨pm, offF c, none⟩ _ mb (other_blk h.map hm (by intro e; cases e))).trans h.map
  · exact (Below.heap_setCell w ⟨pm, offF c, none⟩ _ tb (other_blk h.told hm (by intro e; cases e))).trans h.told
  · rw [set_blk hm, setM_arr c f hc]
theorem InI.ins (h : InI w a ps mb tb pm m ts) (hg : w.grownBy w' (some tb)) {ts' : List UInt8} (ht : MapT w' tb ts') (hne : mb ≠ tb) : InI w' a ps mb tb pm m ts' := by
  have hk : ∀ {b : Nat} {o : Obj}, w.heap[b]? = some o → b ≠ tb → w'.heap[b]? = some o := fun hb hn => (hg.block _ (Array.getElem?_eq_some_iff.1 hb).1 (fun e => hn (Option.some.inj e))).trans hb
  refine ⟨?_, hk h.map hne, ht, hk h.mom (other_blk h.mom h.told (by intro e; cases e))⟩
  rcases h.pc with e | ⟨g, cur, h1, h2, h3⟩
  · exact .inl e
  · exact .inr ⟨g, cur, h1, hk h2 (other_blk h2 h.told (by intro e; cases e)), h3⟩
end
end Go.Proofs.YtbikcldkaogfmaaDoor
