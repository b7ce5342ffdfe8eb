/- A map of bytes that were told; impl.toldTime. -/
import Derived.Test.YtbikcldkaogfmaaDoorLetters
import Derived.Test.YtbikcldkaogfmaaDoorImplDays
namespace Go.Proofs.YtbikcldkaogfmaaDoor
open Go.RowKit Go.Maps

def tE : Nat → List UInt8 → List MapEntry
  | _, [] => []
  | n, c :: r => { key := .int .u8 (c.toNat : Int), val := .bool true, born := n } :: tE (n + 1) r
theorem tE_snoc : ∀ (n : Nat) (l : List UInt8) (c : UInt8), tE n (l ++ [c]) = tE n l ++ [{ key := .int .u8 (c.toNat : Int), val := .bool true, born := n + l.length }]
  | n, [], c => by simp [tE]
  | n, q :: r, c => by rw [List.cons_append, tE, tE_snoc (n + 1) r c]; simp [tE]; omega
def addT (ts : List UInt8) (c : UInt8) : List UInt8 := if ts.contains c then ts else ts ++ [c]
theorem find_tE (c : UInt8) : ∀ (l : List UInt8) (n i : Nat),
    (l.contains c = false → Instr.findNow (.int .u8) (.int .u8 (c.toNat : Int)) (tE n l) i = some none) ∧
    (l.contains c = true → ∃ j b, Instr.findNow (.int .u8) (.int .u8 (c.toNat : Int)) (tE n l) i = some (some (i + j, .bool true)) ∧ (tE n l)[j]? = some { key := .int .u8 (c.toNat : Int), val := .bool true, born := b })
  | [], n, i => ⟨fun _ => rfl, fun h => by simp at h⟩
  | p :: r, n, i => by
    by_cases h : c = p
    · subst h
      refine ⟨fun h2 => by simp at h2, fun _ => ⟨0, n, ?_, rfl⟩⟩
      simp [tE, Instr.findNow, Instr.sameNow]
    · have hne : ((c.toNat : Int) == (p.toNat : Int)) = false := by
        simp; intro e; exact h (UInt8.toNat_inj.mp (by omega))
      have hs : Instr.sameNow (.int .u8) (.int .u8 (c.toNat : Int)) (.int .u8 (p.toNat : Int)) = some false := by simp only [Instr.sameNow, if_true, hne]
      have hc : (p :: r).contains c = r.contains c := by simp [h]
      obtain ⟨i1, i2⟩ := find_tE c r (n + 1) (i + 1)
      rw [hc, tE, Instr.findNow, hs]
      refine ⟨i1, fun h2 => ?_⟩
      obtain ⟨j, b, h3, h4⟩ := i2 h2
      exact ⟨j + 1, b, by rw [show i + (j + 1) = i + 1 + j by omega]; exact h3, h4⟩
/-- Block b is the map of what was told. -/
def MapT (w : World) (b : Nat) (l : List UInt8) : Prop := w.heap[b]? = some (.map (tE 0 l).toArray l.length)
theorem MapT.on {w w' : World} {b : Nat} {l : List UInt8} (h : MapT w b l) (hb : Below w.heap.size w w') : MapT w' b l := (hb.block b (Array.getElem?_eq_some_iff.1 h).1).trans h
theorem modify_same {es : Array MapEntry} {j : Nat} {e : MapEntry} (h : es[j]? = some e) (f : MapEntry → MapEntry) (hf : f e = e) : es.modify j f = es := by
  apply Array.ext_getElem?
  intro k
  rw [Array.getElem?_modify]
  split
  · rename_i e2; subst e2; rw [h]; simp [hf]
  · rfl
theorem run_ins_T {P : Program} {w : World} {t k e : TypeId} (ht : P.underlying t = some (.map k e)) (hk : P.underlying k = some (.int .u8)) {b : Nat} {l : List UInt8} (h : MapT w b l)
    (c : UInt8) : ∃ w', (Instr.mapUpdate t (.map (some b)) (.int .u8 (c.toNat : Int)) (.bool true)).run P w = .ok () w' ∧ MapT w' b (addT l c) ∧ w.grownBy w' (some b) := by
  have hb : w.heap[b]? = some (.map (tE 0 l).toArray l.length) := h
  have hlt : b < w.heap.size := (Array.getElem?_eq_some_iff.1 hb).1
  obtain ⟨f1, f2⟩ := find_tE c l 0 0
  cases hc : l.contains c with
  | false =>
    have hfind := f1 hc
    refine ⟨{ w with heap := w.heap.setIfInBounds b (.map ((tE 0 l).toArray.push { key := .int .u8 (c.toNat : Int), val := .bool true, born := l.length }) (l.length + 1)) }, ?_, ?_, ?_⟩
    · simp [Instr.mapUpdate, run_underlying ht, MapKept.run_getObj_map hb, byte_key hk, Instr.findKey, run_underlying hk, hfind, MapKept.run_setObj_map _ hb]
    · unfold addT; rw [hc]
      show (w.heap.setIfInBounds b _)[b]? = some (.map (tE 0 (if false = true then l else l ++ [c])).toArray (if false = true then l else l ++ [c]).length)
      rw [Array.getElem?_setIfInBounds_self_of_lt hlt]
      simp [tE_snoc]
    · exact ⟨rfl, rfl, rfl, by simp, fun j _ hj => by
        show (w.heap.setIfInBounds b _)[j]? = _
        rw [Array.getElem?_setIfInBounds_ne (fun e => hj (by rw [e]))]⟩
  | true =>
    obtain ⟨j, bn, hfind, hat⟩ := f2 hc
    rw [Nat.zero_add] at hfind
    have hat2 : (tE 0 l).toArray[j]? = some { key := .int .u8 (c.toNat : Int), val := .bool true, born := bn } := by simpa using hat
    have hmod := modify_same hat2 (fun e => { e with key := .int .u8 (c.toNat : Int), val := .bool true }) rfl
    refine ⟨{ w with heap := w.heap.setIfInBounds b (.map (tE 0 l).toArray l.length) }, ?_, ?_, ?_⟩
    · simp [Instr.mapUpdate, run_underlying ht, MapKept.run_getObj_map hb, byte_key hk, Instr.findKey, run_underlying hk, hfind, hat, Instr.keyThatStays, Instr.sameBits, MapKept.run_setObj_map _ hb]
      rw [← hmod]
      simp
    · unfold addT; rw [hc]
      show (w.heap.setIfInBounds b _)[b]? = some (.map (tE 0 l).toArray l.length)
      rw [Array.getElem?_setIfInBounds_self_of_lt hlt]
    · exact ⟨rfl, rfl, rfl, by simp, fun j _ hj => by
        show (w.heap.setIfInBounds b _)[j]? = _
        rw [Array.getElem?_setIfInBounds_ne (fun e => hj (by rw [e]))]⟩
theorem run_look_T {P : Program} {w : World} {t k e : TypeId} (ht : P.underlying t = some (.map k e)) (hk : P.underlying k = some (.int .u8)) (hz : (zeroValue e).run P w = .ok (.bool false) w) {b : Nat} {l : List UInt8} (h : MapT w b l) (c : UInt8) :
    (Instr.lookup t (.map (some b)) (.int .u8 (c.toNat : Int)) false).run P w = .ok (.bool (l.contains c)) w := by
  have hb : w.heap[b]? = some (.map (tE 0 l).toArray l.length) := h
  obtain ⟨h1, h2⟩ := find_tE c l 0 0
  cases hq : l.contains c with
  | false => simp [Instr.lookup, run_underlying ht, MapKept.run_getObj_map hb, byte_key hk, Instr.findKey, run_underlying hk, h1 hq, hz, Result.andThen]
  | true =>
    obtain ⟨j, _, hj, _⟩ := h2 hq
    simp [Instr.lookup, run_underlying ht, MapKept.run_getObj_map hb, byte_key hk, Instr.findKey, run_underlying hk, hj, Result.andThen]
theorem zeroBo (w : World) : (zeroValue 4).run Tryd.prog w = .ok (.bool false) w := by kernel_rfl

def toldI (ts : List UInt8) (y mo d h mi s t : Int) : Int := if ts.contains 115 then t else if ts.contains 89 && ts.contains 109 && ts.contains 100 then timeV y mo d h mi s else -1
set_option maxRecDepth 100000 in
set_option maxHeartbeats 4000000 in
theorem implToldTime (y mo d h mi s j t : Int) (b : Nat) (ts : List UInt8) (w : World) (hM : MapT w b ts) (hT : TabsM w) :
    Calls Tryd.prog 33 #[.agg #[.int .i64 y, .int .i64 mo, .int .i64 d, .int .i64 h, .int .i64 mi, .int .i64 s, .int .i64 j, .int .i64 t], .map (some b)] w fun e w' => e = .returned (.int .i64 (toldI ts y mo d h mi s t)) ∧ Below w.heap.size w w' := by
  have hB : Below w.heap.size w (w.alloc (.cells #[.int .i64 y, .int .i64 mo, .int .i64 d, .int .i64 h, .int .i64 mi, .int .i64 s, .int .i64 j, .int .i64 t] 45)) := (Below.refl _ _).alloc (Nat.le_refl _) _
  have HT := Lib.hid (hT.on hB)
  have lk := fun c => run_look_T (P := Tryd.prog) Tryd.underlying48 Tryd.underlying5 (zeroBo _) (hM.on hB) c
  have l115 := lk 115
  have l89 := lk 89
  have l109 := lk 109
  have l100 := lk 100
  rw [show (((115 : UInt8).toNat : Int)) = 115 from rfl] at l115
  rw [show (((89 : UInt8).toNat : Int)) = 89 from rfl] at l89
  rw [show (((109 : UInt8).toNat : Int)) = 109 from rfl] at l109
  rw [show (((100 : UInt8).toNat : Int)) = 100 from rfl] at l100
  have HB := Lib.hid hB
  unfold toldI
  clear hT hM lk hB
  cases h115 : ts.contains 115 with
  | true =>
    rw [h115] at l115
    rw [if_pos rfl]
    clear h115 l89 l109 l100
    go_enter Tryd.func33, Tryd.ntmps33
    go_wp2
    go_ret
    exact ⟨rfl, HB.out⟩
  | false =>
    rw [h115] at l115
    rw [if_neg (by decide)]
    clear h115
    cases h89 : ts.contains 89 with
    | false =>
      rw [h89] at l89
      rw [Bool.false_and, Bool.false_and, if_neg (by decide)]
      clear h89 l109 l100
      go_enter Tryd.func33, Tryd.ntmps33
      go_wp2
      go_ret
      exact ⟨rfl, HB.out⟩
    | true =>
      rw [h89] at l89
      clear h89
      cases h109 : ts.contains 109 with
      | false =>
        rw [h109] at l109
        rw [Bool.true_and, Bool.false_and, if_neg (by decide)]
        clear h109 l100
        go_enter Tryd.func33, Tryd.ntmps33
        go_wp2
        go_ret
        exact ⟨rfl, HB.out⟩
      | true =>
        rw [h109] at l109
        clear h109
        cases h100 : ts.contains 100 with
        | false =>
          rw [h100] at l100
          rw [Bool.true_and, Bool.and_false, if_neg (by decide)]
          clear h100
          go_enter Tryd.func33, Tryd.ntmps33
          go_wp2
          go_ret
          exact ⟨rfl, HB.out⟩
        | true =>
          rw [h100] at l100
          rw [Bool.true_and, Bool.true_and, if_pos rfl]
          clear h100
          have CTi := Lib.hid (fun W hW => implTimeOf y mo d h mi s W hW)
          go_enter Tryd.func33, Tryd.ntmps33
          go_wp2_with fail
          refine (CTi.out _ HT.out).mono ?_
          rintro e W1 ⟨rfl, hb1⟩
          go_wp2
          go_ret
          exact ⟨rfl, HB.out.trans (hb1.mono HB.out.size)⟩
end Go.Proofs.YtbikcldkaogfmaaDoor
