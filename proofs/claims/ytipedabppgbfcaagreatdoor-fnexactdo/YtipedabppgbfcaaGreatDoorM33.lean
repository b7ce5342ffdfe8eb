/- A map of the call's own, told by its keys and values in the order in which they came: a new key, a key anew, a look-up. The contract of impl.TreeOk: identities and folders are kept in maps as one goes. -/
import Derived.Test.YtipedabppgbfcaaGreatDoorM3
import Derived.Maps.Keyed
import Derived.Maps.Own
import Derived.Test.YtipedabppgbfcaaGreatDoorM14
import Derived.Test.YtipedabppgbfcaaGreatDoorM15
namespace Go.Proofs.YtipedabppgbfcaaGreatDoor
open Go.RowKit Go.Maps

set_option linter.unusedSectionVars false
variable {K V : Type} [DecidableEq K]
/-- How keys stand in a map: two are told apart by their values. -/
structure KeyAs (d : TypeDesc) (kv : K → Value) : Prop where
  same : ∀ a b, Instr.sameNow d (kv a) (kv b) = some (decide (a = b))
  key : ∀ a, MapKept.IsKey d (kv a)
  bits : ∀ a, Instr.sameBits 10000 (kv a) (kv a) = true
theorem keyAs_int : KeyAs (.int .i64) (fun a : Int => Value.int .i64 a) :=
  ⟨fun a b => by
    simp only [Instr.sameNow, if_true, Option.some.injEq]
    rw [Bool.eq_iff_iff]; simp, fun a => by simp [MapKept.IsKey], fun a => by simp [Instr.sameBits]⟩
theorem strOf_one {a b : List UInt8} (h : strOf a = strOf b) : a = b := by
  have := congrArg (fun s : ByteArray => s.data.toList) h
  simpa [strOf] using this
theorem keyAs_str : KeyAs .string (fun a : List UInt8 => Value.string (strOf a)) :=
  ⟨fun a b => by
    simp only [Instr.sameNow, Option.some.injEq]
    rw [Bool.eq_iff_iff]
    rw [MapKept.bytes_beq, decide_eq_true_eq]
    exact ⟨strOf_one, fun e => by rw [e]⟩, fun a => by simp [MapKept.IsKey], fun a => by
    simp only [Instr.sameBits]; exact (MapKept.bytes_beq _ _).2 rfl⟩

def mapE (kv : K → Value) (vv : V → Value) : Nat → List (K × V) → List MapEntry
  | _, [] => []
  | n, p :: r => { key := kv p.1, val := vv p.2, born := n } :: mapE kv vv (n + 1) r
theorem mapE_snoc (kv : K → Value) (vv : V → Value) : ∀ (n : Nat) (l : List (K × V)) (p : K × V), mapE kv vv n (l ++ [p]) = mapE kv vv n l ++ [{ key := kv p.1, val := vv p.2, born := n + l.length }]
  | n, [], p => by simp [mapE]
  | n, q :: r, p => by rw [List.cons_append, mapE, mapE_snoc kv vv (n + 1) r p]; simp [mapE]; omega
def lookK (c : K) : List (K × V) → Option V
  | [] => none
  | p :: r => if p.1 = c then some p.2 else lookK c r
/-- The map behind a store. -/
def putK (c : K) (v : V) : List (K × V) → List (K × V)
  | [] => [(c, v)]
  | p :: r => if p.1 = c then (c, v) :: r else p :: putK c v r
theorem putK_new (c : K) (v : V) : ∀ l : List (K × V), lookK c l = none → putK c v l = l ++ [(c, v)]
  | [], _ => rfl
  | p :: r, h => by
    unfold lookK at h
    by_cases e : p.1 = c
    · rw [if_pos e] at h; cases h
    · rw [if_neg e] at h
      rw [putK, if_neg e, putK_new c v r h]; rfl
theorem look_put (c d : K) (v : V) : ∀ l : List (K × V), lookK d (putK c v l) = if c = d then some v else lookK d l
  | [] => by simp [putK, lookK]
  | p :: r => by
    unfold putK
    by_cases e : p.1 = c
    · rw [if_pos e]
      by_cases h : c = d
      · simp [lookK, h]
      · rw [if_neg h]; simp only [lookK]; rw [if_neg h, if_neg (by rw [e]; exact h)]
    · rw [if_neg e]
      simp only [lookK]
      rw [look_put c d v r]
      by_cases h : c = d
      · subst h; rw [if_neg e, if_pos rfl, if_pos rfl]
      · rw [if_neg h, if_neg h]
theorem put_len (c : K) (v : V) : ∀ l : List (K × V), (putK c v l).length ≤ l.length + 1
  | [] => by simp [putK]
  | p :: r => by
    have := put_len c v r
    unfold putK; split <;> simp <;> omega
theorem find_mapE {d : TypeDesc} {kv : K → Value} (hk : KeyAs d kv) (vv : V → Value) (c : K) : ∀ (l : List (K × V)) (n i : Nat),
    (lookK c l = none → Instr.findNow d (kv c) (mapE kv vv n l) i = some none) ∧
    ∀ v, lookK c l = some v → ∃ j, Instr.findNow d (kv c) (mapE kv vv n l) i = some (some (i + j, vv v)) ∧ ((mapE kv vv n l)[j]?).map (·.key) = some (kv c) ∧
      ∀ u : V, (putK c u l).length = l.length ∧ (mapE kv vv n l).modify j (fun e => { e with key := kv c, val := vv u }) = mapE kv vv n (putK c u l)
  | [], n, i => ⟨fun _ => rfl, fun v h => by cases h⟩
  | p :: r, n, i => by
    by_cases h : p.1 = c
    · refine ⟨fun h2 => ?_, fun v h2 => ⟨0, ?_, ?_, fun u => ⟨?_, ?_⟩⟩⟩
      · rw [lookK, if_pos h] at h2; cases h2
      · rw [lookK, if_pos h] at h2
        cases h2
        rw [mapE, Instr.findNow, hk.same, decide_eq_true h.symm]; simp
      · simp [mapE, h]
      · rw [putK, if_pos h]; rfl
      · rw [putK, if_pos h]; simp [mapE]
    · have hs : Instr.sameNow d (kv c) (kv p.1) = some false := by rw [hk.same, decide_eq_false (fun e => h e.symm)]
      obtain ⟨i1, i2⟩ := find_mapE hk vv c r (n + 1) (i + 1)
      rw [lookK, if_neg h, mapE, Instr.findNow, hs]
      refine ⟨i1, fun v h2 => ?_⟩
      obtain ⟨j, h3, h4, h5⟩ := i2 v h2
      refine ⟨j + 1, by rw [show i + (j + 1) = i + 1 + j by omega]; exact h3, h4, fun u => ?_⟩
      obtain ⟨h6, h7⟩ := h5 u
      rw [putK, if_neg h]
      exact ⟨by simp [h6], by rw [List.modify_succ_cons, h7, mapE]⟩
/-- Block b is the map of these. -/
def MapIs (kv : K → Value) (vv : V → Value) (w : World) (b : Nat) (l : List (K × V)) : Prop := w.heap[b]? = some (.map (mapE kv vv 0 l).toArray l.length)
theorem MapIs.lt {kv : K → Value} {vv : V → Value} {w : World} {b : Nat} {l : List (K × V)} (h : MapIs kv vv w b l) : b < w.heap.size := (Array.getElem?_eq_some_iff.1 h).1
theorem MapIs.on {kv : K → Value} {vv : V → Value} {w w' : World} {b : Nat} {l : List (K × V)} (h : MapIs kv vv w b l) (hb : Below w.heap.size w w') : MapIs kv vv w' b l := (hb.block b h.lt).trans h
theorem MapIs.kept {kv : K → Value} {vv : V → Value} {w w' : World} {b : Nat} {l : List (K × V)} {row : Option Nat} (h : MapIs kv vv w b l) (hg : w.grownBy w' row) (hne : some b ≠ row) : MapIs kv vv w' b l := (hg.block b h.lt hne).trans h
theorem run_ins {P : Program} {w : World} {t k e : TypeId} {d : TypeDesc} {kv : K → Value} {vv : V → Value} (hA : KeyAs d kv) (ht : P.underlying t = some (.map k e)) (hk : P.underlying k = some d) {b : Nat} {l : List (K × V)} (h : MapIs kv vv w b l)
    (c : K) (v : V) : ∃ w', (Instr.mapUpdate t (.map (some b)) (kv c) (vv v)).run P w = .ok () w' ∧ MapIs kv vv w' b (putK c v l) ∧ w.grownBy w' (some b) := by
  have hb : w.heap[b]? = some (.map (mapE kv vv 0 l).toArray l.length) := h
  have hlt : b < w.heap.size := h.lt
  obtain ⟨f1, f2⟩ := find_mapE hA vv c l 0 0
  have hck := MapKept.run_checkKey (w := w) hk (hA.key c) false 9999
  cases hc : lookK c l with
  | none =>
    have hfind := f1 hc
    refine ⟨{ w with heap := w.heap.setIfInBounds b (.map ((mapE kv vv 0 l).toArray.push { key := kv c, val := vv v, born := l.length }) (l.length + 1)) }, ?_, ?_, ?_⟩
    · simp [Instr.mapUpdate, run_underlying ht, MapKept.run_getObj_map hb, hck, Instr.findKey, run_underlying hk, hfind, MapKept.run_setObj_map _ hb]
    · show (w.heap.setIfInBounds b _)[b]? = _
      rw [Array.getElem?_setIfInBounds_self_of_lt hlt, putK_new c v l hc, mapE_snoc]
      simp
    · exact ⟨rfl, rfl, rfl, by simp, fun j _ hj => by
        show (w.heap.setIfInBounds b _)[j]? = _
        rw [Array.getElem?_setIfInBounds_ne (fun e => hj (by rw [e]))]⟩
  | some v0 =>
    obtain ⟨j, hfind, hat, hset⟩ := f2 v0 hc
    obtain ⟨hl, hmod⟩ := hset v
    rw [Nat.zero_add] at hfind
    have hat2 : ((mapE kv vv 0 l).toArray[j]?).map (·.key) = some (kv c) := by simpa using hat
    refine ⟨{ w with heap := w.heap.setIfInBounds b (.map (mapE kv vv 0 (putK c v l)).toArray l.length) }, ?_, ?_, ?_⟩
    · have hmod2 : (mapE kv vv 0 l).toArray.modify j (fun e => { e with key := kv c, val := vv v }) = (mapE kv vv 0 (putK c v l)).toArray := by
        rw [← hmod]; simp
      simp only [Instr.mapUpdate, Sem.run_bind, run_underlying ht, Result.andThen, MapKept.run_getObj_map hb, hck, Instr.findKey, run_underlying hk, hfind, Sem.run_pure, hat2, Option.getD_some, Instr.keyThatStays, hA.bits, if_true, hmod2, MapKept.run_setObj_map _ hb]
    · show (w.heap.setIfInBounds b _)[b]? = _
      rw [Array.getElem?_setIfInBounds_self_of_lt hlt, hl]
    · exact ⟨rfl, rfl, rfl, by simp, fun j _ hj => by
        show (w.heap.setIfInBounds b _)[j]? = _
        rw [Array.getElem?_setIfInBounds_ne (fun e => hj (by rw [e]))]⟩
/-- m[k] -/
theorem run_look {P : Program} {w : World} {t k e : TypeId} {d : TypeDesc} {kv : K → Value} {vv : V → Value} (hA : KeyAs d kv) (ht : P.underlying t = some (.map k e)) (hk : P.underlying k = some d) {z : V} (hz : (zeroValue e).run P w = .ok (vv z) w) {b : Nat} {l : List (K × V)} (h : MapIs kv vv w b l) (c : K) :
    (Instr.lookup t (.map (some b)) (kv c) false).run P w = .ok (vv ((lookK c l).getD z)) w := by
  have hb : w.heap[b]? = some (.map (mapE kv vv 0 l).toArray l.length) := h
  obtain ⟨h1, h2⟩ := find_mapE hA vv c l 0 0
  have hck := fun em => MapKept.run_checkKey (w := w) hk (hA.key c) em 9999
  cases hq : lookK c l with
  | none => simp [Instr.lookup, run_underlying ht, MapKept.run_getObj_map hb, hck, Instr.findKey, run_underlying hk, h1 hq, hz, Result.andThen]
  | some v =>
    obtain ⟨j, hj, _⟩ := h2 v hq
    simp [Instr.lookup, run_underlying ht, MapKept.run_getObj_map hb, hck, Instr.findKey, run_underlying hk, hj, Result.andThen]
/-- v, ok := m[k] -/
theorem run_look_ok {P : Program} {w : World} {t k e : TypeId} {d : TypeDesc} {kv : K → Value} {vv : V → Value} (hA : KeyAs d kv) (ht : P.underlying t = some (.map k e)) (hk : P.underlying k = some d) {z : V} (hz : (zeroValue e).run P w = .ok (vv z) w) {b : Nat} {l : List (K × V)} (h : MapIs kv vv w b l) (c : K) :
    (Instr.lookup t (.map (some b)) (kv c) true).run P w = .ok (.tuple #[vv ((lookK c l).getD z), .bool (lookK c l).isSome]) w := by
  have hb : w.heap[b]? = some (.map (mapE kv vv 0 l).toArray l.length) := h
  obtain ⟨h1, h2⟩ := find_mapE hA vv c l 0 0
  have hck := fun em => MapKept.run_checkKey (w := w) hk (hA.key c) em 9999
  cases hq : lookK c l with
  | none => simp [Instr.lookup, run_underlying ht, MapKept.run_getObj_map hb, hck, Instr.findKey, run_underlying hk, h1 hq, hz, Result.andThen]
  | some v =>
    obtain ⟨j, hj, _⟩ := h2 v hq
    simp [Instr.lookup, run_underlying ht, MapKept.run_getObj_map hb, hck, Instr.findKey, run_underlying hk, hj, Result.andThen]
end Go.Proofs.YtipedabppgbfcaaGreatDoor
namespace Go.Proofs.YtipedabppgbfcaaGreatDoor
open Go.RowKit Go.Maps

theorem zeroBool (w : World) : (zeroValue 4).run Tryz.prog w = .ok (.bool false) w := by kernel_rfl
theorem implBeforeB (a b : List UInt8) (w : World) :
    Calls Tryz.prog 67 #[.string (strOf a), .string (strOf b)] w fun e w' => e = .returned (.bool (lessB a b)) ∧ w = w' := by
  have h := implBefore (strOf a) (strOf b) w
  rw [Lib.toList_data, Lib.toList_data, strOf_data, strOf_data] at h
  exact h
theorem lastP_zero (ns : List Nd) : lastP ns 0 = [] := rfl
theorem lastP_succ {ns : List Nd} {k : Nat} (h : k < ns.length) : lastP ns (k + 1) = ns[k].path := by
  unfold lastP
  rw [if_neg (by omega), show k + 1 - 1 = k by omega, List.getElem?_eq_getElem h]
theorem free_zero (ns : List Nd) (c : Int) : freeB ns 0 c = true := by simp [freeB]
theorem fold_zero (ns : List Nd) (p : List UInt8) : foldB ns 0 p = (p == [47]) := by simp [foldB]
/-- What the two maps tell. -/
def Ids (ns : List Nd) (k : Nat) (l : List (Int × Bool)) : Prop := ∀ c, (lookK c l).getD false = !freeB ns k c
def Folds (ns : List Nd) (k : Nat) (l : List (List UInt8 × Bool)) : Prop := ∀ p, (lookK p l).getD false = foldB ns k p
theorem Ids.next {ns : List Nd} {k : Nat} {l : List (Int × Bool)} (h : Ids ns k l) (hk : k < ns.length) : Ids ns (k + 1) (putK ns[k].id true l) := fun c => by
  rw [look_put, free_succ hk]
  by_cases e : ns[k].id = c
  · rw [if_pos e]; simp [e]
  · rw [if_neg e, h c]; simp [e]
theorem Folds.next {ns : List Nd} {k : Nat} {l : List (List UInt8 × Bool)} {next : Int} (h : Folds ns k l) (hk : k < ns.length) (hg : ∀ j, j < ns.length → j < k + 1 → goB ns next j = true) : Folds ns (k + 1) (putK ns[k].path ns[k].dir l) := fun p => by
  rw [look_put, fold_succ hk]
  by_cases e : ns[k].path = p
  · rw [if_pos e, ← e, fold_new hk hg]; simp
  · rw [if_neg e, h p]; simp [e]

set_option maxRecDepth 100000 in
set_option maxHeartbeats 8000000 in
theorem implTreeOk (w : World) (v : Value) (ns : List Nd) (next : Int) (h : NRd w v ns) (hz : ∀ n ∈ ns, n.path.length ≤ 2000000 ∧ n.data.length ≤ 2000000) :
    Calls Tryz.prog 20 #[.agg #[v, .int .i64 next]] w fun e w' => e = .returned (.bool (treeB ns next)) ∧ Below w.heap.size w w' := by
  obtain ⟨a1, k1, rfl⟩ : ∃ a c, v = .slice a ns.length c := by obtain ⟨a, c, h, _⟩ := h; exact ⟨a, c, h⟩
  have hb0 : Below w.heap.size w (w.alloc (.cells #[.slice a1 ns.length k1, .int .i64 next] 26)) := (Below.refl _ _).alloc (Nat.le_refl _) _
  have BK := Lib.hid (Blk.new w #[.slice a1 ns.length k1, .int .i64 next] 26)
  have HB0 := Lib.hid hb0
  have HN0 := Lib.hid h
  have hlen : (ns.length : Int) ≤ 9223372036854775807 := by
    obtain ⟨_, _, _, h2, h3, _⟩ := h
    unfold maxLen at h3; omega
  clear hb0 h
  by_cases h60 : ns.length ≤ 60
  rotate_left
  · have hi : 60 < (ns.length : Int) := by omega
    have HV := Lib.hid (tree_many (next := next) (show 60 < ns.length by omega))
    go_enter Tryz.func20, Tryz.ntmps20
    go_wp2
    go_ret
    exact ⟨ret_bool (by rw [HV.out]), HB0.out⟩
  have h60i : ¬ 60 < (ns.length : Int) := by omega
  by_cases hn1 : 1 ≤ next
  rotate_left
  · have hn1i : next < 1 := by omega
    have HV := Lib.hid (tree_next (ns := ns) (show inB next 1 1000000 = false from inB_f (by omega)))
    go_enter Tryz.func20, Tryz.ntmps20
    go_wp2
    go_ret
    exact ⟨ret_bool (by rw [HV.out]), HB0.out⟩
  have hn1i : ¬ next < 1 := by omega
  by_cases hn2 : next ≤ 1000000
  rotate_left
  · have hn2i : 1000000 < next := by omega
    have HV := Lib.hid (tree_next (ns := ns) (show inB next 1 1000000 = false from inB_f (by omega)))
    go_enter Tryz.func20, Tryz.ntmps20
    go_wp2
    go_ret
    exact ⟨ret_bool (by rw [HV.out]), HB0.out⟩
  have hn2i : ¬ 1000000 < next := by omega
  have HNX := Lib.hid (inB_t hn1 hn2)
  have HZ := Lib.hid hz
  have hmm := @run_makeMap Tryz.prog
  obtain ⟨wa, hwa⟩ : ∃ wa, w.alloc (.cells #[.slice a1 ns.length k1, .int .i64 next] 26) = wa := ⟨_, rfl⟩
  have hsa : wa.heap.size = w.heap.size + 1 := by rw [← hwa]; simp
  have m1 : MapIs (fun a : Int => Value.int .i64 a) (fun b : Bool => Value.bool b) ((wa.alloc (.map #[] 0)).alloc (.map #[] 0)) (w.heap.size + 1) [] := by
    have h1 : MapIs (fun a : Int => Value.int .i64 a) (fun b : Bool => Value.bool b) (wa.alloc (.map #[] 0)) (w.heap.size + 1) [] := by rw [← hsa]; exact heap_alloc_new wa _
    exact h1.on ((Below.refl _ _).alloc (Nat.le_refl _) _)
  have m2 : MapIs (fun a : List UInt8 => Value.string (strOf a)) (fun b : Bool => Value.bool b) ((wa.alloc (.map #[] 0)).alloc (.map #[] 0)) (w.heap.size + 2) [] := by
    have hs2 : (wa.alloc (.map #[] 0)).heap.size = w.heap.size + 2 := by simp [hsa]
    rw [← hs2]; exact heap_alloc_new _ _
  obtain ⟨wm, hr1, m3, hg3⟩ := run_ins keyAs_str Tryz.underlying91 Tryz.underlying9 m2 [47] true
  have m4 := m1.kept hg3 (by simp)
  have hbm : Below (w.heap.size + 1) wa wm := (((Below.refl _ _).alloc (by omega) _).alloc (by simp; omega) _).grown hg3 (by simp; omega) (fun k e => by cases e; omega)
  rw [show strOf [47] = (⟨#[47]⟩ : ByteArray) from rfl] at hr1
  have M3 := Lib.hid m3
  have M4 := Lib.hid m4
  have HBM := Lib.hid hbm
  have HID := Lib.hid (show Ids ns 0 [] from fun c => by rw [free_zero]; rfl)
  have HFO := Lib.hid (show Folds ns 0 (putK [47] true []) from fun p => by
    rw [fold_zero, look_put]
    by_cases e : [47] = p
    · rw [if_pos e, ← e]; rfl
    · rw [if_neg e]
      have : (p == [47]) = false := by simpa using fun e2 => e e2.symm
      rw [this]; rfl)
  have BKA : Blk wa w.heap.size #[.slice a1 ns.length k1, .int .i64 next] 26 := by rw [← hwa]; exact BK.out
  have BKM := Lib.hid (BKA.below hbm (by omega))
  have HBW := Lib.hid (show Below w.heap.size w wm from (hwa ▸ HB0.out).trans (hbm.mono (by omega)))
  have q0 := BKA.cell 0
  have q1 := BKA.cell 1
  have r0 := BKM.out.cell 0
  have r1 := BKM.out.cell 1
  simp at q0 q1 r0 r1
  have hszm := hbm.size
  clear hz m1 m2 m3 m4 hg3 hbm BKA
  go_enter Tryz.func20, Tryz.ntmps20
  go_wp2
  go_loopw [3, 7, 28] (fun lv _ i W => ∃ (k : Nat) (l1 : List (Int × Bool)) (l2 : List (List UInt8 × Bool)), k ≤ ns.length ∧ i = .int .i64 k ∧ lv = .string (strOf (lastP ns k)) ∧ Hid (∀ j, j < ns.length → j < k → goB ns next j = true) ∧ Hid (Ids ns k l1) ∧ Hid (Folds ns k l2) ∧ MapIs (fun a : Int => Value.int .i64 a) (fun b : Bool => Value.bool b) W (w.heap.size + 1) l1 ∧ MapIs (fun a : List UInt8 => Value.string (strOf a)) (fun b : Bool => Value.bool b) W (w.heap.size + 2) l2 ∧ Below (w.heap.size + 1) wm W ∧ w.heap.size + 3 ≤ W.heap.size) (fun _ _ i _ => ns.length - (intOf i).toNat)
  case atStart => exact ⟨0, _, _, Nat.zero_le _, rfl, rfl, Lib.hid (fun j _ hj => by omega), HID, HFO, M4.out, M3.out, Below.refl _ _, by have := M3.out.lt; omega⟩
  case round =>
    obtain ⟨k, l1, l2, hk, rfl, rfl, HST, HI, HF, hM1, hM2, hb, hsz3⟩ := hrel
    have HB := Lib.hid hb
    have HM1 := Lib.hid hM1
    have HM2 := Lib.hid hM2
    have BKW := Lib.hid (BKM.out.below hb (by omega))
    have HNW := Lib.hid (HN0.out.on (HBW.out.trans (hb.mono (by omega))))
    have b0 := BKW.out.cell 0
    have b1 := BKW.out.cell 1
    have hbz := hb.size
    simp at b0 b1
    clear hb hM1 hM2
    by_cases hlt : k < ns.length
    rotate_left
    · have hki : ¬ (k : Int) < (ns.length : Int) := by omega
      have HV := Lib.hid (tree_is_go h60 HNX.out (fun i hi => HST.out i hi (by omega)))
      go_wp2
      go_ret
      exact ⟨ret_bool (by rw [HV.out]), HBW.out.trans (HB.out.mono (by omega))⟩
    have hki : (k : Int) < (ns.length : Int) := by omega
    obtain ⟨g, cap, hs, hg, hlc, hcm, hc⟩ := HNW.out.at (by intro e; subst e; simp at hlt)
    simp only [Value.slice.injEq] at hs
    obtain ⟨rfl, _, rfl⟩ := hs
    unfold maxLen at hcm
    have hck := hc k hlt
    obtain ⟨hz1, hz2⟩ := HZ.out ns[k] (List.getElem_mem hlt)
    have HGA := Lib.hid (go_at (next := next) hlt)
    have HI1 := Lib.hid (HI.out ns[k].id)
    have HF1 := Lib.hid (HF.out (dirV ns[k].path))
    have HIN := Lib.hid (HI.out.next hlt)
    have HFN := Lib.hid (fun hg => Folds.next (next := next) HF.out hlt hg)
    have HLP := Lib.hid (lastP_succ hlt)
    obtain ⟨nd, hnd⟩ : ∃ nd, ns[k] = nd := ⟨_, rfl⟩
    rw [hnd, node_split] at HGA
    rw [hnd] at hck hz1 hz2 HI1 HF1 HIN HFN HLP
    obtain ⟨d0, d1, d2, d3, d4, d5⟩ := hck
    obtain ⟨W, hW⟩ : ∃ W, wr.alloc (.cells #[.string (strOf nd.path), .bool nd.dir, .int .i64 nd.mode, .int .i64 nd.time, .int .i64 nd.id, .string (strOf nd.data)] 37) = W := ⟨_, rfl⟩
    have hal : Below wr.heap.size wr W := by rw [← hW]; exact (Below.refl _ _).alloc (Nat.le_refl _) _
    have BKN := Lib.hid (show Blk W wr.heap.size #[.string (strOf nd.path), .bool nd.dir, .int .i64 nd.mode, .int .i64 nd.time, .int .i64 nd.id, .string (strOf nd.data)] 37 by rw [← hW]; exact Blk.new _ _ _)
    have BKT := Lib.hid (BKW.out.on hal)
    have HAL := Lib.hid (HB.out.trans (hal.mono (by omega)))
    have hsW := hal.size
    have C1 := Lib.hid (implNode nd W hz1 hz2)
    have C2 := Lib.hid (fun V => implBeforeB (lastP ns k) nd.path V)
    have C3 := Lib.hid (show ∀ V, Calls Tryz.prog 68 #[.string (strOf nd.path)] V fun e w' => e = .returned (.string (strOf (dirV nd.path))) ∧ Below V.heap.size V w' from fun V => by
      have := implDirOf (strOf nd.path) V (by rw [strOf_size]; omega)
      rw [strOf_data] at this; exact this)
    have f0 := BKN.out.cell 0
    have f1 := BKN.out.cell 1
    have f2 := BKN.out.cell 2
    have f3 := BKN.out.cell 3
    have f4 := BKN.out.cell 4
    have f5 := BKN.out.cell 5
    simp at f0 f1 f2 f3 f4 f5
    clear hz1 hz2 hc
    generalize nodeI nd = b1 at C1 HGA
    generalize freeB ns k nd.id = b3 at HI1 HGA
    generalize lessB (lastP ns k) nd.path = b4 at C2 HGA
    generalize foldB ns k (dirV nd.path) = b5 at HF1 HGA
    cases b1 with
    | false =>
      have HV := Lib.hid (tree_not_go hlt (by rw [HGA.out]; rfl))
      go_wp2_with fail
      refine C1.out.mono ?_
      rintro e W2 ⟨rfl, hb2⟩
      have n0 := (BKN.out.on hb2).cell 0
      have n1 := (BKN.out.on hb2).cell 1
      have n4 := (BKN.out.on hb2).cell 4
      have t1 := (BKT.out.on hb2).cell 1
      simp at n0 n1 n4 t1
      have m1 := (HM1.out.on hal).on hb2
      have m2 := (HM2.out.on hal).on hb2
      have lk1 := run_look keyAs_int Tryz.underlying90 Tryz.underlying3 (zeroBool W2) (z := false) m1 nd.id
      rw [HI1.out] at lk1
      have HM3 := Lib.hid m1
      have HM4 := Lib.hid m2
      have HBN2 := Lib.hid (BKN.out.on hb2)
      have HBT2 := Lib.hid (BKT.out.on hb2)
      have HB2 := Lib.hid (HAL.out.trans (hb2.mono (by have := HAL.out.size; omega)))
      have hs2 := hb2.size
      clear hb2 m1 m2
      go_wp2
      go_ret
      exact ⟨ret_bool (by rw [HV.out]), HBW.out.trans (HB2.out.mono (by omega))⟩
    | true =>
      by_cases hid : nd.id < next
      rotate_left
      · have hidi : next ≤ nd.id := by omega
        have HV := Lib.hid (tree_not_go hlt (by rw [HGA.out, decide_eq_false hid]; rfl))
        go_wp2_with fail
        refine C1.out.mono ?_
        rintro e W2 ⟨rfl, hb2⟩
        have n0 := (BKN.out.on hb2).cell 0
        have n1 := (BKN.out.on hb2).cell 1
        have n4 := (BKN.out.on hb2).cell 4
        have t1 := (BKT.out.on hb2).cell 1
        simp at n0 n1 n4 t1
        have m1 := (HM1.out.on hal).on hb2
        have m2 := (HM2.out.on hal).on hb2
        have lk1 := run_look keyAs_int Tryz.underlying90 Tryz.underlying3 (zeroBool W2) (z := false) m1 nd.id
        rw [HI1.out] at lk1
        have HM3 := Lib.hid m1
        have HM4 := Lib.hid m2
        have HBN2 := Lib.hid (BKN.out.on hb2)
        have HBT2 := Lib.hid (BKT.out.on hb2)
        have HB2 := Lib.hid (HAL.out.trans (hb2.mono (by have := HAL.out.size; omega)))
        have hs2 := hb2.size
        clear hb2 m1 m2
        go_wp2
        go_ret
        exact ⟨ret_bool (by rw [HV.out]), HBW.out.trans (HB2.out.mono (by omega))⟩
      · have hidi : ¬ next ≤ nd.id := by omega
        have HG2 := Lib.hid (show goB ns next k = (b3 && (b4 && b5)) by rw [HGA.out, decide_eq_true hid]; rfl)
        clear hid
        cases b3 with
        | false =>
          have HV := Lib.hid (tree_not_go hlt (by rw [HG2.out]; rfl))
          go_wp2_with fail
          refine C1.out.mono ?_
          rintro e W2 ⟨rfl, hb2⟩
          have n0 := (BKN.out.on hb2).cell 0
          have n1 := (BKN.out.on hb2).cell 1
          have n4 := (BKN.out.on hb2).cell 4
          have t1 := (BKT.out.on hb2).cell 1
          simp at n0 n1 n4 t1
          have m1 := (HM1.out.on hal).on hb2
          have m2 := (HM2.out.on hal).on hb2
          have lk1 := run_look keyAs_int Tryz.underlying90 Tryz.underlying3 (zeroBool W2) (z := false) m1 nd.id
          rw [HI1.out] at lk1
          have HM3 := Lib.hid m1
          have HM4 := Lib.hid m2
          have HBN2 := Lib.hid (BKN.out.on hb2)
          have HBT2 := Lib.hid (BKT.out.on hb2)
          have HB2 := Lib.hid (HAL.out.trans (hb2.mono (by have := HAL.out.size; omega)))
          have hs2 := hb2.size
          clear hb2 m1 m2
          go_wp2
          go_ret
          exact ⟨ret_bool (by rw [HV.out]), HBW.out.trans (HB2.out.mono (by omega))⟩
        | true =>
          cases b4 with
          | false =>
            have HV := Lib.hid (tree_not_go hlt (by rw [HG2.out]; rfl))
            go_wp2_with fail
            refine C1.out.mono ?_
            rintro e W2 ⟨rfl, hb2⟩
            have n0 := (BKN.out.on hb2).cell 0
            have n1 := (BKN.out.on hb2).cell 1
            have n4 := (BKN.out.on hb2).cell 4
            have t1 := (BKT.out.on hb2).cell 1
            simp at n0 n1 n4 t1
            have m1 := (HM1.out.on hal).on hb2
            have m2 := (HM2.out.on hal).on hb2
            have lk1 := run_look keyAs_int Tryz.underlying90 Tryz.underlying3 (zeroBool W2) (z := false) m1 nd.id
            rw [HI1.out] at lk1
            have HM3 := Lib.hid m1
            have HM4 := Lib.hid m2
            have HBN2 := Lib.hid (BKN.out.on hb2)
            have HBT2 := Lib.hid (BKT.out.on hb2)
            have HB2 := Lib.hid (HAL.out.trans (hb2.mono (by have := HAL.out.size; omega)))
            have hs2 := hb2.size
            clear hb2 m1 m2
            go_wp2_with fail
            refine (C2.out _).mono ?_
            rintro e w' ⟨rfl, rfl⟩
            go_wp2
            go_ret
            exact ⟨ret_bool (by rw [HV.out]), HBW.out.trans (HB2.out.mono (by omega))⟩
          | true =>
            cases b5 with
            | false =>
              have HV := Lib.hid (tree_not_go hlt (by rw [HG2.out]; rfl))
              go_wp2_with fail
              refine C1.out.mono ?_
              rintro e W2 ⟨rfl, hb2⟩
              have n0 := (BKN.out.on hb2).cell 0
              have n1 := (BKN.out.on hb2).cell 1
              have n4 := (BKN.out.on hb2).cell 4
              have t1 := (BKT.out.on hb2).cell 1
              simp at n0 n1 n4 t1
              have m1 := (HM1.out.on hal).on hb2
              have m2 := (HM2.out.on hal).on hb2
              have lk1 := run_look keyAs_int Tryz.underlying90 Tryz.underlying3 (zeroBool W2) (z := false) m1 nd.id
              rw [HI1.out] at lk1
              have HM3 := Lib.hid m1
              have HM4 := Lib.hid m2
              have HBN2 := Lib.hid (BKN.out.on hb2)
              have HBT2 := Lib.hid (BKT.out.on hb2)
              have HB2 := Lib.hid (HAL.out.trans (hb2.mono (by have := HAL.out.size; omega)))
              have hs2 := hb2.size
              clear hb2 m1 m2
              go_wp2_with fail
              refine (C2.out _).mono ?_
              rintro e w' ⟨rfl, rfl⟩
              go_wp2_with fail
              refine (C3.out W2).mono ?_
              rintro e W3 ⟨rfl, hb3⟩
              have m1 := HM3.out.on hb3
              have m2 := HM4.out.on hb3
              have n0 := (HBN2.out.on hb3).cell 0
              have n1 := (HBN2.out.on hb3).cell 1
              have n4 := (HBN2.out.on hb3).cell 4
              simp at n0 n1 n4
              have lk2 := run_look keyAs_str Tryz.underlying91 Tryz.underlying9 (zeroBool W3) (z := false) m2 (dirV nd.path)
              rw [HF1.out] at lk2
              have HM5 := Lib.hid m1
              have HM6 := Lib.hid m2
              have HBN3 := Lib.hid (HBN2.out.on hb3)
              have HBT3 := Lib.hid (HBT2.out.on hb3)
              have HB3 := Lib.hid (HB2.out.trans (hb3.mono (by have := HB2.out.size; omega)))
              have hs3 := hb3.size
              clear hb3 m1 m2
              go_wp2
              go_ret
              exact ⟨ret_bool (by rw [HV.out]), HBW.out.trans (HB3.out.mono (by omega))⟩
            | true =>
              go_wp2_with fail
              refine C1.out.mono ?_
              rintro e W2 ⟨rfl, hb2⟩
              have n0 := (BKN.out.on hb2).cell 0
              have n1 := (BKN.out.on hb2).cell 1
              have n4 := (BKN.out.on hb2).cell 4
              have t1 := (BKT.out.on hb2).cell 1
              simp at n0 n1 n4 t1
              have m1 := (HM1.out.on hal).on hb2
              have m2 := (HM2.out.on hal).on hb2
              have lk1 := run_look keyAs_int Tryz.underlying90 Tryz.underlying3 (zeroBool W2) (z := false) m1 nd.id
              rw [HI1.out] at lk1
              have HM3 := Lib.hid m1
              have HM4 := Lib.hid m2
              have HBN2 := Lib.hid (BKN.out.on hb2)
              have HBT2 := Lib.hid (BKT.out.on hb2)
              have HB2 := Lib.hid (HAL.out.trans (hb2.mono (by have := HAL.out.size; omega)))
              have hs2 := hb2.size
              clear hb2 m1 m2
              go_wp2_with fail
              refine (C2.out _).mono ?_
              rintro e w' ⟨rfl, rfl⟩
              go_wp2_with fail
              refine (C3.out W2).mono ?_
              rintro e W3 ⟨rfl, hb3⟩
              have m1 := HM3.out.on hb3
              have m2 := HM4.out.on hb3
              have n0 := (HBN2.out.on hb3).cell 0
              have n1 := (HBN2.out.on hb3).cell 1
              have n4 := (HBN2.out.on hb3).cell 4
              simp at n0 n1 n4
              have lk2 := run_look keyAs_str Tryz.underlying91 Tryz.underlying9 (zeroBool W3) (z := false) m2 (dirV nd.path)
              rw [HF1.out] at lk2
              have HM5 := Lib.hid m1
              have HM6 := Lib.hid m2
              have HBN3 := Lib.hid (HBN2.out.on hb3)
              have HBT3 := Lib.hid (HBT2.out.on hb3)
              have HB3 := Lib.hid (HB2.out.trans (hb3.mono (by have := HB2.out.size; omega)))
              have hs3 := hb3.size
              clear hb3 m1 m2
              have HM7 := Lib.hid (HM5.out.on (Below.refl W3.heap.size W3).drew)
              have HM8 := Lib.hid (HM6.out.on (Below.refl W3.heap.size W3).drew)
              have HB4 := Lib.hid (HB3.out.drew)
              have HBN4 := Lib.hid (HBN3.out.on (Below.refl W3.heap.size W3).drew)
              have hs4 : W3.drew.heap.size = W3.heap.size := rfl
              obtain ⟨W5, hi5, hm5, hg5⟩ := run_ins keyAs_int Tryz.underlying90 Tryz.underlying3 HM7.out nd.id true
              have hm6 := HM8.out.kept hg5 (by simp)
              have hb5 := HB4.out.grown hg5 (by simp; omega) (fun j e => by cases e; omega)
              obtain ⟨W6, hi6, hm7, hg6⟩ := run_ins keyAs_str Tryz.underlying91 Tryz.underlying9 hm6 nd.path nd.dir
              have hm8 := hm5.kept hg6 (by simp)
              have hb6 := hb5.grown hg6 (by have := hg5.size; simp at this; omega) (fun j e => by cases e; omega)
              have hs6 : W3.heap.size ≤ W6.heap.size := Nat.le_trans hg5.size hg6.size
              have H7 := Lib.hid hm7
              have H8 := Lib.hid hm8
              have HB6 := Lib.hid hb6
              clear hm5 hm6 hm7 hm8 hb5 hb6
              have e0 := (HBN4.out.grown hg5 (by simp; omega)).cell 0
              have e1 := (HBN4.out.grown hg5 (by simp; omega)).cell 1
              have e4 := (HBN4.out.grown hg5 (by simp; omega)).cell 4
              simp at e0 e1 e4
              clear hg5 hg6
              go_wp2
              go_region
              all_goals
                go_wp2
                go_roundw
                case rel =>
                  have hgo : ∀ j, j < ns.length → j < k + 1 → goB ns next j = true := fun j hj hjk => by
                    by_cases e : j = k
                    · subst e; rw [HG2.out]; rfl
                    · exact HST.out j hj (by omega)
                  exact ⟨k + 1, _, _, by omega, by go_num, by rw [HLP.out], Lib.hid hgo, HIN, Lib.hid (HFN.out hgo), H8.out, H7.out, HB6.out, by omega⟩
                case measure => simp [intOf]; omega
end Go.Proofs.YtipedabppgbfcaaGreatDoor
