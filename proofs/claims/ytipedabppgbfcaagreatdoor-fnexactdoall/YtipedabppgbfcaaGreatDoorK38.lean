/- The queue of ops: empty. A map of the call's own, told by its keys and values in the order in which they came: a new key, a key anew, a look-up. -/
import Derived.Test.YtipedabppgbfcaaGreatDoorK37
import Derived.Test.YtipedabppgbfcaaGreatDoorK3
import Derived.Maps.Keyed
import Derived.Maps.Own
set_option linter.all false
namespace Go.Proofs.YtipedabppgbfcaaGreatDoor
open Go.RowKit

theorem zeroO (W : World) : (zeroValue 28).run Tryz.prog W = .ok (.agg #[.int .i64 0, .string ⟨#[]⟩, .string ⟨#[]⟩, .string ⟨#[]⟩, .int .i64 0, .int .i64 0]) W := by kernel_rfl
theorem zero_cells (n : Nat) : ∀ v ∈ (Builtin.zeroCells #[Value.int .i64 0, .string ⟨#[]⟩, .string ⟨#[]⟩, .string ⟨#[]⟩, .int .i64 0, .int .i64 0] n).toList, v.oneCell' = true := by
  intro v hv
  simp only [Builtin.zeroCells, Array.toList_map, List.mem_map] at hv
  obtain ⟨i, _, rfl⟩ := hv
  have : i % 6 < 6 := Nat.mod_lt _ (by decide)
  show Value.oneCell' (#[Value.int .i64 0, .string ⟨#[]⟩, .string ⟨#[]⟩, .string ⟨#[]⟩, .int .i64 0, .int .i64 0][i % 6]!) = true
  rcases (by omega : i % 6 = 0 ∨ i % 6 = 1 ∨ i % 6 = 2 ∨ i % 6 = 3 ∨ i % 6 = 4 ∨ i % 6 = 5) with h | h | h | h | h | h <;> rw [h] <;> rfl
/-- 'clear(s)' on a row of ops. -/
theorem clearO (w : World) (ty : TypeId) (g n c : Nat) (hn : 0 < n) (hc : ∀ j, j < n * 6 → (w.cell? ⟨g, j, none⟩).isSome = true) (hf : ∀ j, j < n * 6 → w.frozen? ⟨g, j, none⟩ = false) :
    (Builtin.clear_ #[38] ty #[.slice (some ⟨g, 0, none⟩) n c]).run Tryz.prog w = .ok (.tuple #[]) (w.setCells g 0 (Builtin.zeroCells #[Value.int .i64 0, .string ⟨#[]⟩, .string ⟨#[]⟩, .string ⟨#[]⟩, .int .i64 0, .int .i64 0] n).toList) := by
  have hl : (Builtin.zeroCells #[Value.int .i64 0, .string ⟨#[]⟩, .string ⟨#[]⟩, .string ⟨#[]⟩, .int .i64 0, .int .i64 0] n).toList.length = n * 6 := by simp [Builtin.zeroCells]
  have hst := run_storeCells_cells (P := Tryz.prog) g 0 (Builtin.zeroCells #[Value.int .i64 0, .string ⟨#[]⟩, .string ⟨#[]⟩, .string ⟨#[]⟩, .int .i64 0, .int .i64 0] n).toList 0 w (by rw [hl]; simpa using hc) (by rw [hl]; simpa using hf) (zero_cells n)
  simp only [Nat.add_zero] at hst
  obtain ⟨m, rfl⟩ : ∃ m, n = m + 1 := ⟨n - 1, by omega⟩
  simp [Builtin.clear_, run_underlying Tryz.underlying38, zeroO]
  rw [show (Value.agg #[Value.int .i64 0, .string ⟨#[]⟩, .string ⟨#[]⟩, .string ⟨#[]⟩, .int .i64 0, .int .i64 0]).cells = #[Value.int .i64 0, .string ⟨#[]⟩, .string ⟨#[]⟩, .string ⟨#[]⟩, .int .i64 0, .int .i64 0] from rfl]
  rw [show (Builtin.zeroCells #[Value.int .i64 0, .string ⟨#[]⟩, .string ⟨#[]⟩, .string ⟨#[]⟩, .int .i64 0, .int .i64 0] (m + 1)).toList = (Builtin.zeroCells #[Value.int .i64 0, .string ⟨#[]⟩, .string ⟨#[]⟩, .string ⟨#[]⟩, .int .i64 0, .int .i64 0] (m + 1)).toList from rfl, hst]
  rfl
theorem setCells_grown (g : Nat) : ∀ (vs : List Value) (o : Nat) (w : World), w.grownBy (w.setCells g o vs) (some g)
  | [], _, w => World.grownBy.refl w _
  | v :: r, o, w => by
    rw [World.setCells]
    exact (grownBy_sets (World.grownBy.refl w (some g)) ⟨g, o, none⟩ v rfl).trans (setCells_grown g r (o + 1) _)
theorem setCells_block (g : Nat) (t : TypeId) : ∀ (vs : List Value) (o : Nat) (w : World) (cs : Array Value), w.heap[g]? = some (.cells cs t (0, 0)) → ∃ cs', (w.setCells g o vs).heap[g]? = some (.cells cs' t (0, 0)) ∧ cs'.size = cs.size
  | [], _, _, cs, h => ⟨cs, h, rfl⟩
  | v :: r, o, w, cs, h => by
    rw [World.setCells]
    have h1 := (Blk.set ⟨h⟩ o v : Blk (w.setCell ⟨g, o, none⟩ v) g (cs.setIfInBounds o v) t)
    obtain ⟨cs', h2, h3⟩ := setCells_block g t r (o + 1) _ _ h1.blk
    exact ⟨cs', h2, by rw [h3]; simp⟩

set_option maxRecDepth 100000 in
set_option maxHeartbeats 2000000 in
theorem qEmpty (w : World) (B q : Nat) (x y vq : Value) (os : List Ov) (hB : B ≤ q) (ht : Blk w q #[x, y, vq] 109) (hr : OpR.NRow w B vq os) (hl : os.length ≤ 2000000) :
    Calls Tryz.prog 127 #[.pointer (some ⟨q, 2, none⟩)] w fun e w' => e = .returned (.tuple #[]) ∧ ∃ vq', Blk w' q #[x, y, vq'] 109 ∧ OpR.NRow w' B vq' [] ∧ Two w w' vq.ownBlock (some q) := by
  have hne := own_not hr.own ht (by decide)
  have HT := Lib.hid ht
  have HR := Lib.hid hr
  have t2 := ht.cell 2
  have f2 := ht.frozen 2
  rcases hr.form with ⟨rfl, rfl⟩ | ⟨g, cap, rfl, hBg, hgw, hcells, hfro, hlc, hcm⟩
  · simp at t2
    have hsl := fun W => sliceO_nil W 0 rfl
    have hcl : ∀ ty, (Builtin.clear_ #[38] ty #[.slice none 0 0]).run Tryz.prog w = .ok (.tuple #[]) w := fun ty => by
      simp [Builtin.clear_, run_underlying Tryz.underlying38]
    clear ht hr hne
    go_enter Tryz.func127, Tryz.ntmps127
    go_wp2
    go_end0
    exact ⟨rfl, _, HT.out.set 2 _, OpR.NRow.nil _ _, Two.of (World.grownBy.refl _ _) (grownBy_sets (World.grownBy.refl _ _) ⟨q, 2, none⟩ _ rfl)⟩
  · obtain ⟨cur, hcg, hcs⟩ : ∃ cur : Array Value, w.heap[g]? = some (.cells cur 28 (0, 0)) ∧ cur.size = cap * 6 := by
      rcases hr.own.2 with ⟨e, _⟩ | ⟨g2, cap2, cur, e, _, hg, _, _, hs, _⟩
      · cases e
      · cases e; exact ⟨cur, hg, hs⟩
    obtain ⟨vs, hcl⟩ : ∃ vs : List Value, ∀ ty, (Builtin.clear_ #[38] ty #[.slice (some ⟨g, 0, none⟩) os.length cap]).run Tryz.prog w = .ok (.tuple #[]) (w.setCells g 0 vs) := by
      by_cases h0 : os.length = 0
      · refine ⟨[], fun ty => ?_⟩
        rw [h0]
        simp [Builtin.clear_, run_underlying Tryz.underlying38, World.setCells]
      · refine ⟨_, fun ty => clearO w ty g os.length cap (by omega) (fun j hj => ?_) (fun j _ => hfro j)⟩
        rw [World.ownsRow.cellAt hr.own j hj, List.getElem?_eq_getElem (by rw [OpR.nodesVals_len]; exact hj)]
        rfl
    obtain ⟨W1, hW1⟩ : ∃ W1, w.setCells g 0 vs = W1 := ⟨_, rfl⟩
    have hg1 : w.grownBy W1 (some g) := by rw [← hW1]; exact setCells_grown g vs 0 w
    obtain ⟨cs', hb1, hb2⟩ : ∃ cs', W1.heap[g]? = some (.cells cs' 28 (0, 0)) ∧ cs'.size = cap * 6 := by
      obtain ⟨cs', h1, h2⟩ := setCells_block g 28 vs 0 w cur hcg
      exact ⟨cs', by rw [← hW1]; exact h1, by rw [h2]; exact hcs⟩
    rw [hW1] at hcl
    have HT1 := Lib.hid (ht.grown hg1 hne)
    have HG := Lib.hid hg1
    have HBB := Lib.hid (And.intro hb1 hb2)
    have c2 := HT1.out.cell 2
    have p2 := HT1.out.frozen 2
    simp at t2 c2
    have hsl := fun W => sliceO_to W g os.length cap 0 0 rfl (Nat.zero_le _)
    have HL := Lib.hid hlc
    have HM := Lib.hid hcm
    clear ht hr hne hW1 hg1 hb1 hb2 hcells hfro hcg hcs hlc hcm
    go_enter Tryz.func127, Tryz.ntmps127
    go_wp2
    go_end0
    refine ⟨rfl, _, HT1.out.set 2 _, ?_, Two.of HG.out (grownBy_sets (World.grownBy.refl _ _) ⟨q, 2, none⟩ _ rfl)⟩
    have h0 : OpR.NRow W1 B (.slice (some ⟨g, 0, none⟩) 0 cap) [] := ⟨rfl, .inr ⟨g, cap, cs', rfl, hBg, HBB.out.1, Nat.zero_le _, HM.out, HBB.out.2, by simp [OpR.nodesVals]⟩⟩
    refine own_apart h0.own (grownBy_sets (World.grownBy.refl _ _) ⟨q, 2, none⟩ _ rfl) (fun k hk e => ?_)
    exact own_not h0.own HT1.out (by decide) (by rw [hk]; exact e)
end Go.Proofs.YtipedabppgbfcaaGreatDoor
namespace Go.Proofs.YtipedabppgbfcaaGreatDoor
open Go.RowKit Go.Maps

set_option linter.unusedSectionVars false
variable {K V : Type} [DecidableEq K]
/-- How keys stand in a map: two are told apart by their values. -/
structure KeyAs (d : TypeDesc) (kv : K → Value) : Prop where
  same : ∀ a b, Instr.sameNow d (kv a) (kv b) = some (decide (a = b))
  key : ∀ a, MapKept.IsKey d (kv a)
  bits : ∀ a, Instr.sameBits 10000 (kv a) (kv a) = true
theorem keyAs_int : KeyAs (.int .i64) (fun a : Int => Value.int .i64 a) :=
  ⟨fun a b => by
    simp only [Instr.sameNow, if_true, Option.some.injEq]
    rw [Bool.eq_iff_iff]; simp, fun a => by simp [MapKept.IsKey], fun a => by simp [Instr.sameBits]⟩
theorem strOf_one {a b : List UInt8} (h : strOf a = strOf b) : a = b := by
  have := congrArg (fun s : ByteArray => s.data.toList) h
  simpa [strOf] using this
theorem keyAs_str : KeyAs .string (fun a : List UInt8 => Value.string (strOf a)) :=
  ⟨fun a b => by
    simp only [Instr.sameNow, Option.some.injEq]
    rw [Bool.eq_iff_iff]
    rw [MapKept.bytes_beq, decide_eq_true_eq]
    exact ⟨strOf_one, fun e => by rw [e]⟩, fun a => by simp [MapKept.IsKey], fun a => by
    simp only [Instr.sameBits]; exact (MapKept.bytes_beq _ _).2 rfl⟩

def mapE (kv : K → Value) (vv : V → Value) : Nat → List (K × V) → List MapEntry
  | _, [] => []
  | n, p :: r => { key := kv p.1, val := vv p.2, born := n } :: mapE kv vv (n + 1) r
theorem mapE_snoc (kv : K → Value) (vv : V → Value) : ∀ (n : Nat) (l : List (K × V)) (p : K × V), mapE kv vv n (l ++ [p]) = mapE kv vv n l ++ [{ key := kv p.1, val := vv p.2, born := n + l.length }]
  | n, [], p => by simp [mapE]
  | n, q :: r, p => by rw [List.cons_append, mapE, mapE_snoc kv vv (n + 1) r p]; simp [mapE]; omega
def lookK (c : K) : List (K × V) → Option V
  | [] => none
  | p :: r => if p.1 = c then some p.2 else lookK c r
/-- The map behind a store. -/
def putK (c : K) (v : V) : List (K × V) → List (K × V)
  | [] => [(c, v)]
  | p :: r => if p.1 = c then (c, v) :: r else p :: putK c v r
theorem putK_new (c : K) (v : V) : ∀ l : List (K × V), lookK c l = none → putK c v l = l ++ [(c, v)]
  | [], _ => rfl
  | p :: r, h => by
    unfold lookK at h
    by_cases e : p.1 = c
    · rw [if_pos e] at h; cases h
    · rw [if_neg e] at h
      rw [putK, if_neg e, putK_new c v r h]; rfl
theorem look_put (c d : K) (v : V) : ∀ l : List (K × V), lookK d (putK c v l) = if c = d then some v else lookK d l
  | [] => by simp [putK, lookK]
  | p :: r => by
    unfold putK
    by_cases e : p.1 = c
    · rw [if_pos e]
      by_cases h : c = d
      · simp [lookK, h]
      · rw [if_neg h]; simp only [lookK]; rw [if_neg h, if_neg (by rw [e]; exact h)]
    · rw [if_neg e]
      simp only [lookK]
      rw [look_put c d v r]
      by_cases h : c = d
      · subst h; rw [if_neg e, if_pos rfl, if_pos rfl]
      · rw [if_neg h, if_neg h]
theorem put_len (c : K) (v : V) : ∀ l : List (K × V), (putK c v l).length ≤ l.length + 1
  | [] => by simp [putK]
  | p :: r => by
    have := put_len c v r
    unfold putK; split <;> simp <;> omega
theorem find_mapE {d : TypeDesc} {kv : K → Value} (hk : KeyAs d kv) (vv : V → Value) (c : K) : ∀ (l : List (K × V)) (n i : Nat),
    (lookK c l = none → Instr.findNow d (kv c) (mapE kv vv n l) i = some none) ∧
    ∀ v, lookK c l = some v → ∃ j, Instr.findNow d (kv c) (mapE kv vv n l) i = some (some (i + j, vv v)) ∧ ((mapE kv vv n l)[j]?).map (·.key) = some (kv c) ∧
      ∀ u : V, (putK c u l).length = l.length ∧ (mapE kv vv n l).modify j (fun e => { e with key := kv c, val := vv u }) = mapE kv vv n (putK c u l)
  | [], n, i => ⟨fun _ => rfl, fun v h => by cases h⟩
  | p :: r, n, i => by
    by_cases h : p.1 = c
    · refine ⟨fun h2 => ?_, fun v h2 => ⟨0, ?_, ?_, fun u => ⟨?_, ?_⟩⟩⟩
      · rw [lookK, if_pos h] at h2; cases h2
      · rw [lookK, if_pos h] at h2
        cases h2
        rw [mapE, Instr.findNow, hk.same, decide_eq_true h.symm]; simp
      · simp [mapE, h]
      · rw [putK, if_pos h]; rfl
      · rw [putK, if_pos h]; simp [mapE]
    · have hs : Instr.sameNow d (kv c) (kv p.1) = some false := by rw [hk.same, decide_eq_false (fun e => h e.symm)]
      obtain ⟨i1, i2⟩ := find_mapE hk vv c r (n + 1) (i + 1)
      rw [lookK, if_neg h, mapE, Instr.findNow, hs]
      refine ⟨i1, fun v h2 => ?_⟩
      obtain ⟨j, h3, h4, h5⟩ := i2 v h2
      refine ⟨j + 1, by rw [show i + (j + 1) = i + 1 + j by omega]; exact h3, h4, fun u => ?_⟩
      obtain ⟨h6, h7⟩ := h5 u
      rw [putK, if_neg h]
      exact ⟨by simp [h6], by rw [List.modify_succ_cons, h7, mapE]⟩
/-- Block b is the map of these. -/
def MapIs (kv : K → Value) (vv : V → Value) (w : World) (b : Nat) (l : List (K × V)) : Prop := w.heap[b]? = some (.map (mapE kv vv 0 l).toArray l.length)
theorem MapIs.lt {kv : K → Value} {vv : V → Value} {w : World} {b : Nat} {l : List (K × V)} (h : MapIs kv vv w b l) : b < w.heap.size := (Array.getElem?_eq_some_iff.1 h).1
theorem MapIs.on {kv : K → Value} {vv : V → Value} {w w' : World} {b : Nat} {l : List (K × V)} (h : MapIs kv vv w b l) (hb : Below w.heap.size w w') : MapIs kv vv w' b l := (hb.block b h.lt).trans h
theorem MapIs.kept {kv : K → Value} {vv : V → Value} {w w' : World} {b : Nat} {l : List (K × V)} {row : Option Nat} (h : MapIs kv vv w b l) (hg : w.grownBy w' row) (hne : some b ≠ row) : MapIs kv vv w' b l := (hg.block b h.lt hne).trans h
theorem run_ins {P : Program} {w : World} {t k e : TypeId} {d : TypeDesc} {kv : K → Value} {vv : V → Value} (hA : KeyAs d kv) (ht : P.underlying t = some (.map k e)) (hk : P.underlying k = some d) {b : Nat} {l : List (K × V)} (h : MapIs kv vv w b l)
    (c : K) (v : V) : ∃ w', (Instr.mapUpdate t (.map (some b)) (kv c) (vv v)).run P w = .ok () w' ∧ MapIs kv vv w' b (putK c v l) ∧ w.grownBy w' (some b) := by
  have hb : w.heap[b]? = some (.map (mapE kv vv 0 l).toArray l.length) := h
  have hlt : b < w.heap.size := h.lt
  obtain ⟨f1, f2⟩ := find_mapE hA vv c l 0 0
  have hck := MapKept.run_checkKey (w := w) hk (hA.key c) false 9999
  cases hc : lookK c l with
  | none =>
    have hfind := f1 hc
    refine ⟨{ w with heap := w.heap.setIfInBounds b (.map ((mapE kv vv 0 l).toArray.push { key := kv c, val := vv v, born := l.length }) (l.length + 1)) }, ?_, ?_, ?_⟩
    · simp [Instr.mapUpdate, run_underlying ht, MapKept.run_getObj_map hb, hck, Instr.findKey, run_underlying hk, hfind, MapKept.run_setObj_map _ hb]
    · show (w.heap.setIfInBounds b _)[b]? = _
      rw [Array.getElem?_setIfInBounds_self_of_lt hlt, putK_new c v l hc, mapE_snoc]
      simp
    · exact ⟨rfl, rfl, rfl, by simp, fun j _ hj => by
        show (w.heap.setIfInBounds b _)[j]? = _
        rw [Array.getElem?_setIfInBounds_ne (fun e => hj (by rw [e]))]⟩
  | some v0 =>
    obtain ⟨j, hfind, hat, hset⟩ := f2 v0 hc
    obtain ⟨hl, hmod⟩ := hset v
    rw [Nat.zero_add] at hfind
    have hat2 : ((mapE kv vv 0 l).toArray[j]?).map (·.key) = some (kv c) := by simpa using hat
    refine ⟨{ w with heap := w.heap.setIfInBounds b (.map (mapE kv vv 0 (putK c v l)).toArray l.length) }, ?_, ?_, ?_⟩
    · have hmod2 : (mapE kv vv 0 l).toArray.modify j (fun e => { e with key := kv c, val := vv v }) = (mapE kv vv 0 (putK c v l)).toArray := by
        rw [← hmod]; simp
      simp only [Instr.mapUpdate, Sem.run_bind, run_underlying ht, Result.andThen, MapKept.run_getObj_map hb, hck, Instr.findKey, run_underlying hk, hfind, Sem.run_pure, hat2, Option.getD_some, Instr.keyThatStays, hA.bits, if_true, hmod2, MapKept.run_setObj_map _ hb]
    · show (w.heap.setIfInBounds b _)[b]? = _
      rw [Array.getElem?_setIfInBounds_self_of_lt hlt, hl]
    · exact ⟨rfl, rfl, rfl, by simp, fun j _ hj => by
        show (w.heap.setIfInBounds b _)[j]? = _
        rw [Array.getElem?_setIfInBounds_ne (fun e => hj (by rw [e]))]⟩
/-- m[k] -/
theorem run_look {P : Program} {w : World} {t k e : TypeId} {d : TypeDesc} {kv : K → Value} {vv : V → Value} (hA : KeyAs d kv) (ht : P.underlying t = some (.map k e)) (hk : P.underlying k = some d) {z : V} (hz : (zeroValue e).run P w = .ok (vv z) w) {b : Nat} {l : List (K × V)} (h : MapIs kv vv w b l) (c : K) :
    (Instr.lookup t (.map (some b)) (kv c) false).run P w = .ok (vv ((lookK c l).getD z)) w := by
  have hb : w.heap[b]? = some (.map (mapE kv vv 0 l).toArray l.length) := h
  obtain ⟨h1, h2⟩ := find_mapE hA vv c l 0 0
  have hck := fun em => MapKept.run_checkKey (w := w) hk (hA.key c) em 9999
  cases hq : lookK c l with
  | none => simp [Instr.lookup, run_underlying ht, MapKept.run_getObj_map hb, hck, Instr.findKey, run_underlying hk, h1 hq, hz, Result.andThen]
  | some v =>
    obtain ⟨j, hj, _⟩ := h2 v hq
    simp [Instr.lookup, run_underlying ht, MapKept.run_getObj_map hb, hck, Instr.findKey, run_underlying hk, hj, Result.andThen]
/-- v, ok := m[k] -/
theorem run_look_ok {P : Program} {w : World} {t k e : TypeId} {d : TypeDesc} {kv : K → Value} {vv : V → Value} (hA : KeyAs d kv) (ht : P.underlying t = some (.map k e)) (hk : P.underlying k = some d) {z : V} (hz : (zeroValue e).run P w = .ok (vv z) w) {b : Nat} {l : List (K × V)} (h : MapIs kv vv w b l) (c : K) :
    (Instr.lookup t (.map (some b)) (kv c) true).run P w = .ok (.tuple #[vv ((lookK c l).getD z), .bool (lookK c l).isSome]) w := by
  have hb : w.heap[b]? = some (.map (mapE kv vv 0 l).toArray l.length) := h
  obtain ⟨h1, h2⟩ := find_mapE hA vv c l 0 0
  have hck := fun em => MapKept.run_checkKey (w := w) hk (hA.key c) em 9999
  cases hq : lookK c l with
  | none => simp [Instr.lookup, run_underlying ht, MapKept.run_getObj_map hb, hck, Instr.findKey, run_underlying hk, h1 hq, hz, Result.andThen]
  | some v =>
    obtain ⟨j, hj, _⟩ := h2 v hq
    simp [Instr.lookup, run_underlying ht, MapKept.run_getObj_map hb, hck, Instr.findKey, run_underlying hk, hj, Result.andThen]
end Go.Proofs.YtipedabppgbfcaaGreatDoor
