/- The contract of impl.cutRange. append(b, s...): a text's bytes onto a row of the call's own. -/
import Derived.Test.YtipepbnmllbonaaGreatDoorM15
import Derived.Test.YtipepbnmllbonaaGreatDoorM1
import Derived.Deep.AppendSrc
import Derived.Laws.AppendOwn
import Derived.OwnWalk
namespace Go.Proofs.YtipepbnmllbonaaGreatDoor
open Go.RowKit

theorem cutHyphen (rest : List UInt8) (W : World) : Calls Tryz.prog 76 #[.string (strOf rest), .string ⟨#[45]⟩] W fun e w' => e = .returned (.tuple #[.string (strOf (if headIs 45 rest then rest.drop 1 else rest)), .bool (headIs 45 rest)]) ∧ w' = W := by
  refine (Tryz.strings_CutPrefix (strOf rest) ⟨#[45]⟩ W).mono fun e w' he => ?_
  rw [strOf_data, show (⟨#[45]⟩ : ByteArray).data.toList = [45] from rfl, trim_is, has_is] at he
  exact he
theorem hasEnd (l : List UInt8) (W : World) : Calls Tryz.prog 193 #[.string (strOf l), .string ⟨#[93]⟩] W fun e w' => e = .returned (.bool (headIs 93 l)) ∧ w' = W := by
  refine (Tryz.strings_HasPrefix (strOf l) ⟨#[93]⟩ W).mono fun e w' he => ?_
  rw [strOf_data, show (⟨#[93]⟩ : ByteArray).data.toList = [93] from rfl, has_is] at he
  exact he

set_option maxRecDepth 100000 in
set_option maxHeartbeats 4000000 in
theorem cutRange_one (s : ByteArray) (w : World) (lo : UInt8) (rest : List UInt8) (h : signL s.data.toList = some (lo, rest)) (h2 : ¬ (headIs 45 rest = true ∧ headIs 93 (rest.drop 1) = false)) :
    Calls Tryz.prog 215 #[.string s] w fun e w' => e = .returned (.tuple #[.agg #[.int .u8 (lo.toNat : Int), .int .u8 (lo.toNat : Int)], .string (strOf rest), .bool true]) ∧ Below w.heap.size w w' := by
  have CS := Lib.hid (fun W => cutSign_some s W lo rest h)
  have CP := Lib.hid (fun W => cutHyphen rest W)
  have CH := Lib.hid (fun W => hasEnd (rest.drop 1) W)
  clear h
  generalize hz : strOf rest = z at CS CP
  have h3 : headIs 45 rest = false ∨ (headIs 45 rest = true ∧ headIs 93 (rest.drop 1) = true) := by
    cases h45 : headIs 45 rest with
    | false => exact .inl rfl
    | true =>
      cases h93 : headIs 93 (rest.drop 1) with
      | true => exact .inr ⟨rfl, rfl⟩
      | false => exact (h2 ⟨h45, h93⟩).elim
  clear h2
  rcases h3 with h3 | ⟨h3, h4⟩
  · rw [h3] at CP
    simp only [Bool.false_eq_true, if_false] at CP
    rw [hz] at CP
    clear hz CH h3
    go_enter Tryz.func215, Tryz.ntmps215
    go_wp2_with fail
    refine (CS.out _).mono ?_
    rintro e W1 ⟨rfl, hb1⟩
    have hT := (Two.new w (.int .u8 0) (.int .u8 0)).on hb1 (by simp)
    obtain ⟨k0, k1, k2, k3⟩ := hT.cell
    obtain ⟨m0, m1, m2, m3⟩ := (hT.set (.int .u8 (lo.toNat : Int)) (.int .u8 (lo.toNat : Int))).cell
    have HB := Lib.hid (((Below.refl w.heap.size w).alloc (Nat.le_refl _) (.cells #[.int .u8 0, .int .u8 0] 225)).trans (hb1.mono (by simp)))
    clear hT hb1
    go_wp2_with fail
    refine (CP.out _).mono ?_
    rintro e W2 ⟨rfl, rfl⟩
    go_wp2
    refine bodyPost_ret (v := .tuple #[.agg #[.int .u8 (lo.toNat : Int), .int .u8 (lo.toNat : Int)], .string z, .bool true]) (by simp [results, Tryz.results215, go_sem, m0, m1]) rfl ⟨rfl, ?_⟩
    exact (HB.out.setCell (p := ⟨w.heap.size, 0, none⟩) (Nat.le_refl _) _).setCell (p := ⟨w.heap.size, 1, none⟩) (Nat.le_refl _) _
  · rw [h3] at CP
    rw [h4] at CH
    simp only [if_true] at CP
    generalize hy : strOf (rest.drop 1) = y at CP CH
    clear hz hy h3 h4
    go_enter Tryz.func215, Tryz.ntmps215
    go_wp2_with fail
    refine (CS.out _).mono ?_
    rintro e W1 ⟨rfl, hb1⟩
    have hT := (Two.new w (.int .u8 0) (.int .u8 0)).on hb1 (by simp)
    obtain ⟨k0, k1, k2, k3⟩ := hT.cell
    obtain ⟨m0, m1, m2, m3⟩ := (hT.set (.int .u8 (lo.toNat : Int)) (.int .u8 (lo.toNat : Int))).cell
    have HB := Lib.hid (((Below.refl w.heap.size w).alloc (Nat.le_refl _) (.cells #[.int .u8 0, .int .u8 0] 225)).trans (hb1.mono (by simp)))
    clear hT hb1
    go_wp2_with fail
    refine (CP.out _).mono ?_
    rintro e W2 ⟨rfl, rfl⟩
    go_wp2_with fail
    refine (CH.out _).mono ?_
    rintro e W2 ⟨rfl, rfl⟩
    go_wp2
    refine bodyPost_ret (v := .tuple #[.agg #[.int .u8 (lo.toNat : Int), .int .u8 (lo.toNat : Int)], .string z, .bool true]) (by simp [results, Tryz.results215, go_sem, m0, m1]) rfl ⟨rfl, ?_⟩
    exact (HB.out.setCell (p := ⟨w.heap.size, 0, none⟩) (Nat.le_refl _) _).setCell (p := ⟨w.heap.size, 1, none⟩) (Nat.le_refl _) _

set_option maxRecDepth 100000 in
set_option maxHeartbeats 4000000 in
theorem cutRange_two (s : ByteArray) (w : World) (lo : UInt8) (tl : List UInt8) (h : signL s.data.toList = some (lo, 45 :: tl)) (h2 : headIs 93 tl = false) (hi : UInt8) (r : List UInt8) (ok : Bool)
    (C2 : ∀ W, Calls Tryz.prog 186 #[.string (strOf tl)] W fun e w' => e = .returned (.tuple #[.int .u8 (hi.toNat : Int), .string (strOf r), .bool ok]) ∧ Below W.heap.size W w') :
    Calls Tryz.prog 215 #[.string s] w fun e w' => e = .returned (.tuple #[.agg #[.int .u8 (lo.toNat : Int), .int .u8 (hi.toNat : Int)], .string (strOf r), .bool ok]) ∧ Below w.heap.size w w' := by
  have CS := Lib.hid (fun W => cutSign_some s W lo (45 :: tl) h)
  have CP := Lib.hid (show ∀ W : World, Calls Tryz.prog 76 #[.string (strOf (45 :: tl)), .string ⟨#[45]⟩] W fun e w' => e = .returned (.tuple #[.string (strOf tl), .bool true]) ∧ w' = W from fun W => cutHyphen (45 :: tl) W)
  have CH := Lib.hid (fun W => hasEnd tl W)
  rw [h2] at CH
  have C2' := Lib.hid C2
  clear h h2 C2
  generalize hz : strOf (45 :: tl) = z at CS CP
  generalize hy : strOf tl = y at CP CH C2'
  generalize hx : strOf r = x at C2'
  clear hz hy hx
  go_enter Tryz.func215, Tryz.ntmps215
  go_wp2_with fail
  refine (CS.out _).mono ?_
  rintro e W1 ⟨rfl, hb1⟩
  have HT1 := Lib.hid ((Two.new w (.int .u8 0) (.int .u8 0)).on hb1 (by simp))
  have HB1 := Lib.hid (((Below.refl w.heap.size w).alloc (Nat.le_refl _) (.cells #[.int .u8 0, .int .u8 0] 225)).trans (hb1.mono (by simp)))
  have hlt1 : w.heap.size < W1.heap.size := by have := hb1.size; simp at this; omega
  clear hb1
  go_wp2_with fail
  refine (CP.out _).mono ?_
  rintro e W2 ⟨rfl, rfl⟩
  go_wp2_with fail
  refine (CH.out _).mono ?_
  rintro e W2 ⟨rfl, rfl⟩
  go_wp2_with fail
  refine (C2'.out _).mono ?_
  rintro e W3 ⟨rfl, hb3⟩
  have hT := HT1.out.on hb3 hlt1
  obtain ⟨k0, k1, k2, k3⟩ := hT.cell
  obtain ⟨m0, m1, m2, m3⟩ := (hT.set (.int .u8 (lo.toNat : Int)) (.int .u8 (hi.toNat : Int))).cell
  have HB := Lib.hid (HB1.out.trans (hb3.mono HB1.out.size))
  clear hT hb3 HB1 HT1
  go_wp2
  refine bodyPost_ret (v := .tuple #[.agg #[.int .u8 (lo.toNat : Int), .int .u8 (hi.toNat : Int)], .string x, .bool ok]) (by simp [results, Tryz.results215, go_sem, m0, m1]) rfl ⟨rfl, ?_⟩
  exact (HB.out.setCell (p := ⟨w.heap.size, 0, none⟩) (Nat.le_refl _) _).setCell (p := ⟨w.heap.size, 1, none⟩) (Nat.le_refl _) _

/-- impl.cutRange. -/
theorem cutRange_some (s : ByteArray) (w : World) (x : UInt8 × UInt8) (r : List UInt8) (h : rangeL s.data.toList = some (x, r)) :
    Calls Tryz.prog 215 #[.string s] w fun e w' => e = .returned (.tuple #[.agg #[.int .u8 (x.1.toNat : Int), .int .u8 (x.2.toNat : Int)], .string (strOf r), .bool true]) ∧ Below w.heap.size w w' := by
  cases hs : signL s.data.toList with
  | none => rw [rangeL_none hs] at h; cases h
  | some y =>
    obtain ⟨lo, rest⟩ := y
    by_cases hc : headIs 45 rest = true ∧ headIs 93 (rest.drop 1) = false
    · obtain ⟨tl, rfl⟩ := headIs_t hc.1
      have h93 : headIs 93 tl = false := hc.2
      rw [rangeL_two hs h93] at h
      cases hs2 : signL tl with
      | none => simp [hs2] at h
      | some z =>
        obtain ⟨hi, r'⟩ := z
        simp [hs2] at h
        obtain ⟨rfl, rfl⟩ := h
        exact cutRange_two s w lo tl hs h93 hi r' true fun W => cutSign_some (strOf tl) W hi r' (by rw [strOf_data]; exact hs2)
    · rw [rangeL_one hs hc] at h
      cases h
      exact cutRange_one s w lo _ hs hc
theorem cutRange_none (s : ByteArray) (w : World) (h : rangeL s.data.toList = none) :
    Calls Tryz.prog 215 #[.string s] w fun e w' => (∃ a : Int, e = .returned (.tuple #[.agg #[.int .u8 a, .int .u8 0], .string (strOf []), .bool false])) ∧ Below w.heap.size w w' := by
  cases hs : signL s.data.toList with
  | none => exact (cutRange_lone s w hs).mono fun e w' h => ⟨⟨0, h.1⟩, h.2⟩
  | some y =>
    obtain ⟨lo, rest⟩ := y
    by_cases hc : headIs 45 rest = true ∧ headIs 93 (rest.drop 1) = false
    · obtain ⟨tl, rfl⟩ := headIs_t hc.1
      have h93 : headIs 93 tl = false := hc.2
      rw [rangeL_two hs h93] at h
      cases hs2 : signL tl with
      | none => exact (cutRange_two s w lo tl hs h93 0 [] false fun W => cutSign_none (strOf tl) W (by rw [strOf_data]; exact hs2)).mono fun e w' h => ⟨⟨_, h.1⟩, h.2⟩
      | some z => simp [hs2] at h
    · rw [rangeL_one hs hc] at h; cases h
end Go.Proofs.YtipepbnmllbonaaGreatDoor
namespace Go.Proofs.YtipepbnmllbonaaGreatDoor
open Go.RowKit

theorem run_append_own_str {P : Program} (w : World) (base : Nat) (t tx ty e : TypeId) (i : TypeInfo) (z : Value) (ht : P.underlying t = some (.slice e)) (htx : P.underlying tx = some .string) (hi : P.info? e = some i) (hz : i.zero = some z)
    (hsize : i.size = 1) (hby : i.bytes = 1) (hzs : z.cells.size = 1)
    (v : Value) (n : Nat) (xs : List Value) (hown : w.ownsRow base e 1 v n xs) (s : ByteArray) (h63 : n + s.size ≤ maxLen) (hbytes : n + s.size ≤ 140737488355328) (hbase : base ≤ w.heap.size) :
    ∃ v' w', (Builtin.append_ #[t, tx] ty #[v, .string s]).run P w = .ok v' w' ∧ w'.ownsRow base e 1 v' (n + s.size) (xs ++ byteCells s) ∧ w.grownBy w' v.ownBlock := by
  have hsrc : Src P i.size tx (.string s) s.size (byteCells s) w := by rw [hsize]; exact Src.ofString w htx s
  have hbl := byteCells_length s
  have hlen : (xs ++ byteCells s).length = (n + s.size) * 1 := by rw [List.length_append, hown.1, hbl]; omega
  have grown : ∀ (old : Nat), ∀ (row : Option Nat),
      (w.drew.alloc (.cells ((xs ++ byteCells s).toArray ++ Builtin.zeroCells z.cells (grownCap w (n + s.size) old e - (n + s.size))) e)).ownsRow base e 1
        (.slice (some ⟨w.heap.size, 0, none⟩) (n + s.size) (grownCap w (n + s.size) old e)) (n + s.size) (xs ++ byteCells s) ∧
      w.grownBy (w.drew.alloc (.cells ((xs ++ byteCells s).toArray ++ Builtin.zeroCells z.cells (grownCap w (n + s.size) old e - (n + s.size))) e)) row := by
    intro old row
    have hge := grownCap_ge w (n + s.size) old e
    have hcm : grownCap w (n + s.size) old e ≤ maxLen := grownCap_le_maxLen w (n + s.size) old e h63
    refine ⟨⟨hlen, .inr ⟨w.heap.size, _, _, rfl, hbase, heap_alloc_new w.drew _, hge, hcm, ?_, ?_⟩⟩, ⟨rfl, rfl, rfl, by simp, fun _ hk _ => heap_alloc_old w.drew _ hk⟩⟩
    · simp only [Array.size_append, List.size_toArray, size_zeroCells, hzs, hlen]
      omega
    · rw [Array.toList_append, ← hlen]
      exact List.take_left
  rcases hown.2 with ⟨rfl, rfl⟩ | ⟨g, cap, cur, rfl, hbg, hg, hnc, hcm, hcs, htake⟩
  · have hx : xs = [] := List.eq_nil_of_length_eq_zero (by simpa using hown.1)
    subst hx
    by_cases hm : s.size = 0
    · have hn : byteCells s = [] := List.eq_nil_of_length_eq_zero (by rw [hbl, hm])
      refine ⟨.slice none 0 0, w, ?_, ?_, ⟨rfl, rfl, rfl, Nat.le_refl _, fun _ _ _ => rfl⟩⟩
      · have h1 := hsrc.cells
        have h2 := hsrc.len w
        rw [hm] at h1 h2
        simp [Builtin.append_, run_underlying ht, run_underlying htx, sizeOf, typeInfo, hi, h2, h1, hn]
      · rw [hn, hm]; exact World.ownsRow_nil w base e 1
    · have hr := run_append_grow_src (P := P) w t tx ty e i z ht hi hz none 0 0 [] (by rw [hsize]; simp [Builtin.firstCells]) (.string s) s.size (byteCells s) hsrc (by omega) (by unfold maxLen at h63; omega) (by
        rw [hby, Nat.mul_one]
        have := growslice_fits (need := 0 + s.size) (old := 0) (bytes := 1) (by omega) (by omega)
        omega)
      have hgr := grown 0 (Value.ownBlock (.slice none 0 0))
      exact ⟨_, _, hr, hgr.1, hgr.2⟩
  · by_cases hroom : n + s.size ≤ cap
    · have hfit : n * i.size + (byteCells s).length ≤ cur.size := by rw [hbl, hcs, hsize]; omega
      have hst := run_storeCells_at P g (n * i.size) e (byteCells s) 0 cur w hg (by simpa using hfit) hsrc.one
      simp only [Nat.add_zero] at hst
      have hr : (Builtin.append_ #[t, tx] ty #[.slice (some ⟨g, 0, none⟩) n cap, .string s]).run P w = .ok (.slice (some ⟨g, 0, none⟩) (n + s.size) cap) (w.setRow g (cur.toList.take (n * i.size) ++ byteCells s ++ cur.toList.drop (n * i.size + (byteCells s).length)).toArray) := by
        simp [Builtin.append_, run_underlying ht, run_underlying htx, sizeOf, typeInfo, hi, hsrc.len, hroom, hsrc.cells, Addr.add_lit, hst]
      rw [hsize] at hr
      refine ⟨_, _, hr, ⟨hlen, .inr ⟨g, cap, _, rfl, hbg, setRow_heap w g cur _ e _ hg, hroom, hcm, ?_, ?_⟩⟩, ⟨rfl, rfl, rfl, by simp, fun k _ hk => setRow_other w g k _ (fun e => hk (by simp [Value.ownBlock, e]))⟩⟩
      · simp only [List.size_toArray, List.length_append, List.length_take, List.length_drop, Array.length_toList]
        rw [hsize] at hfit
        omega
      · rw [htake, ← hlen]
        exact List.take_left
    · have hf := run_firstCells_some (P := P) w.drew i.size n ⟨g, 0, none⟩ n cap xs (by rw [hsize]; exact hown.1) (by simpa using hown.cells (g := g) rfl)
      have hr := run_append_grow_src (P := P) w t tx ty e i z ht hi hz (some ⟨g, 0, none⟩) n cap xs hf (.string s) s.size (byteCells s) hsrc (by omega) (by unfold maxLen at h63; omega) (by
        rw [hby]
        exact growslice_fits (by omega) (by omega))
      have hgr := grown cap (Value.ownBlock (.slice (some ⟨g, 0, none⟩) n cap))
      exact ⟨_, _, hr, hgr.1, hgr.2⟩

theorem wpList_append_own_str {P : Program} (w : World) {ops : Array Oper} {rest : List Oper} {o : Oper} {a : Act} {Q : Exit → Act → World → Prop} (hgd : o.guard = none) (s x : Operand) (t tx : TypeId)
    (ho : o.op = .call { callee := .builtin .append, args := #[s, x], argTypes := #[t, tx] })
    (base : Nat) (e : TypeId) (i : TypeInfo) (z : Value) (ht : P.underlying t = some (.slice e)) (htx : P.underlying tx = some .string) (hi : P.info? e = some i) (hz : i.zero = some z)
    (hsize : i.size = 1) (hby : i.bytes = 1) (hzs : z.cells.size = 1)
    (v : Value) (n : Nat) (xs : List Value) (hs : a.eval s = v) (hown : w.ownsRow base e 1 v n xs) (b : ByteArray) (hx : a.eval x = .string b) (h63 : n + b.size ≤ maxLen) (hbytes : n + b.size ≤ 140737488355328) (hbase : base ≤ w.heap.size)
    (h : ∀ v' w', w'.ownsRow base e 1 v' (n + b.size) (xs ++ byteCells b) → w.grownBy w' v.ownBlock → wpList P ops Q rest (a.put o.dst v') w') : wpList P ops Q (o :: rest) a w := by
  refine wpList_plain hgd fun K hK => ?_
  obtain ⟨v', w', hr, h2, h3⟩ := run_append_own_str (P := P) w base t tx o.type e i z ht htx hi hz hsize hby hzs v n xs hown b h63 hbytes hbase
  unfold Oper.wp execOp
  simp only [ho, resolve, invoke, builtin, Sem.run_bind, Sem.run_pure, Result.andThen_ok, List.map_toArray, List.map_cons, List.map_nil, hs, hx, hr]
  exact hK _ _ (h v' w' h2 h3)

/-- The same at a step of a region that draws its order. -/
theorem step_append_own_str {P : Program} (w : World) {ops : Array Oper} {o : Oper} {a : Act} {K : Act → World → Prop} {Q : Exit → Act → World → Prop} {E : Prop} (hgd : o.guard = none) (s x : Operand) (t tx : TypeId)
    (ho : o.op = .call { callee := .builtin .append, args := #[s, x], argTypes := #[t, tx] })
    (base : Nat) (e : TypeId) (i : TypeInfo) (z : Value) (ht : P.underlying t = some (.slice e)) (htx : P.underlying tx = some .string) (hi : P.info? e = some i) (hz : i.zero = some z)
    (hsize : i.size = 1) (hby : i.bytes = 1) (hzs : z.cells.size = 1)
    (v : Value) (n : Nat) (xs : List Value) (hs : a.eval s = v) (hown : w.ownsRow base e 1 v n xs) (b : ByteArray) (hx : a.eval x = .string b) (h63 : n + b.size ≤ maxLen) (hbytes : n + b.size ≤ 140737488355328) (hbase : base ≤ w.heap.size)
    (h : ∀ v' w', w'.ownsRow base e 1 v' (n + b.size) (xs ++ byteCells b) → w.grownBy w' v.ownBlock → K (a.put o.dst v') w') :
    if Region.wanted o (yielded ops a.tmps) = true then Oper.wp P o a w K Q else E := by
  have hw : Region.wanted o (yielded ops a.tmps) = true := by simp [Region.wanted, hgd]
  rw [if_pos hw]
  obtain ⟨v', w', hr, h2, h3⟩ := run_append_own_str (P := P) w base t tx o.type e i z ht htx hi hz hsize hby hzs v n xs hown b h63 hbytes hbase
  unfold Oper.wp execOp
  simp only [ho, resolve, invoke, builtin, Sem.run_bind, Sem.run_pure, Result.andThen_ok, List.map_toArray, List.map_cons, List.map_nil, hs, hx, hr]
  exact h v' w' h2 h3
end Go.Proofs.YtipepbnmllbonaaGreatDoor
