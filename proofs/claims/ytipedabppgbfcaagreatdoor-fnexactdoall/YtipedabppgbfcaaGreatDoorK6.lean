/- The laws' helpers on rows of nodes and on trees: sizes, whether two are alike; a tree's copy. What is done to trees, as plain lists; no program in this text. -/
import Derived.Test.YtipedabppgbfcaaGreatDoorK5
import Derived.Test.YtipedabppgbfcaaGreatDoorK3
set_option linter.all false
namespace Go.Proofs.YtipedabppgbfcaaGreatDoor
open Go.RowKit

theorem szNs_succ {ns : List Nd} {k : Nat} (h : k < ns.length) : szNs (ns.take (k + 1)) = szNs (ns.take k) + szN ns[k] := by
  unfold szNs
  rw [List.take_succ_eq_append_getElem h, List.map_append, List.sum_append]; simp
theorem szNs_take (ns : List Nd) (k : Nat) : szNs (ns.take k) ≤ szNs ns := by
  have : szNs ns = szNs (ns.take k) + szNs (ns.drop k) := by
    unfold szNs
    rw [← List.sum_append, ← List.map_append, List.take_append_drop]
  omega
theorem szNs_mem {ns : List Nd} {n : Nd} (h : n ∈ ns) : szN n ≤ szNs ns := by
  obtain ⟨i, hi, rfl⟩ := List.getElem_of_mem h
  have h1 := szNs_succ hi
  have h2 := szNs_take ns (i + 1)
  omega
/-- How much a tree's nodes count. -/
def bulkN (ns : List Nd) : Nat := ns.length + szNs ns

set_option maxRecDepth 100000 in
set_option maxHeartbeats 2000000 in
theorem szNodeS (w : World) (a : Option Addr) (len cap : Nat) (ns : List Nd) (left : Int) (h0 : 0 ≤ left) (h1 : left ≤ 1048576) (h : NIn w a len cap ns) :
    Calls Tryz.prog 83 #[.slice a len cap, .int .i64 left] w fun e w' => e = .returned (.int .i64 (leftV left (bulkN ns))) ∧ Below w.heap.size w w' := by
  have hlen := h.len
  have hcap : (len : Int) ≤ 9223372036854775807 := by
    rcases h with ⟨_, h, _⟩ | ⟨x, _, h2, h3, _⟩
    · omega
    · unfold maxLen at h3; omega
  by_cases hbig : (len : Int) ≤ left
  · have d1 : ¬ left - (len : Int) < 0 := by omega
    have HN := Lib.hid h
    have HLEN := Lib.hid hlen
    clear h hlen
    go_enter Tryz.func83, Tryz.ntmps83
    go_wp2
    go_loopw [1, 5] (fun l i W => ∃ k : Nat, k ≤ len ∧ i = .int .i64 k ∧ l = .int .i64 (left - len - (szNs (ns.take k) : Nat)) ∧ (szNs (ns.take k) : Int) ≤ left - len ∧ Below w.heap.size w W) (fun _ i _ => len - (intOf i).toNat)
    case atStart => exact ⟨0, Nat.zero_le _, rfl, by simp [szNs], by simp [szNs]; omega, Below.refl _ _⟩
    case round =>
      obtain ⟨k, hk, rfl, rfl, hle, hb⟩ := hrel
      have HB := Lib.hid hb
      clear hb
      by_cases hlt : k < len
      · have hki : (k : Int) < (len : Int) := by omega
        rcases HN.out.on HB.out with ⟨_, h, _⟩ | ⟨x, rfl, hlc, hcm, hnl, hxb, hsz, hx⟩
        · omega
        have hkn : k < ns.length := by omega
        obtain ⟨hz1, hz2⟩ := hsz ns[k] (List.getElem_mem hkn)
        have HS := Lib.hid (szNs_succ hkn)
        have HT := Lib.hid (szNs_take ns (k + 1))
        obtain ⟨nd, hnd⟩ : ∃ nd, ns[k] = nd := ⟨_, rfl⟩
        have hcs := hx k hkn
        rw [hnd] at hcs hz1 hz2 HS
        obtain ⟨d0, d1, d2, d3, d4, d5⟩ := hcs.cells
        obtain ⟨u, hu⟩ : ∃ u, szNs (ns.take k) = u := ⟨_, rfl⟩
        rw [hu] at HS hle ⊢
        have HU := Lib.hid hu
        unfold maxLen at hcm
        clear hx hnd hsz hcs hu
        by_cases hfit : (szN nd : Int) ≤ left - len - u
        · have CS := szNode nd (left - len - u) wr (by omega) (by omega) hz1 hz2
          rw [leftV_in hfit] at CS
          have d7 : ¬ left - (len : Int) - u - (szN nd : Int) < 0 := by omega
          clear hz1 hz2
          go_wp2_with (go_at_call 128; refine CS.mono ?_; rintro e W1 ⟨rfl, hb2⟩)
          go_roundw
          case rel => exact ⟨k + 1, by omega, by go_num, by rw [HS.out]; go_num, by rw [HS.out]; omega, HB.out.trans (hb2.mono HB.out.size)⟩
          case measure => simp [intOf]; omega
        · have CS := szNode nd (left - len - u) wr (by omega) (by omega) hz1 hz2
          rw [leftV_out hfit] at CS
          clear hz1 hz2
          go_wp2_with (go_at_call 128; refine CS.mono ?_; rintro e W1 ⟨rfl, hb2⟩)
          go_ret
          refine ⟨ret_int ?_, HB.out.trans (hb2.mono HB.out.size)⟩
          have h1 := HS.out
          have h2 := HT.out
          have h3 := HLEN.out
          rw [leftV_out (by unfold bulkN; omega)]
      · have hke : k = len := by omega
        have hki : ¬ (k : Int) < (len : Int) := by omega
        have HU := Lib.hid (show szNs (ns.take k) = szNs ns by rw [List.take_of_length_le (by have := HLEN.out; omega)])
        have HK := Lib.hid hke
        clear hke
        go_wp2
        go_ret
        refine ⟨ret_int ?_, HB.out⟩
        have h3 := HLEN.out
        have h4 := HU.out
        rw [h4] at hle ⊢
        rw [leftV_in (by unfold bulkN; omega)]
        unfold bulkN; omega
  · have d1 : left - (len : Int) < 0 := by omega
    clear h
    go_enter Tryz.func83, Tryz.ntmps83
    go_wp2
    go_ret
    exact ⟨ret_int (by rw [leftV_out (by unfold bulkN; omega)]), Below.refl _ _⟩

set_option maxRecDepth 100000 in
set_option maxHeartbeats 2000000 in
theorem szTree (w : World) (a : Option Addr) (len cap : Nat) (ns : List Nd) (next : Int) (left : Int) (h0 : 0 ≤ left) (h1 : left ≤ 1048576) (h : NIn w a len cap ns) :
    Calls Tryz.prog 37 #[.agg #[.slice a len cap, .int .i64 next], .int .i64 left] w fun e w' => e = .returned (.int .i64 (leftV left (bulkN ns))) ∧ Below w.heap.size w w' := by
  have hb : Below w.heap.size w (w.alloc (.cells #[.slice a len cap, .int .i64 next] 56)) := (Below.refl _ _).alloc (Nat.le_refl _) _
  have CS := szNodeS _ a len cap ns left h0 h1 (h.on hb)
  have HB := Lib.hid hb
  clear h hb
  by_cases hl : (bulkN ns : Int) ≤ left
  · rw [leftV_in hl] at CS ⊢
    have d1 : ¬ left - (bulkN ns : Int) < 0 := by omega
    have d2 : 0 ≤ left - (bulkN ns : Int) := by omega
    go_enter Tryz.func37, Tryz.ntmps37
    go_wp2_with (go_at_call 83; refine CS.mono ?_; rintro e W1 ⟨rfl, hb2⟩)
    go_ret
    exact ⟨rfl, HB.out.trans (hb2.mono HB.out.size)⟩
  · rw [leftV_out hl] at CS ⊢
    go_enter Tryz.func37, Tryz.ntmps37
    go_wp2_with (go_at_call 83; refine CS.mono ?_; rintro e W1 ⟨rfl, hb2⟩)
    go_ret
    exact ⟨rfl, HB.out.trans (hb2.mono HB.out.size)⟩

set_option maxRecDepth 100000 in
set_option maxHeartbeats 2000000 in
/-- A tree's copy. -/
theorem toTree (w : World) (a : Option Addr) (len cap : Nat) (ns : List Nd) (next : Int) (h : NIn w a len cap ns) (hl : len ≤ 1048576) :
    Calls Tryz.prog 39 #[.agg #[.slice a len cap, .int .i64 next]] w fun e w' => ∃ v, e = .returned (.agg #[v, .int .i64 next]) ∧ NRow w' w.heap.size v ns ∧ Below w.heap.size w w' := by
  have hb : Below w.heap.size w (w.alloc (.cells #[.slice a len cap, .int .i64 next] 56)) := (Below.refl _ _).alloc (Nat.le_refl _) _
  have hb2 := (hb.alloc hb.size (.cells #[.slice none 0 0, .int .i64 0] 26))
  have hb3 := hb2.alloc hb2.size (.cells #[.slice none 0 0, .int .i64 0] 26)
  have CS := toNodeS _ a len cap ns (h.on hb3) hl
  have HB := Lib.hid hb3
  clear h hb hb2 hb3
  go_enter Tryz.func39, Tryz.ntmps39
  go_wp2_with fail
  refine CS.mono ?_
  rintro e W1 ⟨v, rfl, hR, hb4⟩
  have B0 := ((((Blk.new w #[.slice a len cap, .int .i64 next] 56).alloc (.cells #[.slice none 0 0, .int .i64 0] 26)).alloc (.cells #[.slice none 0 0, .int .i64 0] 26)).on hb4)
  have B1 := (((Blk.new (w.alloc (.cells #[.slice a len cap, .int .i64 next] 56)) #[.slice none 0 0, .int .i64 0] 26).alloc (.cells #[.slice none 0 0, .int .i64 0] 26)).on hb4)
  have B2 := (Blk.new ((w.alloc (.cells #[.slice a len cap, .int .i64 next] 56)).alloc (.cells #[.slice none 0 0, .int .i64 0] 26)) #[.slice none 0 0, .int .i64 0] 26).on hb4
  obtain ⟨a1, cap1, rfl⟩ := hR.shape
  have HR := Lib.hid hR
  have HB2 := Lib.hid (HB.out.trans (hb4.mono HB.out.size))
  have l1 := B1.lt
  have l2 := B2.lt
  obtain ⟨b, hb⟩ : ∃ b, w.heap.size = b := ⟨_, rfl⟩
  simp only [World.size_alloc, hb] at B0 B1 B2 HR l1 l2
  rw [hb] at HB2 ⊢
  have c0 := B0.cell 0
  have c1 := B0.cell 1
  have c2 := B1.cell 0
  have c3 := B1.cell 1
  have c4 := B2.cell 0
  have c5 := B2.cell 1
  have f2 := B1.frozen 0
  have f3 := B1.frozen 1
  have f4 := B2.frozen 0
  have f5 := B2.frozen 1
  simp at c0 c1 c2 c3 c4 c5
  have HBE := Lib.hid hb
  clear hR hb4 B0 B1 B2 hb
  go_wp2
  refine bodyPost_ret (v := .agg #[.slice a1 ns.length cap1, .int .i64 next]) ?_ rfl ⟨_, rfl, ?_, ?_⟩
  · simp [results, Tryz.results39, go_sem, c0, c1, c2, c3, c4, c5]
  · rw [HBE.out]
    refine NRow.base (B := b + 1 + 1 + 1) ?_ (by omega)
    iterate 4 (refine NRow.other ?_ _ _ (by simp))
    exact HR.out
  · rw [HBE.out]
    iterate 4 (refine Below.setCell ?_ (by simp <;> omega) _)
    exact HB2.out

set_option maxRecDepth 100000 in
set_option maxHeartbeats 2000000 in
theorem eqNodeS (w : World) (v1 v2 : Value) (ns : List Nd) (h1 : NRd w v1 ns) (h2 : NRd w v2 ns) :
    Calls Tryz.prog 85 #[v1, v2] w fun e w' => e = .returned (.bool true) ∧ Below w.heap.size w w' := by
  by_cases hn : ns = []
  · subst hn
    obtain ⟨a1, c1, rfl, _⟩ := h1
    obtain ⟨a2, c2, rfl, _⟩ := h2
    go_enter Tryz.func85, Tryz.ntmps85
    go_wp2
    go_loop [5] (fun i => i = .int .i64 0) (fun _ => 0)
    case atStart => rfl
    case round =>
      subst hrel
      go_wp2
      go_ret
      exact ⟨rfl, Below.refl _ _⟩
  · obtain ⟨g1, c1, rfl, hg1, hl1, hm1, hc1⟩ := h1.at hn
    obtain ⟨g2, c2, rfl, hg2, hl2, hm2, hc2⟩ := h2.at hn
    clear h1 h2 hn
    unfold maxLen at hm1 hm2
    have HC1 := Lib.hid hc1
    have HC2 := Lib.hid hc2
    clear hc1 hc2
    go_enter Tryz.func85, Tryz.ntmps85
    go_wp2
    go_loopw [5] (fun i W => ∃ k : Nat, k ≤ ns.length ∧ i = .int .i64 k ∧ Below w.heap.size w W) (fun i _ => ns.length - (intOf i).toNat)
    case atStart => exact ⟨0, Nat.zero_le _, rfl, Below.refl _ _⟩
    case round =>
      obtain ⟨k, hk, rfl, hb⟩ := hrel
      by_cases h : k < ns.length
      · have hki : (k : Int) < (ns.length : Int) := by omega
        have hk1 := (HC1.out k h).on hg1 hb
        have hk2 := (HC2.out k h).on hg2 hb
        generalize ns[k] = nd at hk1 hk2
        have cE : ∀ d os, Calls Tryz.prog 130 #[.agg #[.string (strOf nd.path), .bool nd.dir, .int .i64 nd.mode, .int .i64 nd.time, .int .i64 nd.id, .string (strOf nd.data)], .agg #[.string (strOf nd.path), .bool nd.dir, .int .i64 nd.mode, .int .i64 nd.time, .int .i64 nd.id, .string (strOf nd.data)]] (Sort.grow (redrawn wr d) os) fun e w'' => e = .returned (.bool true) ∧ ∃ p : Regrown, w'' = Sort.grow (redrawn wr p.d) p.os :=
          fun d os => Calls.regrown_of (eqNode nd _)
        have CE := Lib.hid cE
        have a0 : ∀ d os, (Sort.grow (redrawn wr d) os).cell? ⟨g1, k * 6, none⟩ = _ := fun d os => cell_regrown hk1.c0 d os
        have a1 : ∀ d os, (Sort.grow (redrawn wr d) os).cell? ⟨g1, k * 6 + 1, none⟩ = _ := fun d os => cell_regrown hk1.c1 d os
        have a2 : ∀ d os, (Sort.grow (redrawn wr d) os).cell? ⟨g1, k * 6 + 2, none⟩ = _ := fun d os => cell_regrown hk1.c2 d os
        have a3 : ∀ d os, (Sort.grow (redrawn wr d) os).cell? ⟨g1, k * 6 + 3, none⟩ = _ := fun d os => cell_regrown hk1.c3 d os
        have a4 : ∀ d os, (Sort.grow (redrawn wr d) os).cell? ⟨g1, k * 6 + 4, none⟩ = _ := fun d os => cell_regrown hk1.c4 d os
        have a5 : ∀ d os, (Sort.grow (redrawn wr d) os).cell? ⟨g1, k * 6 + 5, none⟩ = _ := fun d os => cell_regrown hk1.c5 d os
        have b0 : ∀ d os, (Sort.grow (redrawn wr d) os).cell? ⟨g2, k * 6, none⟩ = _ := fun d os => cell_regrown hk2.c0 d os
        have b1 : ∀ d os, (Sort.grow (redrawn wr d) os).cell? ⟨g2, k * 6 + 1, none⟩ = _ := fun d os => cell_regrown hk2.c1 d os
        have b2 : ∀ d os, (Sort.grow (redrawn wr d) os).cell? ⟨g2, k * 6 + 2, none⟩ = _ := fun d os => cell_regrown hk2.c2 d os
        have b3 : ∀ d os, (Sort.grow (redrawn wr d) os).cell? ⟨g2, k * 6 + 3, none⟩ = _ := fun d os => cell_regrown hk2.c3 d os
        have b4 : ∀ d os, (Sort.grow (redrawn wr d) os).cell? ⟨g2, k * 6 + 4, none⟩ = _ := fun d os => cell_regrown hk2.c4 d os
        have b5 : ∀ d os, (Sort.grow (redrawn wr d) os).cell? ⟨g2, k * 6 + 5, none⟩ = _ := fun d os => cell_regrown hk2.c5 d os
        clear cE hk1 hk2
        go_wp2
        refine wp_region_quiet_below (by kernel_rfl) (by kernel_rfl) ?_
        repeat (quiet_step (exact CE.out _ _))
        refine wpQuiet_nil ?_
        intro w2 hw2
        obtain ⟨p, rfl⟩ := hw2
        go_wp2
        go_roundw
        case rel => exact ⟨k + 1, by omega, by go_num, hb.trans ((below_regrown wr p.d p.os).mono hb.size)⟩
        case measure => simp [intOf]; omega
      · go_wp2
        go_ret
        exact ⟨rfl, hb⟩

set_option maxRecDepth 100000 in
set_option maxHeartbeats 2000000 in
theorem eqTree (w : World) (v1 v2 : Value) (next : Int) (ns : List Nd) (h1 : NRd w v1 ns) (h2 : NRd w v2 ns) :
    Calls Tryz.prog 41 #[.agg #[v1, .int .i64 next], .agg #[v2, .int .i64 next]] w fun e w' => e = .returned (.bool true) ∧ Below w.heap.size w w' := by
  obtain ⟨a1, k1, e1⟩ : ∃ a c, v1 = .slice a ns.length c := by obtain ⟨a, c, h, _⟩ := h1; exact ⟨a, c, h⟩
  obtain ⟨a2, k2, e2⟩ : ∃ a c, v2 = .slice a ns.length c := by obtain ⟨a, c, h, _⟩ := h2; exact ⟨a, c, h⟩
  subst e1 e2
  have hb := ((Below.refl w.heap.size w).alloc (Nat.le_refl _) (.cells #[.slice a1 ns.length k1, .int .i64 next] 26))
  have hb2 := hb.alloc hb.size (.cells #[.slice a2 ns.length k2, .int .i64 next] 26)
  have CE := eqNodeS _ _ _ ns (h1.on hb2) (h2.on hb2)
  have B0 := (Blk.new w #[.slice a1 ns.length k1, .int .i64 next] 26).alloc (.cells #[.slice a2 ns.length k2, .int .i64 next] 26)
  have B1 := Blk.new (w.alloc (.cells #[.slice a1 ns.length k1, .int .i64 next] 26)) #[.slice a2 ns.length k2, .int .i64 next] 26
  have HB := Lib.hid hb2
  have HB0 := Lib.hid B0
  have HB1 := Lib.hid B1
  clear h1 h2 hb hb2 B0 B1
  go_enter Tryz.func41, Tryz.ntmps41
  go_wp2_with fail
  refine CE.mono ?_
  rintro e W1 ⟨rfl, hb3⟩
  have c0 := (HB0.out.on hb3).cell 1
  have c1 := (HB1.out.on hb3).cell 1
  simp at c0 c1
  have HB3 := Lib.hid (HB.out.trans (hb3.mono HB.out.size))
  clear hb3
  go_wp2
  go_ret
  exact ⟨rfl, HB3.out⟩
end Go.Proofs.YtipedabppgbfcaaGreatDoor
namespace Go.Proofs.YtipedabppgbfcaaGreatDoor

structure Ov where
  kind : Int
  path : List UInt8
  dest : List UInt8
  data : List UInt8
  mode : Int
  time : Int
/-- A tree: its nodes, and the next number. -/
structure Tv where
  ns : List Nd
  next : Int

/-- A node more, at its place. -/
def putN (n : Nd) : List Nd → List Nd
  | [] => [n]
  | m :: r => if lessB n.path m.path then n :: m :: r else m :: putN n r
/-- Whether an op is one that can be done at all. -/
def argsB (o : Ov) : Bool :=
  if inB o.kind 0 8 then
    if o.kind = 8 then true
    else if 0 < depthV o.path then
      if o.kind = 0 ∨ o.kind = 1 then inB o.mode 0 511 && timeOk o.time
      else if o.kind = 6 then inB o.mode 0 511
      else if o.kind = 2 ∨ o.kind = 3 ∨ o.kind = 7 then timeOk o.time
      else if o.kind = 4 then decide (0 < depthV o.dest) && (!decide (o.dest = o.path) && !underV o.dest o.path)
      else true
    else false
  else false
def newNd (t : Tv) (o : Ov) : Nd := ⟨o.path, o.kind == 0, o.mode, o.time, t.next, []⟩
/-- OpMake and OpNew. -/
def newV (t : Tv) (o : Ov) : Tv × Int :=
  if (findV o.path t.ns).isSome then (t, 3)
  else if dirB t.ns (dirV o.path) then
    if t.ns.length = 60 ∨ t.next = 1000000 then (t, 5)
    else (⟨putN (newNd t o) t.ns, t.next + 1⟩, 0)
  else (t, 2)
def withoutN (p : List UInt8) (ns : List Nd) : List Nd := ns.filter fun n => !decide (n.path = p)
def busyB (ns : List Nd) (p : List UInt8) : Bool := ns.any fun n => underV n.path p
/-- A node behind a move. -/
def movedN (o : Ov) (n : Nd) : Nd := if n.path = o.path ∨ underV n.path o.path = true then { n with path := o.dest ++ n.path.drop o.path.length } else n
def moveGo (o : Ov) : List Nd → List Nd → Option (List Nd)
  | acc, [] => some acc
  | acc, n :: r => if n.path = o.dest then moveGo o acc r else if 0 < depthV (movedN o n).path then moveGo o (putN (movedN o n) acc) r else none
def dirAt (ns : List Nd) (p : List UInt8) : Bool := match findV p ns with | none => false | some i => match ns[i]? with | some n => n.dir | none => false
/-- OpMove; there is a node of the op's path. -/
def moveV (t : Tv) (o : Ov) : Tv × Int :=
  if (findV o.dest t.ns).isSome = true ∧ (dirAt t.ns o.dest = true ∨ dirAt t.ns o.path = true) then (t, 4)
  else if dirB t.ns (dirV o.dest) then
    match moveGo o [] t.ns with
    | none => (t, 1)
    | some ns => (⟨ns, t.next⟩, 0)
  else (t, 2)
/-- What becomes of a node by OpAdd, OpCut, OpMode, OpTouch. -/
def changeN (o : Ov) (n : Nd) : Nd × Int :=
  if o.kind = 6 then ({ n with mode := o.mode }, 0)
  else if o.kind = 7 then ({ n with time := o.time }, 0)
  else if n.dir = true then (n, 4)
  else if o.kind = 3 then ({ n with data := [], time := o.time }, 0)
  else if 3000 < n.data.length + o.data.length then (n, 5)
  else ({ n with data := n.data ++ o.data, time := o.time }, 0)
def changeV (t : Tv) (o : Ov) : Tv × Int := match findV o.path t.ns with
  | none => (t, 0)
  | some i => match t.ns[i]? with
    | none => (t, 0)
    | some n => if (changeN o n).2 = 0 then (⟨t.ns.set i (changeN o n).1, t.next⟩, 0) else (t, (changeN o n).2)
/-- Do of a right tree. -/
def doV (t : Tv) (o : Ov) : Tv × Int :=
  if argsB o then
    if o.kind = 8 then (t, 0)
    else if o.kind = 0 ∨ o.kind = 1 then newV t o
    else if (findV o.path t.ns).isSome then
      if o.kind = 4 then moveV t o
      else if o.kind = 5 then (if busyB t.ns o.path then (t, 6) else (⟨withoutN o.path t.ns, t.next⟩, 0))
      else changeV t o
    else (t, 2)
  else (t, 1)
def doGo (t : Tv) : List Ov → Nat → Tv × Nat × Int
  | [], k => (t, k, 0)
  | o :: r, k => if (doV t o).2 = 0 then doGo (doV t o).1 r (k + 1) else (t, k, (doV t o).2)
def doAllV (t : Tv) (os : List Ov) : Tv × Nat × Int := if treeB t.ns t.next then doGo t os 0 else if os = [] then (t, 0, 0) else (⟨[], 0⟩, 0, 1)
def doOneV (t : Tv) (o : Ov) : Tv × Int := if treeB t.ns t.next then doV t o else (⟨[], 0⟩, 1)

theorem putN_len (n : Nd) : ∀ ns : List Nd, (putN n ns).length = ns.length + 1
  | [] => rfl
  | m :: r => by unfold putN; split <;> simp [putN_len n r]
theorem putN_mem (n m : Nd) : ∀ ns : List Nd, m ∈ putN n ns ↔ m = n ∨ m ∈ ns
  | [] => by simp [putN]
  | x :: r => by
    unfold putN
    split
    · simp
    · rw [List.mem_cons, putN_mem n m r, List.mem_cons]
      constructor
      · rintro (h | h | h)
        · exact .inr (.inl h)
        · exact .inl h
        · exact .inr (.inr h)
      · rintro (h | h | h)
        · exact .inr (.inl h)
        · exact .inl h
        · exact .inr (.inr h)
end Go.Proofs.YtipedabppgbfcaaGreatDoor
