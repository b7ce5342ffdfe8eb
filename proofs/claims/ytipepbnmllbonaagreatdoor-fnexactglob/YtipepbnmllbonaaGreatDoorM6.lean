/- The laws' helpers on rows of nodes and on trees: sizes, whether two are alike; a tree's copy. Contracts of spec.Find and impl.Find: the place of the first node of a path. -/
import Derived.Test.YtipepbnmllbonaaGreatDoorM5
namespace Go.Proofs.YtipepbnmllbonaaGreatDoor
open Go.RowKit

theorem szNs_succ {ns : List Nd} {k : Nat} (h : k < ns.length) : szNs (ns.take (k + 1)) = szNs (ns.take k) + szN ns[k] := by
  unfold szNs
  rw [List.take_succ_eq_append_getElem h, List.map_append, List.sum_append]; simp
theorem szNs_take (ns : List Nd) (k : Nat) : szNs (ns.take k) ≤ szNs ns := by
  have : szNs ns = szNs (ns.take k) + szNs (ns.drop k) := by
    unfold szNs
    rw [← List.sum_append, ← List.map_append, List.take_append_drop]
  omega
theorem szNs_mem {ns : List Nd} {n : Nd} (h : n ∈ ns) : szN n ≤ szNs ns := by
  obtain ⟨i, hi, rfl⟩ := List.getElem_of_mem h
  have h1 := szNs_succ hi
  have h2 := szNs_take ns (i + 1)
  omega
/-- How much a tree's nodes count. -/
def bulkN (ns : List Nd) : Nat := ns.length + szNs ns

set_option maxRecDepth 100000 in
set_option maxHeartbeats 2000000 in
theorem szNodeS (w : World) (a : Option Addr) (len cap : Nat) (ns : List Nd) (left : Int) (h0 : 0 ≤ left) (h1 : left ≤ 1048576) (h : NIn w a len cap ns) :
    Calls Tryz.prog 81 #[.slice a len cap, .int .i64 left] w fun e w' => e = .returned (.int .i64 (leftV left (bulkN ns))) ∧ Below w.heap.size w w' := by
  have hlen := h.len
  have hcap : (len : Int) ≤ 9223372036854775807 := by
    rcases h with ⟨_, h, _⟩ | ⟨x, _, h2, h3, _⟩
    · omega
    · unfold maxLen at h3; omega
  by_cases hbig : (len : Int) ≤ left
  · have d1 : ¬ left - (len : Int) < 0 := by omega
    have HN := Lib.hid h
    have HLEN := Lib.hid hlen
    clear h hlen
    go_enter Tryz.func81, Tryz.ntmps81
    go_wp2
    go_loopw [1, 5] (fun l i W => ∃ k : Nat, k ≤ len ∧ i = .int .i64 k ∧ l = .int .i64 (left - len - (szNs (ns.take k) : Nat)) ∧ (szNs (ns.take k) : Int) ≤ left - len ∧ Below w.heap.size w W) (fun _ i _ => len - (intOf i).toNat)
    case atStart => exact ⟨0, Nat.zero_le _, rfl, by simp [szNs], by simp [szNs]; omega, Below.refl _ _⟩
    case round =>
      obtain ⟨k, hk, rfl, rfl, hle, hb⟩ := hrel
      have HB := Lib.hid hb
      clear hb
      by_cases hlt : k < len
      · have hki : (k : Int) < (len : Int) := by omega
        rcases HN.out.on HB.out with ⟨_, h, _⟩ | ⟨x, rfl, hlc, hcm, hnl, hxb, hsz, hx⟩
        · omega
        have hkn : k < ns.length := by omega
        obtain ⟨hz1, hz2⟩ := hsz ns[k] (List.getElem_mem hkn)
        have HS := Lib.hid (szNs_succ hkn)
        have HT := Lib.hid (szNs_take ns (k + 1))
        obtain ⟨nd, hnd⟩ : ∃ nd, ns[k] = nd := ⟨_, rfl⟩
        have hcs := hx k hkn
        rw [hnd] at hcs hz1 hz2 HS
        obtain ⟨d0, d1, d2, d3, d4, d5⟩ := hcs.cells
        obtain ⟨u, hu⟩ : ∃ u, szNs (ns.take k) = u := ⟨_, rfl⟩
        rw [hu] at HS hle ⊢
        have HU := Lib.hid hu
        unfold maxLen at hcm
        clear hx hnd hsz hcs hu
        by_cases hfit : (szN nd : Int) ≤ left - len - u
        · have CS := szNode nd (left - len - u) wr (by omega) (by omega) hz1 hz2
          rw [leftV_in hfit] at CS
          have d7 : ¬ left - (len : Int) - u - (szN nd : Int) < 0 := by omega
          clear hz1 hz2
          go_wp2_with (go_at_call 123; refine CS.mono ?_; rintro e W1 ⟨rfl, hb2⟩)
          go_roundw
          case rel => exact ⟨k + 1, by omega, by go_num, by rw [HS.out]; go_num, by rw [HS.out]; omega, HB.out.trans (hb2.mono HB.out.size)⟩
          case measure => simp [intOf]; omega
        · have CS := szNode nd (left - len - u) wr (by omega) (by omega) hz1 hz2
          rw [leftV_out hfit] at CS
          clear hz1 hz2
          go_wp2_with (go_at_call 123; refine CS.mono ?_; rintro e W1 ⟨rfl, hb2⟩)
          go_ret
          refine ⟨ret_int ?_, HB.out.trans (hb2.mono HB.out.size)⟩
          have h1 := HS.out
          have h2 := HT.out
          have h3 := HLEN.out
          rw [leftV_out (by unfold bulkN; omega)]
      · have hke : k = len := by omega
        have hki : ¬ (k : Int) < (len : Int) := by omega
        have HU := Lib.hid (show szNs (ns.take k) = szNs ns by rw [List.take_of_length_le (by have := HLEN.out; omega)])
        have HK := Lib.hid hke
        clear hke
        go_wp2
        go_ret
        refine ⟨ret_int ?_, HB.out⟩
        have h3 := HLEN.out
        have h4 := HU.out
        rw [h4] at hle ⊢
        rw [leftV_in (by unfold bulkN; omega)]
        unfold bulkN; omega
  · have d1 : left - (len : Int) < 0 := by omega
    clear h
    go_enter Tryz.func81, Tryz.ntmps81
    go_wp2
    go_ret
    exact ⟨ret_int (by rw [leftV_out (by unfold bulkN; omega)]), Below.refl _ _⟩

set_option maxRecDepth 100000 in
set_option maxHeartbeats 2000000 in
theorem szTree (w : World) (a : Option Addr) (len cap : Nat) (ns : List Nd) (next : Int) (left : Int) (h0 : 0 ≤ left) (h1 : left ≤ 1048576) (h : NIn w a len cap ns) :
    Calls Tryz.prog 35 #[.agg #[.slice a len cap, .int .i64 next], .int .i64 left] w fun e w' => e = .returned (.int .i64 (leftV left (bulkN ns))) ∧ Below w.heap.size w w' := by
  have hb : Below w.heap.size w (w.alloc (.cells #[.slice a len cap, .int .i64 next] 54)) := (Below.refl _ _).alloc (Nat.le_refl _) _
  have CS := szNodeS _ a len cap ns left h0 h1 (h.on hb)
  have HB := Lib.hid hb
  clear h hb
  by_cases hl : (bulkN ns : Int) ≤ left
  · rw [leftV_in hl] at CS ⊢
    have d1 : ¬ left - (bulkN ns : Int) < 0 := by omega
    have d2 : 0 ≤ left - (bulkN ns : Int) := by omega
    go_enter Tryz.func35, Tryz.ntmps35
    go_wp2_with (go_at_call 81; refine CS.mono ?_; rintro e W1 ⟨rfl, hb2⟩)
    go_ret
    exact ⟨rfl, HB.out.trans (hb2.mono HB.out.size)⟩
  · rw [leftV_out hl] at CS ⊢
    go_enter Tryz.func35, Tryz.ntmps35
    go_wp2_with (go_at_call 81; refine CS.mono ?_; rintro e W1 ⟨rfl, hb2⟩)
    go_ret
    exact ⟨rfl, HB.out.trans (hb2.mono HB.out.size)⟩

set_option maxRecDepth 100000 in
set_option maxHeartbeats 2000000 in
/-- A tree's copy. -/
theorem toTree (w : World) (a : Option Addr) (len cap : Nat) (ns : List Nd) (next : Int) (h : NIn w a len cap ns) (hl : len ≤ 1048576) :
    Calls Tryz.prog 37 #[.agg #[.slice a len cap, .int .i64 next]] w fun e w' => ∃ v, e = .returned (.agg #[v, .int .i64 next]) ∧ NRow w' w.heap.size v ns ∧ Below w.heap.size w w' := by
  have hb : Below w.heap.size w (w.alloc (.cells #[.slice a len cap, .int .i64 next] 54)) := (Below.refl _ _).alloc (Nat.le_refl _) _
  have hb2 := (hb.alloc hb.size (.cells #[.slice none 0 0, .int .i64 0] 26))
  have hb3 := hb2.alloc hb2.size (.cells #[.slice none 0 0, .int .i64 0] 26)
  have CS := toNodeS _ a len cap ns (h.on hb3) hl
  have HB := Lib.hid hb3
  clear h hb hb2 hb3
  go_enter Tryz.func37, Tryz.ntmps37
  go_wp2_with fail
  refine CS.mono ?_
  rintro e W1 ⟨v, rfl, hR, hb4⟩
  have B0 := ((((Blk.new w #[.slice a len cap, .int .i64 next] 54).alloc (.cells #[.slice none 0 0, .int .i64 0] 26)).alloc (.cells #[.slice none 0 0, .int .i64 0] 26)).on hb4)
  have B1 := (((Blk.new (w.alloc (.cells #[.slice a len cap, .int .i64 next] 54)) #[.slice none 0 0, .int .i64 0] 26).alloc (.cells #[.slice none 0 0, .int .i64 0] 26)).on hb4)
  have B2 := (Blk.new ((w.alloc (.cells #[.slice a len cap, .int .i64 next] 54)).alloc (.cells #[.slice none 0 0, .int .i64 0] 26)) #[.slice none 0 0, .int .i64 0] 26).on hb4
  obtain ⟨a1, cap1, rfl⟩ := hR.shape
  have HR := Lib.hid hR
  have HB2 := Lib.hid (HB.out.trans (hb4.mono HB.out.size))
  have l1 := B1.lt
  have l2 := B2.lt
  obtain ⟨b, hb⟩ : ∃ b, w.heap.size = b := ⟨_, rfl⟩
  simp only [World.size_alloc, hb] at B0 B1 B2 HR l1 l2
  rw [hb] at HB2 ⊢
  have c0 := B0.cell 0
  have c1 := B0.cell 1
  have c2 := B1.cell 0
  have c3 := B1.cell 1
  have c4 := B2.cell 0
  have c5 := B2.cell 1
  have f2 := B1.frozen 0
  have f3 := B1.frozen 1
  have f4 := B2.frozen 0
  have f5 := B2.frozen 1
  simp at c0 c1 c2 c3 c4 c5
  have HBE := Lib.hid hb
  clear hR hb4 B0 B1 B2 hb
  go_wp2
  refine bodyPost_ret (v := .agg #[.slice a1 ns.length cap1, .int .i64 next]) ?_ rfl ⟨_, rfl, ?_, ?_⟩
  · simp [results, Tryz.results37, go_sem, c0, c1, c2, c3, c4, c5]
  · rw [HBE.out]
    refine NRow.base (B := b + 1 + 1 + 1) ?_ (by omega)
    iterate 4 (refine NRow.other ?_ _ _ (by simp))
    exact HR.out
  · rw [HBE.out]
    iterate 4 (refine Below.setCell ?_ (by simp <;> omega) _)
    exact HB2.out

set_option maxRecDepth 100000 in
set_option maxHeartbeats 2000000 in
theorem eqNodeS (w : World) (v1 v2 : Value) (ns : List Nd) (h1 : NRd w v1 ns) (h2 : NRd w v2 ns) :
    Calls Tryz.prog 83 #[v1, v2] w fun e w' => e = .returned (.bool true) ∧ Below w.heap.size w w' := by
  by_cases hn : ns = []
  · subst hn
    obtain ⟨a1, c1, rfl, _⟩ := h1
    obtain ⟨a2, c2, rfl, _⟩ := h2
    go_enter Tryz.func83, Tryz.ntmps83
    go_wp2
    go_loop [5] (fun i => i = .int .i64 0) (fun _ => 0)
    case atStart => rfl
    case round =>
      subst hrel
      go_wp2
      go_ret
      exact ⟨rfl, Below.refl _ _⟩
  · obtain ⟨g1, c1, rfl, hg1, hl1, hm1, hc1⟩ := h1.at hn
    obtain ⟨g2, c2, rfl, hg2, hl2, hm2, hc2⟩ := h2.at hn
    clear h1 h2 hn
    unfold maxLen at hm1 hm2
    have HC1 := Lib.hid hc1
    have HC2 := Lib.hid hc2
    clear hc1 hc2
    go_enter Tryz.func83, Tryz.ntmps83
    go_wp2
    go_loopw [5] (fun i W => ∃ k : Nat, k ≤ ns.length ∧ i = .int .i64 k ∧ Below w.heap.size w W) (fun i _ => ns.length - (intOf i).toNat)
    case atStart => exact ⟨0, Nat.zero_le _, rfl, Below.refl _ _⟩
    case round =>
      obtain ⟨k, hk, rfl, hb⟩ := hrel
      by_cases h : k < ns.length
      · have hki : (k : Int) < (ns.length : Int) := by omega
        have hk1 := (HC1.out k h).on hg1 hb
        have hk2 := (HC2.out k h).on hg2 hb
        generalize ns[k] = nd at hk1 hk2
        have cE : ∀ d os, Calls Tryz.prog 125 #[.agg #[.string (strOf nd.path), .bool nd.dir, .int .i64 nd.mode, .int .i64 nd.time, .int .i64 nd.id, .string (strOf nd.data)], .agg #[.string (strOf nd.path), .bool nd.dir, .int .i64 nd.mode, .int .i64 nd.time, .int .i64 nd.id, .string (strOf nd.data)]] (Sort.grow (redrawn wr d) os) fun e w'' => e = .returned (.bool true) ∧ ∃ p : Regrown, w'' = Sort.grow (redrawn wr p.d) p.os :=
          fun d os => Calls.regrown_of (eqNode nd _)
        have CE := Lib.hid cE
        have a0 : ∀ d os, (Sort.grow (redrawn wr d) os).cell? ⟨g1, k * 6, none⟩ = _ := fun d os => cell_regrown hk1.c0 d os
        have a1 : ∀ d os, (Sort.grow (redrawn wr d) os).cell? ⟨g1, k * 6 + 1, none⟩ = _ := fun d os => cell_regrown hk1.c1 d os
        have a2 : ∀ d os, (Sort.grow (redrawn wr d) os).cell? ⟨g1, k * 6 + 2, none⟩ = _ := fun d os => cell_regrown hk1.c2 d os
        have a3 : ∀ d os, (Sort.grow (redrawn wr d) os).cell? ⟨g1, k * 6 + 3, none⟩ = _ := fun d os => cell_regrown hk1.c3 d os
        have a4 : ∀ d os, (Sort.grow (redrawn wr d) os).cell? ⟨g1, k * 6 + 4, none⟩ = _ := fun d os => cell_regrown hk1.c4 d os
        have a5 : ∀ d os, (Sort.grow (redrawn wr d) os).cell? ⟨g1, k * 6 + 5, none⟩ = _ := fun d os => cell_regrown hk1.c5 d os
        have b0 : ∀ d os, (Sort.grow (redrawn wr d) os).cell? ⟨g2, k * 6, none⟩ = _ := fun d os => cell_regrown hk2.c0 d os
        have b1 : ∀ d os, (Sort.grow (redrawn wr d) os).cell? ⟨g2, k * 6 + 1, none⟩ = _ := fun d os => cell_regrown hk2.c1 d os
        have b2 : ∀ d os, (Sort.grow (redrawn wr d) os).cell? ⟨g2, k * 6 + 2, none⟩ = _ := fun d os => cell_regrown hk2.c2 d os
        have b3 : ∀ d os, (Sort.grow (redrawn wr d) os).cell? ⟨g2, k * 6 + 3, none⟩ = _ := fun d os => cell_regrown hk2.c3 d os
        have b4 : ∀ d os, (Sort.grow (redrawn wr d) os).cell? ⟨g2, k * 6 + 4, none⟩ = _ := fun d os => cell_regrown hk2.c4 d os
        have b5 : ∀ d os, (Sort.grow (redrawn wr d) os).cell? ⟨g2, k * 6 + 5, none⟩ = _ := fun d os => cell_regrown hk2.c5 d os
        clear cE hk1 hk2
        go_wp2
        refine wp_region_quiet_below (by kernel_rfl) (by kernel_rfl) ?_
        repeat (quiet_step (exact CE.out _ _))
        refine wpQuiet_nil ?_
        intro w2 hw2
        obtain ⟨p, rfl⟩ := hw2
        go_wp2
        go_roundw
        case rel => exact ⟨k + 1, by omega, by go_num, hb.trans ((below_regrown wr p.d p.os).mono hb.size)⟩
        case measure => simp [intOf]; omega
      · go_wp2
        go_ret
        exact ⟨rfl, hb⟩

set_option maxRecDepth 100000 in
set_option maxHeartbeats 2000000 in
theorem eqTree (w : World) (v1 v2 : Value) (next : Int) (ns : List Nd) (h1 : NRd w v1 ns) (h2 : NRd w v2 ns) :
    Calls Tryz.prog 39 #[.agg #[v1, .int .i64 next], .agg #[v2, .int .i64 next]] w fun e w' => e = .returned (.bool true) ∧ Below w.heap.size w w' := by
  obtain ⟨a1, k1, e1⟩ : ∃ a c, v1 = .slice a ns.length c := by obtain ⟨a, c, h, _⟩ := h1; exact ⟨a, c, h⟩
  obtain ⟨a2, k2, e2⟩ : ∃ a c, v2 = .slice a ns.length c := by obtain ⟨a, c, h, _⟩ := h2; exact ⟨a, c, h⟩
  subst e1 e2
  have hb := ((Below.refl w.heap.size w).alloc (Nat.le_refl _) (.cells #[.slice a1 ns.length k1, .int .i64 next] 26))
  have hb2 := hb.alloc hb.size (.cells #[.slice a2 ns.length k2, .int .i64 next] 26)
  have CE := eqNodeS _ _ _ ns (h1.on hb2) (h2.on hb2)
  have B0 := (Blk.new w #[.slice a1 ns.length k1, .int .i64 next] 26).alloc (.cells #[.slice a2 ns.length k2, .int .i64 next] 26)
  have B1 := Blk.new (w.alloc (.cells #[.slice a1 ns.length k1, .int .i64 next] 26)) #[.slice a2 ns.length k2, .int .i64 next] 26
  have HB := Lib.hid hb2
  have HB0 := Lib.hid B0
  have HB1 := Lib.hid B1
  clear h1 h2 hb hb2 B0 B1
  go_enter Tryz.func39, Tryz.ntmps39
  go_wp2_with fail
  refine CE.mono ?_
  rintro e W1 ⟨rfl, hb3⟩
  have c0 := (HB0.out.on hb3).cell 1
  have c1 := (HB1.out.on hb3).cell 1
  simp at c0 c1
  have HB3 := Lib.hid (HB.out.trans (hb3.mono HB.out.size))
  clear hb3
  go_wp2
  go_ret
  exact ⟨rfl, HB3.out⟩
end Go.Proofs.YtipepbnmllbonaaGreatDoor
namespace Go.Proofs.YtipepbnmllbonaaGreatDoor
open Go.RowKit

theorem str_t {a b : List UInt8} (h : a = b) : ((strOf a).toList == (strOf b).toList) = true := by subst h; simp
theorem str_f {a b : List UInt8} (h : a ≠ b) : ((strOf a).toList == (strOf b).toList) = false := by
  rw [Lib.toList_data, Lib.toList_data, strOf_data, strOf_data]
  simpa using h
theorem findI_hit {p : List UInt8} {ns : List Nd} {k : Nat} (h : k < ns.length) (h1 : ∀ j (hj : j < ns.length), j < k → ns[j].path ≠ p) (h2 : ns[k].path = p) : findI p ns = k := by
  unfold findI; rw [find_hit h h1 h2]
theorem findI_miss {p : List UInt8} {ns : List Nd} (h : ∀ j (hj : j < ns.length), ns[j].path ≠ p) : findI p ns = -1 := by
  unfold findI; rw [find_miss h]

set_option maxRecDepth 100000 in
set_option maxHeartbeats 2000000 in
theorem specFind (w : World) (v : Value) (ns : List Nd) (next : Int) (p : List UInt8) (h : NRd w v ns) :
    Calls Tryz.prog 94 #[.agg #[v, .int .i64 next], .string (strOf p)] w fun e w' => e = .returned (.int .i64 (findI p ns)) ∧ Below w.heap.size w w' := by
  by_cases hn : ns = []
  · subst hn
    obtain ⟨a1, c1, rfl, _⟩ := h
    go_enter Tryz.func94, Tryz.ntmps94
    go_wp2
    go_loop [5] (fun i => i = .int .i64 0) (fun _ => 0)
    case atStart => rfl
    case round =>
      subst hrel
      go_wp2
      go_ret
      exact ⟨rfl, (Below.refl _ _).alloc (Nat.le_refl _) _⟩
  · obtain ⟨g1, c1, rfl, hg1, hl1, hm1, hc1⟩ := h.at hn
    clear h hn
    unfold maxLen at hm1
    have HC1 := Lib.hid hc1
    have hb : Below w.heap.size w (w.alloc (.cells #[.slice (some ⟨g1, 0, none⟩) ns.length c1, .int .i64 next] 26)) := (Below.refl _ _).alloc (Nat.le_refl _) _
    have HB := Lib.hid hb
    clear hc1 hb
    go_enter Tryz.func94, Tryz.ntmps94
    go_wp2
    go_loop [5] (fun i => ∃ k : Nat, k ≤ ns.length ∧ i = .int .i64 k ∧ ∀ j (hj : j < ns.length), j < k → ns[j].path ≠ p) (fun i => ns.length - (intOf i).toNat)
    case atStart => exact ⟨0, Nat.zero_le _, rfl, fun j _ hj => by omega⟩
    case round =>
      obtain ⟨k, hk, rfl, hno⟩ := hrel
      have HNO := Lib.hid hno
      clear hno
      by_cases h : k < ns.length
      · have hki : (k : Int) < (ns.length : Int) := by omega
        have hk1 := ((HC1.out k h).on hg1 HB.out).c0
        by_cases he : ns[k].path = p
        · have ht := str_t he
          have HE := Lib.hid he
          clear he
          go_wp2
          go_ret
          exact ⟨ret_int (by rw [findI_hit h HNO.out HE.out]), HB.out⟩
        · have ht := str_f he
          have HE := Lib.hid he
          clear he
          go_wp2
          go_round
          case rel => exact ⟨k + 1, by omega, by go_num, fun j hj hjk => by
            by_cases e : j = k
            · subst e; exact HE.out
            · exact HNO.out j hj (by omega)⟩
          case measure => simp [intOf]; omega
      · have hki : ¬ (k : Int) < (ns.length : Int) := by omega
        go_wp2
        go_ret
        exact ⟨ret_int (by rw [findI_miss (fun j hj => HNO.out j hj (by omega))]), HB.out⟩

set_option maxRecDepth 100000 in
set_option maxHeartbeats 2000000 in
/-- The predicate that impl.Find hands on. -/
theorem implFind1 (nd : Nd) (p : List UInt8) (B : Nat) (w : World) (t : TypeId) (h : Blk w B #[.string (strOf p)] t) :
    Calls Tryz.prog 63 #[.agg #[.string (strOf nd.path), .bool nd.dir, .int .i64 nd.mode, .int .i64 nd.time, .int .i64 nd.id, .string (strOf nd.data)], .pointer (some ⟨B, 0, none⟩)] w fun e w' => e = .returned (.bool ((strOf nd.path).toList == (strOf p).toList)) ∧ Below w.heap.size w w' := by
  have hc := (h.alloc (.cells #[.string (strOf nd.path), .bool nd.dir, .int .i64 nd.mode, .int .i64 nd.time, .int .i64 nd.id, .string (strOf nd.data)] 37)).cell 0
  simp at hc
  have hlt := h.lt
  clear h
  go_enter Tryz.func63, Tryz.ntmps63
  go_wp2
  all_goals
    go_ret
    exact ⟨by simp_all, (Below.refl _ _).alloc (Nat.le_refl _) _⟩

set_option maxRecDepth 100000 in
set_option maxHeartbeats 2000000 in
theorem implIndex (w : World) (v : Value) (ns : List Nd) (p : List UInt8) (B : Nat) (t : TypeId) (h : NRd w v ns) (hB : Blk w B #[.string (strOf p)] t) :
    Calls Tryz.prog 62 #[v, .func (.func 63) #[] #[.pointer (some ⟨B, 0, none⟩)]] w fun e w' => e = .returned (.int .i64 (findI p ns)) ∧ Below w.heap.size w w' := by
  by_cases hn : ns = []
  · subst hn
    obtain ⟨a1, c1, rfl, _⟩ := h
    go_enter Tryz.func62, Tryz.ntmps62
    go_wp2
    go_loop [8] (fun i => i = .int .i64 0) (fun _ => 0)
    case atStart => rfl
    case round =>
      subst hrel
      go_wp2
      go_ret
      exact ⟨rfl, Below.refl _ _⟩
  · obtain ⟨g1, c1, rfl, hg1, hl1, hm1, hc1⟩ := h.at hn
    clear h hn
    unfold maxLen at hm1
    have HC1 := Lib.hid hc1
    have HBK := Lib.hid hB
    have hlt := hB.lt
    have eg : ∀ args w, (callFunc 63 args).run Tryz.prog w = .ok (.enter 63 args) w := enters_of Tryz.func63 (by kernel_rfl) rfl
    clear hc1 hB
    go_enter Tryz.func62, Tryz.ntmps62
    go_wp2
    go_loopw [5, 8] (fun _ i W => ∃ k : Nat, k ≤ ns.length ∧ i = .int .i64 k ∧ (∀ j (hj : j < ns.length), j < k → ns[j].path ≠ p) ∧ Below w.heap.size w W) (fun _ i _ => ns.length - (intOf i).toNat)
    case atStart => exact ⟨0, Nat.zero_le _, rfl, fun j _ hj => by omega, Below.refl _ _⟩
    case round =>
      obtain ⟨k, hk, rfl, hno, hb⟩ := hrel
      have HNO := Lib.hid hno
      have HB := Lib.hid hb
      clear hno hb
      by_cases h : k < ns.length
      · have hki : (k : Int) < (ns.length : Int) := by omega
        have hk1 := (HC1.out k h).on hg1 HB.out
        obtain ⟨d0, d1, d2, d3, d4, d5⟩ := hk1
        obtain ⟨nd, hnd⟩ : ∃ nd, ns[k] = nd := ⟨_, rfl⟩
        rw [hnd] at d0 d1 d2 d3 d4 d5
        have C1 := implFind1 nd p B wr t (HBK.out.below HB.out hlt)
        have HND := Lib.hid hnd
        clear hnd
        by_cases he : nd.path = p
        · rw [str_t he] at C1
          have HE := Lib.hid he
          clear he
          go_wp2_with (go_at_fn 63; refine C1.mono ?_; rintro e w' ⟨rfl, hb2⟩)
          go_ret
          exact ⟨ret_int (by rw [findI_hit h HNO.out (by rw [HND.out]; exact HE.out)]), HB.out.trans (hb2.mono HB.out.size)⟩
        · rw [str_f he] at C1
          have HE := Lib.hid he
          clear he
          go_wp2_with (go_at_fn 63; refine C1.mono ?_; rintro e w' ⟨rfl, hb2⟩)
          go_roundw
          case rel => exact ⟨k + 1, by omega, by go_num, fun j hj hjk => by
            by_cases e : j = k
            · subst e; rw [HND.out]; exact HE.out
            · exact HNO.out j hj (by omega), HB.out.trans (hb2.mono HB.out.size)⟩
          case measure => simp [intOf]; omega
      · have hki : ¬ (k : Int) < (ns.length : Int) := by omega
        go_wp2
        go_ret
        exact ⟨ret_int (by rw [findI_miss (fun j hj => HNO.out j hj (by omega))]), HB.out⟩

set_option maxRecDepth 100000 in
set_option maxHeartbeats 2000000 in
theorem implFind (w : World) (v : Value) (ns : List Nd) (next : Int) (p : List UInt8) (h : NRd w v ns) :
    Calls Tryz.prog 18 #[.agg #[v, .int .i64 next], .string (strOf p)] w fun e w' => e = .returned (.int .i64 (findI p ns)) ∧ Below w.heap.size w w' := by
  have hb := ((Below.refl w.heap.size w).alloc (Nat.le_refl _) (.cells #[v, .int .i64 next] 26))
  have hb2 := hb.alloc hb.size (.cells #[.string (strOf p)] 9)
  have CI := implIndex _ v ns p _ _ (h.on hb2) (Blk.new (w.alloc (.cells #[v, .int .i64 next] 26)) #[.string (strOf p)] 9)
  obtain ⟨a1, k1, rfl⟩ : ∃ a c, v = .slice a ns.length c := by obtain ⟨a, c, h, _⟩ := h; exact ⟨a, c, h⟩
  simp at CI
  have HB := Lib.hid hb2
  clear h hb hb2
  go_enter Tryz.func18, Tryz.ntmps18
  go_wp2_with fail
  refine CI.mono ?_
  rintro e W1 ⟨rfl, hb3⟩
  go_wp2
  go_ret
  exact ⟨rfl, HB.out.trans (hb3.mono (by omega))⟩
end Go.Proofs.YtipepbnmllbonaaGreatDoor
