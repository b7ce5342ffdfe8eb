/- movedPath, and whether one of the nodes that move has no path then. slices.ContainsFunc over the nodes that move. -/
import Derived.Test.YtipedabppgbfcaaGreatDoorK28
set_option linter.all false
namespace Go.Proofs.YtipedabppgbfcaaGreatDoor
open Go.RowKit

theorem goes_prefix {o : Ov} {n : Nd} (hn : 0 < depthV n.path) (hp : 0 < depthV o.path) (h : goesB o n = true) : Lib.trimPrefix n.path o.path = n.path.drop o.path.length := by
  unfold Lib.trimPrefix
  rw [if_pos]
  unfold Lib.hasPrefix
  rw [List.isPrefixOf_iff_prefix]
  unfold goesB at h
  simp only [Bool.or_eq_true, decide_eq_true_eq] at h
  rcases h with h | h
  · rw [h]; exact List.prefix_refl _
  · rw [← under_has hn hp] at h
    unfold Lib.hasPrefix at h
    rw [List.isPrefixOf_iff_prefix] at h
    exact (List.prefix_append _ _).trans h

set_option maxRecDepth 100000 in
set_option maxHeartbeats 1000000 in
theorem wkMovedPath (o : Ov) (b : Nat) (n : Nd) (w : World) (h : WkAt w b n) (hn : 0 < depthV n.path) (hp : 0 < depthV o.path) (hd : 0 < depthV o.dest) (hg : goesB o n = true) :
    Calls Tryz.prog 159 #[.pointer (some ⟨b, 0, none⟩), .agg #[.int .i64 o.kind, .string (strOf o.path), .string (strOf o.dest), .string (strOf o.data), .int .i64 o.mode, .int .i64 o.time]] w fun e w' => e = .returned (.string (strOf (movedN o n).path)) ∧ Below w.heap.size w w' := by
  have CT := fun W => (Tryz.strings_TrimPrefix (strOf n.path) (strOf o.path) W)
  simp only [strOf_data] at CT
  rw [goes_prefix hn hp hg] at CT
  have hl1 := depth_short hn
  have hl2 := depth_short hd
  have hadd := fun W => run_add o.dest (n.path.drop o.path.length) (by rw [List.length_drop]; omega) W
  have HG := Lib.hid (show (movedN o n).path = o.dest ++ n.path.drop o.path.length by rw [goes_yes hg])
  obtain ⟨kind, path, dest, data, mode, time⟩ := o
  simp only at CT hadd HG ⊢
  obtain ⟨wa, hwa⟩ : ∃ wa, w.alloc (.cells #[.int .i64 kind, .string (strOf path), .string (strOf dest), .string (strOf data), .int .i64 mode, .int .i64 time] 28) = wa := ⟨_, rfl⟩
  have ba : Below w.heap.size w wa := by rw [← hwa]; exact (Below.refl _ _).alloc (Nat.le_refl _) _
  have O0 := (show Blk wa w.heap.size #[.int .i64 kind, .string (strOf path), .string (strOf dest), .string (strOf data), .int .i64 mode, .int .i64 time] 28 by rw [← hwa]; exact Blk.new _ _ _)
  have x0 := (h.on ba).cells.1
  have HBA := Lib.hid ba
  have o1 := O0.cell 1
  have o2 := O0.cell 2
  simp at o1 o2
  change ∀ W, Calls _ _ _ W fun e w' => e = .returned (.string (strOf (n.path.drop path.length))) ∧ w' = W at CT
  generalize n.path.drop path.length = t at CT hadd HG
  clear h hn hp hd hg ba O0 hl1 hl2
  go_enter Tryz.func159, Tryz.ntmps159
  go_wp2_with fail
  refine wp_region_still_lit (by kernel_rfl) (by kernel_rfl) ?_
  iterate 8 still_step
  still_call (CT _)
  repeat still_step
  refine wpStill_nil ?_
  go_wp2
  go_ret
  exact ⟨ret_str (by rw [HG.out]), HBA.out.drew⟩

set_option maxRecDepth 100000 in
set_option maxHeartbeats 1000000 in
/-- The predicate that move hands on. -/
theorem wkNoPath (o : Ov) (b : Nat) (n : Nd) (c : Nat) (w : World) (h : WkAt w b n) (hc : Blk w c #[.int .i64 o.kind, .string (strOf o.path), .string (strOf o.dest), .string (strOf o.data), .int .i64 o.mode, .int .i64 o.time] 28) (hn : 0 < depthV n.path) (hp : 0 < depthV o.path) (hd : 0 < depthV o.dest) (hg : goesB o n = true) :
    Calls Tryz.prog 158 #[wkVal (b, n), .pointer (some ⟨c, 0, none⟩)] w fun e w' => e = .returned (.bool (!decide (0 < depthV (movedN o n).path))) ∧ Below w.heap.size w w' := by
  have hl2 := depth_short hd
  have hl1 := depth_short hn
  have hml : (movedN o n).path.length ≤ 2000000 := by rw [goes_yes hg]; simp; omega
  have K1 := Lib.hid (show ∀ q os, Calls Tryz.prog 254 #[.pointer (some ⟨b, 0, none⟩)] (Sort.grow (redrawn w q) os) fun e w'' => e = .returned (.pointer (some ⟨b, 0, none⟩)) ∧ ∃ p : Regrown, w'' = Sort.grow (redrawn w p.d) p.os from fun q os => Calls.regrown_of ((wkBase b _).mono fun _ _ h => ⟨h.1, h.2 ▸ Below.refl _ _⟩))
  have K2 := Lib.hid (show ∀ q os, Calls Tryz.prog 159 #[.pointer (some ⟨b, 0, none⟩), .agg #[.int .i64 o.kind, .string (strOf o.path), .string (strOf o.dest), .string (strOf o.data), .int .i64 o.mode, .int .i64 o.time]] (Sort.grow (redrawn w q) os) fun e w'' => e = .returned (.string (strOf (movedN o n).path)) ∧ ∃ p : Regrown, w'' = Sort.grow (redrawn w p.d) p.os from fun q os => Calls.regrown_of (wkMovedPath o b n _ (h.on (below_regrown w q os)) hn hp hd hg))
  have K3 := Lib.hid (show ∀ q os, Calls Tryz.prog 106 #[.string (strOf (movedN o n).path)] (Sort.grow (redrawn w q) os) fun e w'' => e = .returned (.bool (decide (0 < depthV (movedN o n).path))) ∧ ∃ p : Regrown, w'' = Sort.grow (redrawn w p.d) p.os from fun q os => Calls.regrown_of (by
    have := implPathOk (strOf (movedN o n).path) (Sort.grow (redrawn w q) os) (by rw [strOf_size]; exact hml)
    rw [strOf_data] at this; exact this))
  have s0 := fun q os => (hc.on (below_regrown w q os)).cell 0
  have s1 := fun q os => (hc.on (below_regrown w q os)).cell 1
  have s2 := fun q os => (hc.on (below_regrown w q os)).cell 2
  have s3 := fun q os => (hc.on (below_regrown w q os)).cell 3
  have s4 := fun q os => (hc.on (below_regrown w q os)).cell 4
  have s5 := fun q os => (hc.on (below_regrown w q os)).cell 5
  simp at s0 s1 s2 s3 s4 s5
  generalize decide (0 < depthV (movedN o n).path) = z at K3 ⊢
  generalize (movedN o n).path = mp at K2 K3
  have p1 := fun W => nil_folder "loop.example/g00704/impl.base" b W (.inl rfl)
  have p2 := fun W => nil_file "loop.example/g00704/impl.base" b W (.inl rfl)
  have m1 := fun W => base_folder b W
  have m2 := fun W => base_file b W
  obtain ⟨kind, path, dest, data, mode, time⟩ := o
  simp only at K2 s0 s1 s2 s3 s4 s5
  have hcell : ∃ t, wkVal (b, n) = .iface t (.pointer (some ⟨b, 0, none⟩)) ∧ (t = 140 ∨ t = 143) := by
    cases hd : n.dir with
    | true => exact ⟨_, wkVal_dir hd, .inl rfl⟩
    | false => exact ⟨_, wkVal_file hd, .inr rfl⟩
  obtain ⟨t, ht, htt⟩ := hcell
  rw [ht]
  clear h hc hn hp hd hg ht hml hl1 hl2
  rcases htt with rfl | rfl
  all_goals
    go_enter Tryz.func158, Tryz.ntmps158
    go_wp2_with fail
    refine wp_region_quiet_below (by kernel_rfl) (by kernel_rfl) ?_
    repeat (go_big_quiet_step (first | exact K1.out _ _ | exact K2.out _ _ | exact K3.out _ _))
    refine wpQuiet_nil ?_
    intro w6 hw6
    obtain ⟨r, rfl⟩ := hw6
    go_wp2
    go_ret
    exact ⟨rfl, below_regrown w r.d r.os⟩
end Go.Proofs.YtipedabppgbfcaaGreatDoor
namespace Go.Proofs.YtipedabppgbfcaaGreatDoor
open Go.RowKit

def badP (o : Ov) (q : Nat × Nd) : Bool := !decide (0 < depthV (movedN o q.2).path)
/-- Nodes that move, as they lie in memory. -/
structure Movers (W : World) (o : Ov) (qs : List (Nat × Nd)) : Prop where
  at_ : ∀ q ∈ qs, WkAt W q.1 q.2
  pos : ∀ q ∈ qs, 0 < depthV q.2.path
  goes : ∀ q ∈ qs, goesB o q.2 = true
theorem Movers.on {W W' : World} {o : Ov} {qs : List (Nat × Nd)} (h : Movers W o qs) (hb : Below W.heap.size W W') : Movers W' o qs := ⟨fun q hq => (h.at_ q hq).on hb, h.pos, h.goes⟩
theorem own_cell {W : World} {B : Nat} {e : TypeId} {a : Option Addr} {cap : Nat} {xs : List Value} {n : Nat} (h : W.ownsRow B e 1 (.slice a n cap) n xs) {k : Nat} (hk : k < n) : ∃ g, a = some ⟨g, 0, none⟩ ∧ B ≤ g ∧ g < W.heap.size ∧ n ≤ cap ∧ cap ≤ maxLen ∧ W.cell? ⟨g, k, none⟩ = xs[k]? := by
  have h' := h
  rcases h.2 with ⟨hv, hn⟩ | ⟨g, cap', cur, hv, hb, hg, hc, hm, hs, _⟩
  · omega
  · simp only [Value.slice.injEq] at hv
    obtain ⟨rfl, _, rfl⟩ := hv
    exact ⟨g, rfl, hb, (Array.getElem?_eq_some_iff.1 hg).1, hc, hm, World.ownsRow.cellAt h' k (by omega)⟩

set_option maxRecDepth 100000 in
set_option maxHeartbeats 2000000 in
theorem wkIndexBad (o : Ov) (w : World) (B c : Nat) (v : Value) (qs : List (Nat × Nd)) (hr : w.ownsRow B 149 1 v qs.length (qs.map wkVal)) (hm : Movers w o qs) (hl : qs.length ≤ 100) (hc : Blk w c #[.int .i64 o.kind, .string (strOf o.path), .string (strOf o.dest), .string (strOf o.data), .int .i64 o.mode, .int .i64 o.time] 28) (hp : 0 < depthV o.path) (hd : 0 < depthV o.dest) :
    Calls Tryz.prog 181 #[v, .func (.func 158) #[] #[.pointer (some ⟨c, 0, none⟩)]] w fun e w' => (∃ z : Int, e = .returned (.int .i64 z) ∧ decide (0 ≤ z) = qs.any (badP o)) ∧ Below w.heap.size w w' := by
  have eg : ∀ args w, (callFunc 158 args).run Tryz.prog w = .ok (.enter 158 args) w := enters_of Tryz.func158 (by kernel_rfl) rfl
  have HR := Lib.hid hr
  have HM := Lib.hid hm
  have HC := Lib.hid hc
  obtain ⟨a, cap, rfl⟩ := own_slice hr
  have hli : (qs.length : Int) ≤ 100 := by omega
  clear hr hm hc
  go_enter Tryz.func181, Tryz.ntmps181
  go_wp2
  go_loopw [5, 8] (fun _ iv W => ∃ k : Nat, iv = .int .i64 k ∧ k ≤ qs.length ∧ Below w.heap.size w W ∧ Hid ((qs.take k).any (badP o) = false)) (fun _ iv _ => qs.length - (intOf iv).toNat)
  case atStart => exact ⟨0, rfl, Nat.zero_le _, Below.refl _ _, Lib.hid (by simp)⟩
  case round =>
    obtain ⟨k, rfl, hk, hbl, HB⟩ := hrel
    by_cases hlt : k < qs.length
    · have hki : (k : Int) < (qs.length : Int) := by omega
      have hR2 := owns_on6 HR.out hbl
      obtain ⟨g, rfl, _, _, hcc, hcm, hcell⟩ := own_cell hR2 hlt
      rw [List.getElem?_map, List.getElem?_eq_getElem hlt] at hcell
      have hmem := List.getElem_mem hlt
      have CM := wkNoPath o qs[k].1 qs[k].2 c wr ((HM.out.on hbl).at_ _ hmem) (HC.out.on hbl) (HM.out.pos _ hmem) hp hd (HM.out.goes _ hmem)
      have HT := Lib.hid (show (qs.take (k + 1)).any (badP o) = badP o qs[k] by rw [List.take_succ_eq_append_getElem hlt, List.any_append, HB.out]; simp)
      have HUP := Lib.hid (show (qs.take (k + 1)).any (badP o) = true → qs.any (badP o) = true from fun h => by
        rw [← List.take_append_drop (k + 1) qs, List.any_append, h]; rfl)
      have HBL := Lib.hid hbl
      unfold maxLen at hcm
      change Calls Tryz.prog 158 #[wkVal qs[k], .pointer (some ⟨c, 0, none⟩)] wr fun e w' => e = .returned (.bool (badP o qs[k])) ∧ Below wr.heap.size wr w' at CM
      generalize badP o qs[k] = z at CM HT
      simp only [Option.map_some] at hcell
      obtain ⟨u, hu⟩ : ∃ u, wkVal qs[k] = u := ⟨_, rfl⟩
      have hux : ∃ t x, u = .iface t x := ⟨_, _, hu.symm⟩
      rw [hu] at hcell CM
      obtain ⟨t, x, rfl⟩ := hux
      clear hu hmem hR2 hbl
      cases z with
      | true =>
        go_wp2_with (go_at_fn 158; refine CM.mono ?_; rintro e W1 ⟨rfl, hb1⟩)
        go_ret
        exact ⟨⟨k, rfl, by rw [HUP.out HT.out]; simp⟩, HBL.out.trans (hb1.mono HBL.out.size)⟩
      | false =>
        go_wp2_with (go_at_fn 158; refine CM.mono ?_; rintro e W1 ⟨rfl, hb1⟩)
        go_roundw
        case rel => exact ⟨k + 1, by go_num, by omega, HBL.out.trans (hb1.mono HBL.out.size), HT⟩
        case measure => simp [intOf]; omega
    · have hki : ¬ (k : Int) < (qs.length : Int) := by omega
      have HE := Lib.hid (show qs.any (badP o) = false by have := HB.out; rwa [List.take_of_length_le (by omega)] at this)
      have HBL := Lib.hid hbl
      clear hbl HB
      go_wp2
      go_ret
      exact ⟨⟨-1, rfl, by rw [HE.out]; rfl⟩, HBL.out⟩
theorem wkHasBad (o : Ov) (w : World) (B c : Nat) (v : Value) (qs : List (Nat × Nd)) (hr : w.ownsRow B 149 1 v qs.length (qs.map wkVal)) (hm : Movers w o qs) (hl : qs.length ≤ 100) (hc : Blk w c #[.int .i64 o.kind, .string (strOf o.path), .string (strOf o.dest), .string (strOf o.data), .int .i64 o.mode, .int .i64 o.time] 28) (hp : 0 < depthV o.path) (hd : 0 < depthV o.dest) :
    Calls Tryz.prog 157 #[v, .func (.func 158) #[] #[.pointer (some ⟨c, 0, none⟩)]] w fun e w' => e = .returned (.bool (qs.any (badP o))) ∧ Below w.heap.size w w' := by
  have CI := Lib.hid (wkIndexBad o w B c v qs hr hm hl hc hp hd)
  generalize qs.any (badP o) = y at CI
  clear hr hm hc
  go_enter Tryz.func157, Tryz.ntmps157
  go_wp2_with fail
  refine CI.out.mono ?_
  rintro e W1 ⟨⟨q, rfl, hq⟩, hb1⟩
  have HQ := Lib.hid hq
  clear hq
  go_wp2
  go_ret
  exact ⟨ret_bool HQ.out, hb1⟩
end Go.Proofs.YtipedabppgbfcaaGreatDoor
