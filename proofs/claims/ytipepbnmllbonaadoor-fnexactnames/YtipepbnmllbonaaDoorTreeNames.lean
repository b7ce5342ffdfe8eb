/- Contracts of spec.Names and impl.Names. -/
import Derived.Test.YtipepbnmllbonaaDoorTreeOkS2
import Derived.Test.YtipepbnmllbonaaDoorTreeOkI
import Derived.Test.YtipepbnmllbonaaDoorStrs
namespace Go.Proofs.YtipepbnmllbonaaDoor
open Go.RowKit

/-- The names of the nodes in a folder. -/
def inDir (dir : List UInt8) (ns : List Nd) : List (List UInt8) := (ns.filter fun n => decide (dirV n.path = dir)).map fun n => baseV n.path
def namesV (ns : List Nd) (next : Int) (dir : List UInt8) : List (List UInt8) := if treeB ns next then inDir dir ns else []
theorem inDir_in {dir : List UInt8} {ns : List Nd} {k : Nat} (h : k < ns.length) (e : dirV ns[k].path = dir) : inDir dir (ns.take (k + 1)) = inDir dir (ns.take k) ++ [baseV ns[k].path] := by
  unfold inDir
  rw [List.take_succ_eq_append_getElem h, List.filter_append, List.map_append]
  simp [e]
theorem inDir_out {dir : List UInt8} {ns : List Nd} {k : Nat} (h : k < ns.length) (e : dirV ns[k].path ≠ dir) : inDir dir (ns.take (k + 1)) = inDir dir (ns.take k) := by
  unfold inDir
  rw [List.take_succ_eq_append_getElem h, List.filter_append, List.map_append]
  simp [e]
theorem strs_base {w : World} {B B' : Nat} {v : Value} {ls : List (List UInt8)} (h : Strs w B v ls) (hB : B' ≤ B) : Strs w B' v ls := owns_base h hB
theorem inDir_len (dir : List UInt8) (ns : List Nd) : (inDir dir ns).length ≤ ns.length := by
  unfold inDir
  rw [List.length_map]
  exact List.length_filter_le _ _

theorem namesV_len (ns : List Nd) (next : Int) (dir : List UInt8) : (namesV ns next dir).length ≤ ns.length := by
  unfold namesV
  split
  · exact inDir_len dir ns
  · simp

set_option maxRecDepth 100000 in
set_option maxHeartbeats 8000000 in
theorem specNames (w : World) (v : Value) (ns : List Nd) (next : Int) (dir : List UInt8) (h : NRd w v ns) (hz : ∀ n ∈ ns, n.path.length ≤ 2000000 ∧ n.data.length ≤ 2000000) (hl : ns.length ≤ 1048576) :
    Calls Tryd.prog 10 #[.agg #[v, .int .i64 next], .string (strOf dir)] w fun e w' => ∃ v, e = .returned v ∧ Strs w' w.heap.size v (namesV ns next dir) ∧ Below w.heap.size w w' := by
  obtain ⟨i0, hi, hz0, hzz, hz2⟩ := info_parts infoSt
  obtain ⟨a1, k1, rfl⟩ : ∃ a c, v = .slice a ns.length c := by obtain ⟨a, c, h, _⟩ := h; exact ⟨a, c, h⟩
  have hb0 : Below w.heap.size w (w.alloc (.cells #[.slice a1 ns.length k1, .int .i64 next] 29)) := (Below.refl _ _).alloc (Nat.le_refl _) _
  obtain ⟨wa, hwa⟩ : ∃ wa, w.alloc (.cells #[.slice a1 ns.length k1, .int .i64 next] 29) = wa := ⟨_, rfl⟩
  have hsa : wa.heap.size = w.heap.size + 1 := by rw [← hwa]; simp
  have BK := Lib.hid (show Blk wa w.heap.size #[.slice a1 ns.length k1, .int .i64 next] 29 by rw [← hwa]; exact Blk.new _ _ _)
  have HB0 := Lib.hid (hwa ▸ hb0)
  have HN0 := Lib.hid h
  have HZ := Lib.hid hz
  obtain ⟨b, hb⟩ : ∃ b, treeB ns next = b := ⟨_, rfl⟩
  have CT := Lib.hid (show ∀ W, Below w.heap.size w W → Calls Tryd.prog 6 #[.agg #[.slice a1 ns.length k1, .int .i64 next]] W fun e w' => e = .returned (.bool b) ∧ Below W.heap.size W w' from fun W hW => hb ▸ specTreeOk W _ ns next (h.on hW) hz)
  have HV := Lib.hid (show namesV ns next dir = if b then inDir dir ns else [] by unfold namesV; rw [hb])
  have CD := Lib.hid (show ∀ (l : List UInt8) W, l.length ≤ 2000000 → Calls Tryd.prog 20 #[.string (strOf l)] W fun e w' => e = .returned (.string (strOf (dirV l))) ∧ Below W.heap.size W w' from fun l W hl => by
    have := specDirOf (strOf l) W (by rw [strOf_size]; unfold maxLen; omega)
    rw [strOf_data] at this; exact this)
  have CB := Lib.hid (show ∀ (l : List UInt8) W, l.length ≤ 2000000 → Calls Tryd.prog 27 #[.string (strOf l)] W fun e w' => e = .returned (.string (strOf (baseV l))) ∧ Below W.heap.size W w' from fun l W hl => by
    have := specBaseOf (strOf l) W (by rw [strOf_size]; unfold maxLen; omega)
    rw [strOf_data] at this; exact this)
  have q0 := BK.out.cell 0
  simp at q0
  clear h hz hb0 hb
  have HS0 := Lib.hid (show Strs (wa.alloc (.cells #[] 9)) (w.heap.size + 1) (.slice (some ⟨wa.heap.size, 0, none⟩) 0 0) [] from World.ownsRow_lit wa #[] 0 (by omega) (by simp [maxLen]) (by simp))
  go_enter Tryd.func10, Tryd.ntmps10
  go_wp2
  go_loopw [5, 6] (fun out i W => ∃ (k : Nat) (acc : List (List UInt8)), k ≤ ns.length ∧ i = .int .i64 k ∧ Strs W (w.heap.size + 1) out acc ∧ Hid (acc = inDir dir (ns.take k)) ∧ (k = 0 ∨ b = true) ∧ acc.length ≤ k ∧ Below (w.heap.size + 1) wa W) (fun _ i _ => ns.length - (intOf i).toNat)
  case atStart => exact ⟨0, [], Nat.zero_le _, rfl, (by have h0 := HS0.out; rw [hsa] at h0; exact h0), Lib.hid (by simp [inDir]), .inl rfl, Nat.le_refl _, by simpa [hsa] using (Below.refl wa.heap.size wa).alloc (Nat.le_refl _) _⟩
  case round =>
    obtain ⟨k, acc, hk, rfl, hS, HA, hkb, hal, hb⟩ := hrel
    have HB := Lib.hid hb
    have HS := Lib.hid hS
    have hsz := hb.size
    have HBW := Lib.hid (HB0.out.trans (hb.mono (Nat.le_succ _)))
    have BKW := Lib.hid (BK.out.below hb (by omega))
    have b0 := BKW.out.cell 0
    have b1 := BKW.out.cell 1
    simp at b0 b1
    clear hb hS
    by_cases hlt : k < ns.length
    rotate_left
    · have hki : ¬ (k : Int) < (ns.length : Int) := by omega
      go_wp2
      go_ret
      refine ⟨_, rfl, ?_, HBW.out⟩
      have he : acc = namesV ns next dir := by
        rw [HV.out, HA.out, List.take_of_length_le (by omega)]
        rcases hkb with h0 | h0
        · have : ns = [] := List.eq_nil_of_length_eq_zero (by omega)
          subst this; cases b <;> rfl
        · rw [h0]; rfl
      rw [← he]; exact strs_base HS.out (Nat.le_succ _)
    have hki : (k : Int) < (ns.length : Int) := by omega
    cases b with
    | false =>
      have hk0 : k = 0 := by rcases hkb with h | h; exact h; cases h
      go_wp2_with fail
      refine (CT.out _ HBW.out).mono ?_
      rintro e W2 ⟨rfl, hb2⟩
      have HS2 := Lib.hid (HS.out.on hb2)
      have HB2 := Lib.hid (HBW.out.trans (hb2.mono HBW.out.size))
      clear hb2
      go_wp2
      go_ret
      refine ⟨_, rfl, ?_, HB2.out⟩
      have he : acc = namesV ns next dir := by rw [HV.out, HA.out, hk0]; simp [inDir]
      rw [← he]; exact strs_base HS2.out (Nat.le_succ _)
    | true =>
      obtain ⟨hz1, _⟩ := HZ.out ns[k] (List.getElem_mem hlt)
      obtain ⟨g, cap, hs, hg, hlc, hcm, hc⟩ := HN0.out.at (by intro e; subst e; simp at hlt)
      simp only [Value.slice.injEq] at hs
      obtain ⟨rfl, _, rfl⟩ := hs
      unfold maxLen at hcm
      have HCK := Lib.hid (hc k hlt)
      have HIN := Lib.hid (inDir_in (dir := dir) hlt)
      have HOUT := Lib.hid (inDir_out (dir := dir) hlt)
      obtain ⟨nd, hnd⟩ : ∃ nd, ns[k] = nd := ⟨_, rfl⟩
      rw [hnd] at hz1 HCK HIN HOUT
      have HND := Lib.hid hnd
      clear hc hnd
      go_wp2_with fail
      refine (CT.out _ HBW.out).mono ?_
      rintro e W2 ⟨rfl, hb2⟩
      have HS2 := Lib.hid (HS.out.on hb2)
      have BK2 := Lib.hid (BKW.out.on hb2)
      have HB2 := Lib.hid (HB.out.trans (hb2.mono (by omega)))
      have hs2 := hb2.size
      have c0 := BK2.out.cell 0
      have d0 := ((HCK.out.on hg HBW.out).on (by have := HBW.out.size; omega) hb2).c0
      simp at c0
      clear hb2
      go_wp2_with fail
      refine (CD.out _ _ hz1).mono ?_
      rintro e W3 ⟨rfl, hb3⟩
      have HS3 := Lib.hid (HS2.out.on hb3)
      have BK3 := Lib.hid (BK2.out.on hb3)
      have HB3 := Lib.hid (HB2.out.trans (hb3.mono (by omega)))
      have hs3 := hb3.size
      have HW3 := Lib.hid (HB0.out.trans (HB3.out.mono (Nat.le_succ _)))
      have c1 := BK3.out.cell 0
      have d1 := (HCK.out.on hg HW3.out).c0
      simp at c1
      clear hb3
      by_cases hd : dirV nd.path = dir
      · have ht := str_t hd
        have HI := Lib.hid (HIN.out hd)
        clear hd
        go_wp2_with fail
        refine (CB.out _ _ hz1).mono ?_
        rintro e W4 ⟨rfl, hb4⟩
        have HS4 := Lib.hid (HS3.out.on hb4)
        have HB4 := Lib.hid (HB3.out.trans (hb4.mono (by omega)))
        have hs4 := hb4.size
        clear hb4
        go_wp2_with (at_builtin; refine wpList_append_own _ rfl _ _ 33 rfl (w.heap.size + 1) 9 i0 (.string ⟨#[]⟩) 1 16 Tryd.underlying33 hi hz0 hzz hz2 rfl (by decide) _ _ _ rfl (HS4.out.own.alloc _) ⟨W4.heap.size, 0, none⟩ 1 1 [.string (strOf (baseV nd.path))] rfl rfl (cell_one_new _ _ _) (by simp [Value.oneCell']) (by unfold maxLen; omega) (by omega) (by simp; omega) ?_; intro v' w1 hown' hgrow _)
        go_roundw
        case rel => exact ⟨k + 1, acc ++ [baseV nd.path], by omega, by go_num, Strs.snoc rfl hown', Lib.hid (by rw [HI.out, HA.out]), .inr (by trivial), by simp; omega, HS4.out.grown HB4.out (by omega) hgrow⟩
        case measure => simp [intOf]; omega
      · have ht := str_f hd
        have HI := Lib.hid (HOUT.out hd)
        clear hd
        go_wp2
        go_roundw
        case rel => exact ⟨k + 1, acc, by omega, by go_num, HS3.out, Lib.hid (by rw [HI.out, HA.out]), .inr (by trivial), by omega, HB3.out⟩
        case measure => simp [intOf]; omega
set_option maxRecDepth 100000 in
set_option maxHeartbeats 8000000 in
theorem implNames (w : World) (v : Value) (ns : List Nd) (next : Int) (dir : List UInt8) (h : NRd w v ns) (hz : ∀ n ∈ ns, n.path.length ≤ 2000000 ∧ n.data.length ≤ 2000000) (hl : ns.length ≤ 1048576) :
    Calls Tryd.prog 11 #[.agg #[v, .int .i64 next], .string (strOf dir)] w fun e w' => ∃ v, e = .returned v ∧ Strs w' w.heap.size v (namesV ns next dir) ∧ Below w.heap.size w w' := by
  obtain ⟨i0, hi, hz0, hzz, hz2⟩ := info_parts infoSt
  obtain ⟨a1, k1, rfl⟩ : ∃ a c, v = .slice a ns.length c := by obtain ⟨a, c, h, _⟩ := h; exact ⟨a, c, h⟩
  have hb0 : Below w.heap.size w (w.alloc (.cells #[.slice a1 ns.length k1, .int .i64 next] 29)) := (Below.refl _ _).alloc (Nat.le_refl _) _
  obtain ⟨wa, hwa⟩ : ∃ wa, w.alloc (.cells #[.slice a1 ns.length k1, .int .i64 next] 29) = wa := ⟨_, rfl⟩
  have hsa : wa.heap.size = w.heap.size + 1 := by rw [← hwa]; simp
  have BK := Lib.hid (show Blk wa w.heap.size #[.slice a1 ns.length k1, .int .i64 next] 29 by rw [← hwa]; exact Blk.new _ _ _)
  have HB0 := Lib.hid (hwa ▸ hb0)
  have HN0 := Lib.hid h
  have HZ := Lib.hid hz
  obtain ⟨b, hb⟩ : ∃ b, treeB ns next = b := ⟨_, rfl⟩
  have CT := Lib.hid (show Calls Tryd.prog 8 #[.agg #[.slice a1 ns.length k1, .int .i64 next]] wa fun e w' => e = .returned (.bool b) ∧ Below wa.heap.size wa w' from hb ▸ implTreeOk wa _ ns next (h.on HB0.out) hz)
  have HV := Lib.hid (show namesV ns next dir = if b then inDir dir ns else [] by unfold namesV; rw [hb])
  have CD := Lib.hid (show ∀ (l : List UInt8) W, l.length ≤ 2000000 → Calls Tryd.prog 25 #[.string (strOf l)] W fun e w' => e = .returned (.string (strOf (dirV l))) ∧ Below W.heap.size W w' from fun l W hl => by
    have := implDirOf (strOf l) W (by rw [strOf_size]; omega)
    rw [strOf_data] at this; exact this)
  have CB := Lib.hid (show ∀ (l : List UInt8) W, l.length ≤ 2000000 → Calls Tryd.prog 28 #[.string (strOf l)] W fun e w' => e = .returned (.string (strOf (baseV l))) ∧ Below W.heap.size W w' from fun l W hl => by
    have := implBaseOf (strOf l) W (by rw [strOf_size]; omega)
    rw [strOf_data] at this; exact this)
  have q0 := BK.out.cell 0
  have q1 := BK.out.cell 1
  simp at q0 q1
  clear h hz hb0 hb
  cases b with
  | false =>
    go_enter Tryd.func11, Tryd.ntmps11
    go_wp2_with fail
    refine CT.out.mono ?_
    rintro e W2 ⟨rfl, hb2⟩
    have HB2 := Lib.hid (HB0.out.trans (hb2.mono (by omega)))
    clear hb2
    go_wp2
    go_ret
    exact ⟨_, rfl, by rw [HV.out]; exact Strs.nil _ _, HB2.out⟩
  | true =>
    go_enter Tryd.func11, Tryd.ntmps11
    go_wp2_with fail
    refine CT.out.mono ?_
    rintro e W2 ⟨rfl, hb2⟩
    have c0 := (BK.out.on hb2).cell 0
    simp at c0
    have BK2 := Lib.hid (BK.out.on hb2)
    have HB2 := Lib.hid (hb2.mono (show w.heap.size + 1 ≤ wa.heap.size by omega))
    have hs2 := hb2.size
    clear hb2
    go_wp2
    go_loopw [5, 7, 14] (fun out _ i W => ∃ (k : Nat) (acc : List (List UInt8)), k ≤ ns.length ∧ i = .int .i64 k ∧ Strs W (w.heap.size + 1) out acc ∧ Hid (acc = inDir dir (ns.take k)) ∧ acc.length ≤ k ∧ Below (w.heap.size + 1) wa W) (fun _ _ i _ => ns.length - (intOf i).toNat)
    case atStart => exact ⟨0, [], Nat.zero_le _, rfl, Strs.nil _ _, Lib.hid (by simp [inDir]), Nat.le_refl _, HB2.out⟩
    case round =>
      obtain ⟨k, acc, hk, rfl, hS, HA, hal, hb⟩ := hrel
      have HB := Lib.hid hb
      have HS := Lib.hid hS
      have hsz := hb.size
      have HBW := Lib.hid (HB0.out.trans (hb.mono (Nat.le_succ _)))
      clear hb hS
      by_cases hlt : k < ns.length
      rotate_left
      · have hki : ¬ (k : Int) < (ns.length : Int) := by omega
        go_wp2
        go_ret
        refine ⟨_, rfl, ?_, HBW.out⟩
        have he : acc = namesV ns next dir := by
          rw [HV.out, HA.out, List.take_of_length_le (by omega)]; rfl
        rw [← he]; exact strs_base HS.out (Nat.le_succ _)
      have hki : (k : Int) < (ns.length : Int) := by omega
      obtain ⟨hz1, _⟩ := HZ.out ns[k] (List.getElem_mem hlt)
      obtain ⟨g, cap, hs, hg, hlc, hcm, hc⟩ := HN0.out.at (by intro e; subst e; simp at hlt)
      simp only [Value.slice.injEq] at hs
      obtain ⟨rfl, _, rfl⟩ := hs
      unfold maxLen at hcm
      have hck := (hc k hlt).on hg HBW.out
      have HIN := Lib.hid (inDir_in (dir := dir) hlt)
      have HOUT := Lib.hid (inDir_out (dir := dir) hlt)
      obtain ⟨nd, hnd⟩ : ∃ nd, ns[k] = nd := ⟨_, rfl⟩
      rw [hnd] at hz1 hck HIN HOUT
      obtain ⟨d0, d1, d2, d3, d4, d5⟩ := hck
      have HND := Lib.hid hnd
      clear hc hnd
      obtain ⟨W, hW⟩ : ∃ W, wr.alloc (.cells #[.string (strOf nd.path), .bool nd.dir, .int .i64 nd.mode, .int .i64 nd.time, .int .i64 nd.id, .string (strOf nd.data)] 42) = W := ⟨_, rfl⟩
      have hal2 : Below wr.heap.size wr W := by rw [← hW]; exact (Below.refl _ _).alloc (Nat.le_refl _) _
      have BKN := Lib.hid (show Blk W wr.heap.size #[.string (strOf nd.path), .bool nd.dir, .int .i64 nd.mode, .int .i64 nd.time, .int .i64 nd.id, .string (strOf nd.data)] 42 by rw [← hW]; exact Blk.new _ _ _)
      have n0 := BKN.out.cell 0
      simp at n0
      have HS1 := Lib.hid (HS.out.on hal2)
      have HB1 := Lib.hid (HB.out.trans (hal2.mono (by omega)))
      have hs1 := hal2.size
      clear hal2
      go_wp2_with fail
      refine (CD.out _ _ hz1).mono ?_
      rintro e W3 ⟨rfl, hb3⟩
      have HS3 := Lib.hid (HS1.out.on hb3)
      have HB3 := Lib.hid (HB1.out.trans (hb3.mono (by omega)))
      have hs3 := hb3.size
      have m0 := (BKN.out.on hb3).cell 0
      simp at m0
      clear hb3
      by_cases hd : dirV nd.path = dir
      · have ht := str_t hd
        have HI := Lib.hid (HIN.out hd)
        clear hd
        go_wp2_with fail
        refine (CB.out _ _ hz1).mono ?_
        rintro e W4 ⟨rfl, hb4⟩
        have HS4 := Lib.hid (HS3.out.on hb4)
        have HB4 := Lib.hid (HB3.out.trans (hb4.mono (by omega)))
        have hs4 := hb4.size
        clear hb4
        go_wp2_with (at_builtin; refine wpList_append_own _ rfl _ _ 33 rfl (w.heap.size + 1) 9 i0 (.string ⟨#[]⟩) 1 16 Tryd.underlying33 hi hz0 hzz hz2 rfl (by decide) _ _ _ rfl (HS4.out.own.alloc _) ⟨W4.heap.size, 0, none⟩ 1 1 [.string (strOf (baseV nd.path))] rfl rfl (cell_one_new _ _ _) (by simp [Value.oneCell']) (by unfold maxLen; omega) (by omega) (by simp; omega) ?_; intro v' w1 hown' hgrow _)
        go_roundw
        case rel => exact ⟨k + 1, acc ++ [baseV nd.path], by omega, by go_num, Strs.snoc rfl hown', Lib.hid (by rw [HI.out, HA.out]), by simp; omega, HS4.out.grown HB4.out (by omega) hgrow⟩
        case measure => simp [intOf]; omega
      · have ht := str_f hd
        have HI := Lib.hid (HOUT.out hd)
        clear hd
        go_wp2
        go_roundw
        case rel => exact ⟨k + 1, acc, by omega, by go_num, HS3.out, Lib.hid (by rw [HI.out, HA.out]), by omega, HB3.out⟩
        case measure => simp [intOf]; omega
end Go.Proofs.YtipepbnmllbonaaDoor
