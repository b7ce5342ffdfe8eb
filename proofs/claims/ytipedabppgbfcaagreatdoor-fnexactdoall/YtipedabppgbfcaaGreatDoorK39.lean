/- The contract of impl.TreeOk: identities and folders are kept in maps as one goes. impl.DoAll of a list that isn't empty, impl.Do. -/
import Derived.Test.YtipedabppgbfcaaGreatDoorK14
import Derived.Test.YtipedabppgbfcaaGreatDoorK15
import Derived.Test.YtipedabppgbfcaaGreatDoorK38
import Derived.Test.YtipedabppgbfcaaGreatDoorK32
import Derived.Test.YtipedabppgbfcaaGreatDoorK19
import Derived.Test.YtipedabppgbfcaaGreatDoorK20
set_option linter.all false
namespace Go.Proofs.YtipedabppgbfcaaGreatDoor
open Go.RowKit Go.Maps

theorem zeroBool (w : World) : (zeroValue 4).run Tryz.prog w = .ok (.bool false) w := by kernel_rfl
theorem implBeforeB (a b : List UInt8) (w : World) :
    Calls Tryz.prog 67 #[.string (strOf a), .string (strOf b)] w fun e w' => e = .returned (.bool (lessB a b)) ∧ w = w' := by
  have h := implBefore (strOf a) (strOf b) w
  rw [Lib.toList_data, Lib.toList_data, strOf_data, strOf_data] at h
  exact h
theorem lastP_zero (ns : List Nd) : lastP ns 0 = [] := rfl
theorem lastP_succ {ns : List Nd} {k : Nat} (h : k < ns.length) : lastP ns (k + 1) = ns[k].path := by
  unfold lastP
  rw [if_neg (by omega), show k + 1 - 1 = k by omega, List.getElem?_eq_getElem h]
theorem free_zero (ns : List Nd) (c : Int) : freeB ns 0 c = true := by simp [freeB]
theorem fold_zero (ns : List Nd) (p : List UInt8) : foldB ns 0 p = (p == [47]) := by simp [foldB]
/-- What the two maps tell. -/
def Ids (ns : List Nd) (k : Nat) (l : List (Int × Bool)) : Prop := ∀ c, (lookK c l).getD false = !freeB ns k c
def Folds (ns : List Nd) (k : Nat) (l : List (List UInt8 × Bool)) : Prop := ∀ p, (lookK p l).getD false = foldB ns k p
theorem Ids.next {ns : List Nd} {k : Nat} {l : List (Int × Bool)} (h : Ids ns k l) (hk : k < ns.length) : Ids ns (k + 1) (putK ns[k].id true l) := fun c => by
  rw [look_put, free_succ hk]
  by_cases e : ns[k].id = c
  · rw [if_pos e]; simp [e]
  · rw [if_neg e, h c]; simp [e]
theorem Folds.next {ns : List Nd} {k : Nat} {l : List (List UInt8 × Bool)} {next : Int} (h : Folds ns k l) (hk : k < ns.length) (hg : ∀ j, j < ns.length → j < k + 1 → goB ns next j = true) : Folds ns (k + 1) (putK ns[k].path ns[k].dir l) := fun p => by
  rw [look_put, fold_succ hk]
  by_cases e : ns[k].path = p
  · rw [if_pos e, ← e, fold_new hk hg]; simp
  · rw [if_neg e, h p]; simp [e]

set_option maxRecDepth 100000 in
set_option maxHeartbeats 8000000 in
theorem implTreeOk (w : World) (v : Value) (ns : List Nd) (next : Int) (h : NRd w v ns) (hz : ∀ n ∈ ns, n.path.length ≤ 2000000 ∧ n.data.length ≤ 2000000) :
    Calls Tryz.prog 20 #[.agg #[v, .int .i64 next]] w fun e w' => e = .returned (.bool (treeB ns next)) ∧ Below w.heap.size w w' := by
  obtain ⟨a1, k1, rfl⟩ : ∃ a c, v = .slice a ns.length c := by obtain ⟨a, c, h, _⟩ := h; exact ⟨a, c, h⟩
  have hb0 : Below w.heap.size w (w.alloc (.cells #[.slice a1 ns.length k1, .int .i64 next] 26)) := (Below.refl _ _).alloc (Nat.le_refl _) _
  have BK := Lib.hid (Blk.new w #[.slice a1 ns.length k1, .int .i64 next] 26)
  have HB0 := Lib.hid hb0
  have HN0 := Lib.hid h
  have hlen : (ns.length : Int) ≤ 9223372036854775807 := by
    obtain ⟨_, _, _, h2, h3, _⟩ := h
    unfold maxLen at h3; omega
  clear hb0 h
  by_cases h60 : ns.length ≤ 60
  rotate_left
  · have hi : 60 < (ns.length : Int) := by omega
    have HV := Lib.hid (tree_many (next := next) (show 60 < ns.length by omega))
    go_enter Tryz.func20, Tryz.ntmps20
    go_wp2
    go_ret
    exact ⟨ret_bool (by rw [HV.out]), HB0.out⟩
  have h60i : ¬ 60 < (ns.length : Int) := by omega
  by_cases hn1 : 1 ≤ next
  rotate_left
  · have hn1i : next < 1 := by omega
    have HV := Lib.hid (tree_next (ns := ns) (show inB next 1 1000000 = false from inB_f (by omega)))
    go_enter Tryz.func20, Tryz.ntmps20
    go_wp2
    go_ret
    exact ⟨ret_bool (by rw [HV.out]), HB0.out⟩
  have hn1i : ¬ next < 1 := by omega
  by_cases hn2 : next ≤ 1000000
  rotate_left
  · have hn2i : 1000000 < next := by omega
    have HV := Lib.hid (tree_next (ns := ns) (show inB next 1 1000000 = false from inB_f (by omega)))
    go_enter Tryz.func20, Tryz.ntmps20
    go_wp2
    go_ret
    exact ⟨ret_bool (by rw [HV.out]), HB0.out⟩
  have hn2i : ¬ 1000000 < next := by omega
  have HNX := Lib.hid (inB_t hn1 hn2)
  have HZ := Lib.hid hz
  have hmm := @run_makeMap Tryz.prog
  obtain ⟨wa, hwa⟩ : ∃ wa, w.alloc (.cells #[.slice a1 ns.length k1, .int .i64 next] 26) = wa := ⟨_, rfl⟩
  have hsa : wa.heap.size = w.heap.size + 1 := by rw [← hwa]; simp
  have m1 : MapIs (fun a : Int => Value.int .i64 a) (fun b : Bool => Value.bool b) ((wa.alloc (.map #[] 0)).alloc (.map #[] 0)) (w.heap.size + 1) [] := by
    have h1 : MapIs (fun a : Int => Value.int .i64 a) (fun b : Bool => Value.bool b) (wa.alloc (.map #[] 0)) (w.heap.size + 1) [] := by rw [← hsa]; exact heap_alloc_new wa _
    exact h1.on ((Below.refl _ _).alloc (Nat.le_refl _) _)
  have m2 : MapIs (fun a : List UInt8 => Value.string (strOf a)) (fun b : Bool => Value.bool b) ((wa.alloc (.map #[] 0)).alloc (.map #[] 0)) (w.heap.size + 2) [] := by
    have hs2 : (wa.alloc (.map #[] 0)).heap.size = w.heap.size + 2 := by simp [hsa]
    rw [← hs2]; exact heap_alloc_new _ _
  obtain ⟨wm, hr1, m3, hg3⟩ := run_ins keyAs_str Tryz.underlying91 Tryz.underlying9 m2 [47] true
  have m4 := m1.kept hg3 (by simp)
  have hbm : Below (w.heap.size + 1) wa wm := (((Below.refl _ _).alloc (by omega) _).alloc (by simp; omega) _).grown hg3 (by simp; omega) (fun k e => by cases e; omega)
  rw [show strOf [47] = (⟨#[47]⟩ : ByteArray) from rfl] at hr1
  have M3 := Lib.hid m3
  have M4 := Lib.hid m4
  have HBM := Lib.hid hbm
  have HID := Lib.hid (show Ids ns 0 [] from fun c => by rw [free_zero]; rfl)
  have HFO := Lib.hid (show Folds ns 0 (putK [47] true []) from fun p => by
    rw [fold_zero, look_put]
    by_cases e : [47] = p
    · rw [if_pos e, ← e]; rfl
    · rw [if_neg e]
      have : (p == [47]) = false := by simpa using fun e2 => e e2.symm
      rw [this]; rfl)
  have BKA : Blk wa w.heap.size #[.slice a1 ns.length k1, .int .i64 next] 26 := by rw [← hwa]; exact BK.out
  have BKM := Lib.hid (BKA.below hbm (by omega))
  have HBW := Lib.hid (show Below w.heap.size w wm from (hwa ▸ HB0.out).trans (hbm.mono (by omega)))
  have q0 := BKA.cell 0
  have q1 := BKA.cell 1
  have r0 := BKM.out.cell 0
  have r1 := BKM.out.cell 1
  simp at q0 q1 r0 r1
  have hszm := hbm.size
  clear hz m1 m2 m3 m4 hg3 hbm BKA
  go_enter Tryz.func20, Tryz.ntmps20
  go_wp2
  go_loopw [3, 7, 28] (fun lv _ i W => ∃ (k : Nat) (l1 : List (Int × Bool)) (l2 : List (List UInt8 × Bool)), k ≤ ns.length ∧ i = .int .i64 k ∧ lv = .string (strOf (lastP ns k)) ∧ Hid (∀ j, j < ns.length → j < k → goB ns next j = true) ∧ Hid (Ids ns k l1) ∧ Hid (Folds ns k l2) ∧ MapIs (fun a : Int => Value.int .i64 a) (fun b : Bool => Value.bool b) W (w.heap.size + 1) l1 ∧ MapIs (fun a : List UInt8 => Value.string (strOf a)) (fun b : Bool => Value.bool b) W (w.heap.size + 2) l2 ∧ Below (w.heap.size + 1) wm W ∧ w.heap.size + 3 ≤ W.heap.size) (fun _ _ i _ => ns.length - (intOf i).toNat)
  case atStart => exact ⟨0, _, _, Nat.zero_le _, rfl, rfl, Lib.hid (fun j _ hj => by omega), HID, HFO, M4.out, M3.out, Below.refl _ _, by have := M3.out.lt; omega⟩
  case round =>
    obtain ⟨k, l1, l2, hk, rfl, rfl, HST, HI, HF, hM1, hM2, hb, hsz3⟩ := hrel
    have HB := Lib.hid hb
    have HM1 := Lib.hid hM1
    have HM2 := Lib.hid hM2
    have BKW := Lib.hid (BKM.out.below hb (by omega))
    have HNW := Lib.hid (HN0.out.on (HBW.out.trans (hb.mono (by omega))))
    have b0 := BKW.out.cell 0
    have b1 := BKW.out.cell 1
    have hbz := hb.size
    simp at b0 b1
    clear hb hM1 hM2
    by_cases hlt : k < ns.length
    rotate_left
    · have hki : ¬ (k : Int) < (ns.length : Int) := by omega
      have HV := Lib.hid (tree_is_go h60 HNX.out (fun i hi => HST.out i hi (by omega)))
      go_wp2
      go_ret
      exact ⟨ret_bool (by rw [HV.out]), HBW.out.trans (HB.out.mono (by omega))⟩
    have hki : (k : Int) < (ns.length : Int) := by omega
    obtain ⟨g, cap, hs, hg, hlc, hcm, hc⟩ := HNW.out.at (by intro e; subst e; simp at hlt)
    simp only [Value.slice.injEq] at hs
    obtain ⟨rfl, _, rfl⟩ := hs
    unfold maxLen at hcm
    have hck := hc k hlt
    obtain ⟨hz1, hz2⟩ := HZ.out ns[k] (List.getElem_mem hlt)
    have HGA := Lib.hid (go_at (next := next) hlt)
    have HI1 := Lib.hid (HI.out ns[k].id)
    have HF1 := Lib.hid (HF.out (dirV ns[k].path))
    have HIN := Lib.hid (HI.out.next hlt)
    have HFN := Lib.hid (fun hg => Folds.next (next := next) HF.out hlt hg)
    have HLP := Lib.hid (lastP_succ hlt)
    obtain ⟨nd, hnd⟩ : ∃ nd, ns[k] = nd := ⟨_, rfl⟩
    rw [hnd, node_split] at HGA
    rw [hnd] at hck hz1 hz2 HI1 HF1 HIN HFN HLP
    obtain ⟨d0, d1, d2, d3, d4, d5⟩ := hck
    obtain ⟨W, hW⟩ : ∃ W, wr.alloc (.cells #[.string (strOf nd.path), .bool nd.dir, .int .i64 nd.mode, .int .i64 nd.time, .int .i64 nd.id, .string (strOf nd.data)] 37) = W := ⟨_, rfl⟩
    have hal : Below wr.heap.size wr W := by rw [← hW]; exact (Below.refl _ _).alloc (Nat.le_refl _) _
    have BKN := Lib.hid (show Blk W wr.heap.size #[.string (strOf nd.path), .bool nd.dir, .int .i64 nd.mode, .int .i64 nd.time, .int .i64 nd.id, .string (strOf nd.data)] 37 by rw [← hW]; exact Blk.new _ _ _)
    have BKT := Lib.hid (BKW.out.on hal)
    have HAL := Lib.hid (HB.out.trans (hal.mono (by omega)))
    have hsW := hal.size
    have C1 := Lib.hid (implNode nd W hz1 hz2)
    have C2 := Lib.hid (fun V => implBeforeB (lastP ns k) nd.path V)
    have C3 := Lib.hid (show ∀ V, Calls Tryz.prog 68 #[.string (strOf nd.path)] V fun e w' => e = .returned (.string (strOf (dirV nd.path))) ∧ Below V.heap.size V w' from fun V => by
      have := implDirOf (strOf nd.path) V (by rw [strOf_size]; omega)
      rw [strOf_data] at this; exact this)
    have f0 := BKN.out.cell 0
    have f1 := BKN.out.cell 1
    have f2 := BKN.out.cell 2
    have f3 := BKN.out.cell 3
    have f4 := BKN.out.cell 4
    have f5 := BKN.out.cell 5
    simp at f0 f1 f2 f3 f4 f5
    clear hz1 hz2 hc
    generalize nodeI nd = b1 at C1 HGA
    generalize freeB ns k nd.id = b3 at HI1 HGA
    generalize lessB (lastP ns k) nd.path = b4 at C2 HGA
    generalize foldB ns k (dirV nd.path) = b5 at HF1 HGA
    cases b1 with
    | false =>
      have HV := Lib.hid (tree_not_go hlt (by rw [HGA.out]; rfl))
      go_wp2_with fail
      refine C1.out.mono ?_
      rintro e W2 ⟨rfl, hb2⟩
      have n0 := (BKN.out.on hb2).cell 0
      have n1 := (BKN.out.on hb2).cell 1
      have n4 := (BKN.out.on hb2).cell 4
      have t1 := (BKT.out.on hb2).cell 1
      simp at n0 n1 n4 t1
      have m1 := (HM1.out.on hal).on hb2
      have m2 := (HM2.out.on hal).on hb2
      have lk1 := run_look keyAs_int Tryz.underlying90 Tryz.underlying3 (zeroBool W2) (z := false) m1 nd.id
      rw [HI1.out] at lk1
      have HM3 := Lib.hid m1
      have HM4 := Lib.hid m2
      have HBN2 := Lib.hid (BKN.out.on hb2)
      have HBT2 := Lib.hid (BKT.out.on hb2)
      have HB2 := Lib.hid (HAL.out.trans (hb2.mono (by have := HAL.out.size; omega)))
      have hs2 := hb2.size
      clear hb2 m1 m2
      go_wp2
      go_ret
      exact ⟨ret_bool (by rw [HV.out]), HBW.out.trans (HB2.out.mono (by omega))⟩
    | true =>
      by_cases hid : nd.id < next
      rotate_left
      · have hidi : next ≤ nd.id := by omega
        have HV := Lib.hid (tree_not_go hlt (by rw [HGA.out, decide_eq_false hid]; rfl))
        go_wp2_with fail
        refine C1.out.mono ?_
        rintro e W2 ⟨rfl, hb2⟩
        have n0 := (BKN.out.on hb2).cell 0
        have n1 := (BKN.out.on hb2).cell 1
        have n4 := (BKN.out.on hb2).cell 4
        have t1 := (BKT.out.on hb2).cell 1
        simp at n0 n1 n4 t1
        have m1 := (HM1.out.on hal).on hb2
        have m2 := (HM2.out.on hal).on hb2
        have lk1 := run_look keyAs_int Tryz.underlying90 Tryz.underlying3 (zeroBool W2) (z := false) m1 nd.id
        rw [HI1.out] at lk1
        have HM3 := Lib.hid m1
        have HM4 := Lib.hid m2
        have HBN2 := Lib.hid (BKN.out.on hb2)
        have HBT2 := Lib.hid (BKT.out.on hb2)
        have HB2 := Lib.hid (HAL.out.trans (hb2.mono (by have := HAL.out.size; omega)))
        have hs2 := hb2.size
        clear hb2 m1 m2
        go_wp2
        go_ret
        exact ⟨ret_bool (by rw [HV.out]), HBW.out.trans (HB2.out.mono (by omega))⟩
      · have hidi : ¬ next ≤ nd.id := by omega
        have HG2 := Lib.hid (show goB ns next k = (b3 && (b4 && b5)) by rw [HGA.out, decide_eq_true hid]; rfl)
        clear hid
        cases b3 with
        | false =>
          have HV := Lib.hid (tree_not_go hlt (by rw [HG2.out]; rfl))
          go_wp2_with fail
          refine C1.out.mono ?_
          rintro e W2 ⟨rfl, hb2⟩
          have n0 := (BKN.out.on hb2).cell 0
          have n1 := (BKN.out.on hb2).cell 1
          have n4 := (BKN.out.on hb2).cell 4
          have t1 := (BKT.out.on hb2).cell 1
          simp at n0 n1 n4 t1
          have m1 := (HM1.out.on hal).on hb2
          have m2 := (HM2.out.on hal).on hb2
          have lk1 := run_look keyAs_int Tryz.underlying90 Tryz.underlying3 (zeroBool W2) (z := false) m1 nd.id
          rw [HI1.out] at lk1
          have HM3 := Lib.hid m1
          have HM4 := Lib.hid m2
          have HBN2 := Lib.hid (BKN.out.on hb2)
          have HBT2 := Lib.hid (BKT.out.on hb2)
          have HB2 := Lib.hid (HAL.out.trans (hb2.mono (by have := HAL.out.size; omega)))
          have hs2 := hb2.size
          clear hb2 m1 m2
          go_wp2
          go_ret
          exact ⟨ret_bool (by rw [HV.out]), HBW.out.trans (HB2.out.mono (by omega))⟩
        | true =>
          cases b4 with
          | false =>
            have HV := Lib.hid (tree_not_go hlt (by rw [HG2.out]; rfl))
            go_wp2_with fail
            refine C1.out.mono ?_
            rintro e W2 ⟨rfl, hb2⟩
            have n0 := (BKN.out.on hb2).cell 0
            have n1 := (BKN.out.on hb2).cell 1
            have n4 := (BKN.out.on hb2).cell 4
            have t1 := (BKT.out.on hb2).cell 1
            simp at n0 n1 n4 t1
            have m1 := (HM1.out.on hal).on hb2
            have m2 := (HM2.out.on hal).on hb2
            have lk1 := run_look keyAs_int Tryz.underlying90 Tryz.underlying3 (zeroBool W2) (z := false) m1 nd.id
            rw [HI1.out] at lk1
            have HM3 := Lib.hid m1
            have HM4 := Lib.hid m2
            have HBN2 := Lib.hid (BKN.out.on hb2)
            have HBT2 := Lib.hid (BKT.out.on hb2)
            have HB2 := Lib.hid (HAL.out.trans (hb2.mono (by have := HAL.out.size; omega)))
            have hs2 := hb2.size
            clear hb2 m1 m2
            go_wp2_with fail
            refine (C2.out _).mono ?_
            rintro e w' ⟨rfl, rfl⟩
            go_wp2
            go_ret
            exact ⟨ret_bool (by rw [HV.out]), HBW.out.trans (HB2.out.mono (by omega))⟩
          | true =>
            cases b5 with
            | false =>
              have HV := Lib.hid (tree_not_go hlt (by rw [HG2.out]; rfl))
              go_wp2_with fail
              refine C1.out.mono ?_
              rintro e W2 ⟨rfl, hb2⟩
              have n0 := (BKN.out.on hb2).cell 0
              have n1 := (BKN.out.on hb2).cell 1
              have n4 := (BKN.out.on hb2).cell 4
              have t1 := (BKT.out.on hb2).cell 1
              simp at n0 n1 n4 t1
              have m1 := (HM1.out.on hal).on hb2
              have m2 := (HM2.out.on hal).on hb2
              have lk1 := run_look keyAs_int Tryz.underlying90 Tryz.underlying3 (zeroBool W2) (z := false) m1 nd.id
              rw [HI1.out] at lk1
              have HM3 := Lib.hid m1
              have HM4 := Lib.hid m2
              have HBN2 := Lib.hid (BKN.out.on hb2)
              have HBT2 := Lib.hid (BKT.out.on hb2)
              have HB2 := Lib.hid (HAL.out.trans (hb2.mono (by have := HAL.out.size; omega)))
              have hs2 := hb2.size
              clear hb2 m1 m2
              go_wp2_with fail
              refine (C2.out _).mono ?_
              rintro e w' ⟨rfl, rfl⟩
              go_wp2_with fail
              refine (C3.out W2).mono ?_
              rintro e W3 ⟨rfl, hb3⟩
              have m1 := HM3.out.on hb3
              have m2 := HM4.out.on hb3
              have n0 := (HBN2.out.on hb3).cell 0
              have n1 := (HBN2.out.on hb3).cell 1
              have n4 := (HBN2.out.on hb3).cell 4
              simp at n0 n1 n4
              have lk2 := run_look keyAs_str Tryz.underlying91 Tryz.underlying9 (zeroBool W3) (z := false) m2 (dirV nd.path)
              rw [HF1.out] at lk2
              have HM5 := Lib.hid m1
              have HM6 := Lib.hid m2
              have HBN3 := Lib.hid (HBN2.out.on hb3)
              have HBT3 := Lib.hid (HBT2.out.on hb3)
              have HB3 := Lib.hid (HB2.out.trans (hb3.mono (by have := HB2.out.size; omega)))
              have hs3 := hb3.size
              clear hb3 m1 m2
              go_wp2
              go_ret
              exact ⟨ret_bool (by rw [HV.out]), HBW.out.trans (HB3.out.mono (by omega))⟩
            | true =>
              go_wp2_with fail
              refine C1.out.mono ?_
              rintro e W2 ⟨rfl, hb2⟩
              have n0 := (BKN.out.on hb2).cell 0
              have n1 := (BKN.out.on hb2).cell 1
              have n4 := (BKN.out.on hb2).cell 4
              have t1 := (BKT.out.on hb2).cell 1
              simp at n0 n1 n4 t1
              have m1 := (HM1.out.on hal).on hb2
              have m2 := (HM2.out.on hal).on hb2
              have lk1 := run_look keyAs_int Tryz.underlying90 Tryz.underlying3 (zeroBool W2) (z := false) m1 nd.id
              rw [HI1.out] at lk1
              have HM3 := Lib.hid m1
              have HM4 := Lib.hid m2
              have HBN2 := Lib.hid (BKN.out.on hb2)
              have HBT2 := Lib.hid (BKT.out.on hb2)
              have HB2 := Lib.hid (HAL.out.trans (hb2.mono (by have := HAL.out.size; omega)))
              have hs2 := hb2.size
              clear hb2 m1 m2
              go_wp2_with fail
              refine (C2.out _).mono ?_
              rintro e w' ⟨rfl, rfl⟩
              go_wp2_with fail
              refine (C3.out W2).mono ?_
              rintro e W3 ⟨rfl, hb3⟩
              have m1 := HM3.out.on hb3
              have m2 := HM4.out.on hb3
              have n0 := (HBN2.out.on hb3).cell 0
              have n1 := (HBN2.out.on hb3).cell 1
              have n4 := (HBN2.out.on hb3).cell 4
              simp at n0 n1 n4
              have lk2 := run_look keyAs_str Tryz.underlying91 Tryz.underlying9 (zeroBool W3) (z := false) m2 (dirV nd.path)
              rw [HF1.out] at lk2
              have HM5 := Lib.hid m1
              have HM6 := Lib.hid m2
              have HBN3 := Lib.hid (HBN2.out.on hb3)
              have HBT3 := Lib.hid (HBT2.out.on hb3)
              have HB3 := Lib.hid (HB2.out.trans (hb3.mono (by have := HB2.out.size; omega)))
              have hs3 := hb3.size
              clear hb3 m1 m2
              have HM7 := Lib.hid (HM5.out.on (Below.refl W3.heap.size W3).drew)
              have HM8 := Lib.hid (HM6.out.on (Below.refl W3.heap.size W3).drew)
              have HB4 := Lib.hid (HB3.out.drew)
              have HBN4 := Lib.hid (HBN3.out.on (Below.refl W3.heap.size W3).drew)
              have hs4 : W3.drew.heap.size = W3.heap.size := rfl
              obtain ⟨W5, hi5, hm5, hg5⟩ := run_ins keyAs_int Tryz.underlying90 Tryz.underlying3 HM7.out nd.id true
              have hm6 := HM8.out.kept hg5 (by simp)
              have hb5 := HB4.out.grown hg5 (by simp; omega) (fun j e => by cases e; omega)
              obtain ⟨W6, hi6, hm7, hg6⟩ := run_ins keyAs_str Tryz.underlying91 Tryz.underlying9 hm6 nd.path nd.dir
              have hm8 := hm5.kept hg6 (by simp)
              have hb6 := hb5.grown hg6 (by have := hg5.size; simp at this; omega) (fun j e => by cases e; omega)
              have hs6 : W3.heap.size ≤ W6.heap.size := Nat.le_trans hg5.size hg6.size
              have H7 := Lib.hid hm7
              have H8 := Lib.hid hm8
              have HB6 := Lib.hid hb6
              clear hm5 hm6 hm7 hm8 hb5 hb6
              have e0 := (HBN4.out.grown hg5 (by simp; omega)).cell 0
              have e1 := (HBN4.out.grown hg5 (by simp; omega)).cell 1
              have e4 := (HBN4.out.grown hg5 (by simp; omega)).cell 4
              simp at e0 e1 e4
              clear hg5 hg6
              go_wp2
              go_region
              all_goals
                go_wp2
                go_roundw
                case rel =>
                  have hgo : ∀ j, j < ns.length → j < k + 1 → goB ns next j = true := fun j hj hjk => by
                    by_cases e : j = k
                    · subst e; rw [HG2.out]; rfl
                    · exact HST.out j hj (by omega)
                  exact ⟨k + 1, _, _, by omega, by go_num, by rw [HLP.out], Lib.hid hgo, HIN, Lib.hid (HFN.out hgo), H8.out, H7.out, HB6.out, by omega⟩
                case measure => simp [intOf]; omega
end Go.Proofs.YtipedabppgbfcaaGreatDoor
namespace Go.Proofs.YtipedabppgbfcaaGreatDoor
open Go.RowKit
variable {R : World}

structure OpAt (w : World) (g o : Nat) (x : Ov) : Prop where
  c0 : w.cell? ⟨g, o, none⟩ = some (.int .i64 x.kind)
  c1 : w.cell? ⟨g, o + 1, none⟩ = some (.string (strOf x.path))
  c2 : w.cell? ⟨g, o + 2, none⟩ = some (.string (strOf x.dest))
  c3 : w.cell? ⟨g, o + 3, none⟩ = some (.string (strOf x.data))
  c4 : w.cell? ⟨g, o + 4, none⟩ = some (.int .i64 x.mode)
  c5 : w.cell? ⟨g, o + 5, none⟩ = some (.int .i64 x.time)
theorem OpAt.on {w w' : World} {g o : Nat} {n : Ov} (h : OpAt w g o n) (hg : g < w.heap.size) (hb : Below w.heap.size w w') : OpAt w' g o n :=
  ⟨(hb.cell (p := ⟨g, o, none⟩) hg).trans h.c0, (hb.cell (p := ⟨g, o + 1, none⟩) hg).trans h.c1, (hb.cell (p := ⟨g, o + 2, none⟩) hg).trans h.c2, (hb.cell (p := ⟨g, o + 3, none⟩) hg).trans h.c3, (hb.cell (p := ⟨g, o + 4, none⟩) hg).trans h.c4, (hb.cell (p := ⟨g, o + 5, none⟩) hg).trans h.c5⟩
/-- A row of ops that is read. -/
def ORd (w : World) (v : Value) (os : List Ov) : Prop :=
  ∃ g cap, v = .slice (some ⟨g, 0, none⟩) os.length cap ∧ os.length ≤ cap ∧ cap ≤ maxLen ∧ g < w.heap.size ∧ ∀ i (hi : i < os.length), OpAt w g (i * 6) os[i]
theorem ORd.on {w w' : World} {v : Value} {os : List Ov} (h : ORd w v os) (hb : Below w.heap.size w w') : ORd w' v os := by
  obtain ⟨g, cap, hv, hl, hm, hg, hc⟩ := h
  exact ⟨g, cap, hv, hl, hm, Nat.lt_of_lt_of_le hg hb.size, fun i hi => (hc i hi).on hg hb⟩
/-- Of what is refused nothing is done. -/
theorem do_same {t : Tv} {o : Ov} (h : (doV t o).2 ≠ 0) : (doV t o).1 = t := by
  unfold doV at h ⊢
  split at h <;> rename_i h1
  · rw [if_pos h1]
    split at h <;> rename_i h2
    · exact absurd rfl h
    · rw [if_neg h2]
      split at h <;> rename_i h3
      · rw [if_pos h3]
        unfold newV at h ⊢
        split at h <;> rename_i h4
        · rw [if_pos h4]
        · rw [if_neg h4]
          split at h <;> rename_i h5
          · rw [if_pos h5]
            split at h <;> rename_i h6
            · rw [if_pos h6]
            · exact absurd rfl h
          · rw [if_neg h5]
      · rw [if_neg h3]
        split at h <;> rename_i h4
        · rw [if_pos h4]
          split at h <;> rename_i h5
          · rw [if_pos h5]
            unfold moveV at h ⊢
            split at h <;> rename_i h6
            · rw [if_pos h6]
            · rw [if_neg h6]
              split at h <;> rename_i h7
              · rw [if_pos h7]
                cases hm : moveGo o [] t.ns with
                | none => rfl
                | some a => rw [hm] at h; exact absurd rfl h
              · rw [if_neg h7]
          · rw [if_neg h5]
            split at h <;> rename_i h6
            · rw [if_pos h6]
              split at h <;> rename_i h7
              · rw [if_pos h7]
              · exact absurd rfl h
            · rw [if_neg h6]
              unfold changeV at h ⊢
              cases hf : findV o.path t.ns with
              | none => rfl
              | some i =>
                rw [hf] at h
                simp only at h ⊢
                cases hn : t.ns[i]? with
                | none => rfl
                | some n =>
                  rw [hn] at h
                  simp only at h ⊢
                  split at h <;> rename_i h8
                  · exact absurd rfl h
                  · rw [if_neg h8]
        · rw [if_neg h4]
  · rw [if_neg h1]
theorem node_bare {n : Nd} {next : Int} (h : nodeB n next = true) (hd : n.dir = true) : n.data = [] := by
  unfold nodeB at h
  simp only [Bool.and_eq_true, Bool.or_eq_true] at h
  rcases h.2.2.2.2.2 with h | h
  · rw [hd] at h; cases h
  · simpa using h
theorem all_bad {t : Tv} {os : List Ov} (h : treeB t.ns t.next = false) (hne : os ≠ []) : doAllV t os = (⟨[], 0⟩, 0, 1) := by unfold doAllV; rw [h, if_neg (by decide), if_neg hne]
theorem all_go {t : Tv} {os : List Ov} (h : treeB t.ns t.next = true) : doAllV t os = doGo t os 0 := by unfold doAllV; rw [if_pos h]
theorem doGo_stop {t : Tv} {o : Ov} {r : List Ov} {k : Nat} (h : (doV t o).2 ≠ 0) : doGo t (o :: r) k = (t, k, (doV t o).2) := by
  show (if (doV t o).2 = 0 then _ else _) = _
  rw [if_neg h]
theorem doGo_on {t : Tv} {o : Ov} {r : List Ov} {k : Nat} (h : (doV t o).2 = 0) : doGo t (o :: r) k = doGo (doV t o).1 r (k + 1) := by
  show (if (doV t o).2 = 0 then _ else _) = _
  rw [if_pos h]

set_option maxRecDepth 100000 in
set_option maxHeartbeats 2000000 in
theorem implDoAllN (w : World) (v v2 : Value) (ns : List Nd) (next : Int) (os : List Ov) (h : NRd w v ns) (ho : ORd w v2 os) (hne : os ≠ []) (hol : os.length ≤ 2000000) (hz : ∀ n ∈ ns, n.path.length ≤ 2000000 ∧ n.data.length ≤ 2000000) (hoz : ∀ o ∈ os, o.path.length ≤ 2000000 ∧ o.dest.length ≤ 2000000 ∧ o.data.length ≤ 2000000) :
    Calls Tryz.prog 25 #[.agg #[v, .int .i64 next], v2] w fun e w' => ∃ v', e = .returned (.tuple #[.agg #[v', .int .i64 (doAllV ⟨ns, next⟩ os).1.next], .int .i64 (doAllV ⟨ns, next⟩ os).2.1, .int .i64 (doAllV ⟨ns, next⟩ os).2.2]) ∧ NRow w' w.heap.size v' (doAllV ⟨ns, next⟩ os).1.ns ∧ Below w.heap.size w w' := by
  obtain ⟨a1, k1, rfl⟩ : ∃ a c, v = .slice a ns.length c := by obtain ⟨a, c, h, _⟩ := h; exact ⟨a, c, h⟩
  have HO := Lib.hid ho
  obtain ⟨g, cap, rfl, hl, hm, hg, hc⟩ := ho
  have HN := Lib.hid h
  obtain ⟨wa, hwa⟩ : ∃ wa, w.alloc (.cells #[.slice a1 ns.length k1, .int .i64 next] 26) = wa := ⟨_, rfl⟩
  obtain ⟨wb, hwb⟩ : ∃ wb, wa.alloc (.cells #[.slice none 0 0, .int .i64 0] 26) = wb := ⟨_, rfl⟩
  have hsa : wa.heap.size = w.heap.size + 1 := by rw [← hwa]; simp
  have hsb : wb.heap.size = w.heap.size + 2 := by rw [← hwb]; simp [hsa]
  have ba : Below w.heap.size w wa := by rw [← hwa]; exact (Below.refl _ _).alloc (Nat.le_refl _) _
  have bb : Below wa.heap.size wa wb := by rw [← hwb]; exact (Below.refl _ _).alloc (Nat.le_refl _) _
  have T0 := (show Blk wa w.heap.size #[.slice a1 ns.length k1, .int .i64 next] 26 by rw [← hwa]; exact Blk.new _ _ _).on bb
  have R0 : Blk wb (w.heap.size + 1) #[.slice none 0 0, .int .i64 0] 26 := by rw [← hwb, ← hsa]; exact Blk.new _ _ _
  have t0 := T0.cell 0
  have t1 := T0.cell 1
  have r0 := R0.cell 0
  have r1 := R0.cell 1
  simp at t0 t1 r0 r1
  have hab := ba.trans (bb.mono ba.size)
  have CT := implTreeOk wb _ ns next (HN.out.on hab) hz
  have HB := Lib.hid hab
  have HT := Lib.hid T0
  have HRB := Lib.hid R0
  have hpos : (0 : Int) < (os.length : Int) := by have := List.length_pos_iff.2 hne; omega
  have hn0 : ((os.length : Int) == 0) = false := by simp; omega
  clear ba bb hab T0 R0 h hc
  cases htb : treeB ns next with
  | false =>
    have HE := Lib.hid (all_bad (t := ⟨ns, next⟩) htb hne)
    rw [htb] at CT
    clear htb
    go_enter Tryz.func25, Tryz.ntmps25
    go_wp2_with (go_at_call 20; refine CT.mono ?_; rintro e W1 ⟨rfl, hb1⟩; (have HB1 := Lib.hid hb1); (have c0 := (HRB.out.on hb1).cell 0); (have c1 := (HRB.out.on hb1).cell 1); (have f0 := (HRB.out.on hb1).frozen 0); (have f1 := (HRB.out.on hb1).frozen 1); simp at c0 c1; clear r0 r1 hb1)
    refine bodyPost_ret (v := .tuple #[.agg #[.slice none 0 0, .int .i64 0], .int .i64 0, .int .i64 1]) ?_ rfl ⟨.slice none 0 0, by rw [HE.out]; rfl, by rw [HE.out]; exact NRow.nil _ _, ?_⟩
    · simp [results, Tryz.results25, go_sem, c0, c1]
    · iterate 2 (refine Below.setCell ?_ (by simp) _)
      exact HB.out.trans (HB1.out.mono HB.out.size)
  | true =>
    have HR := Lib.hid (Right.of htb)
    have HE := Lib.hid (all_go (t := ⟨ns, next⟩) (os := os) htb)
    rw [htb] at CT
    clear htb
    have CW := Lib.hid (fun W (hb : Below wb.heap.size wb W) => wkOn W _ ns next ((HN.out.on HB.out).on hb) (fun n hn hd => node_bare (HR.out.node n hn) hd) HR.out.len)
    go_enter Tryz.func25, Tryz.ntmps25
    go_wp2_with (first | (go_at_call 20; refine CT.mono ?_; rintro e W1 ⟨rfl, hb1⟩; (have HB1 := Lib.hid hb1); (have c0 := (HT.out.on hb1).cell 0); (have c1 := (HT.out.on hb1).cell 1); simp at c0 c1; clear t0 t1 hb1) | (go_at_call 73; refine (CW.out _ HB1.out).mono ?_; rintro e W2 ⟨p, rfl, v2, ps, hW2, hn2, hb2⟩))
    have HBW2 := Lib.hid (show Below w.heap.size w W2 from (HB.out.trans (HB1.out.mono HB.out.size)).trans (hb2.mono (by have := HB1.out.size; omega)))
    have HRB2 := Lib.hid ((HRB.out.on HB1.out).on hb2)
    have HWK := Lib.hid (hW2.base (B' := w.heap.size + 2) (by have := HB1.out.size; omega))
    have HR2 := Lib.hid (show Right (nds ps) next by rw [hn2]; exact HR.out)
    have HE2 := Lib.hid (show doAllV ⟨ns, next⟩ os = doGo ⟨nds ps, next⟩ (os.drop 0) 0 by rw [hn2]; exact HE.out)
    have hs12 := HB1.out.size
    have hs2 := hb2.size
    clear hW2 hn2 hb2 c0 c1 r0 r1 HE HR CW CT
    go_loopw [28] (fun iv W => ∃ (k : Nat) (v : Value) (ps : List (Nat × Nd)) (nx : Int), k ≤ os.length ∧ iv = .int .i64 k ∧ Hid (Work W1 W (w.heap.size + 2) p v ps nx) ∧ Hid (Right (nds ps) nx) ∧ Hid (doAllV ⟨ns, next⟩ os = doGo ⟨nds ps, nx⟩ (os.drop k) k) ∧ Hid (Blk W (w.heap.size + 1) #[.slice none 0 0, .int .i64 0] 26) ∧ Hid (Below w.heap.size w W)) (fun iv _ => os.length - (intOf iv).toNat)
    case atStart => exact ⟨0, v2, ps, next, Nat.zero_le _, rfl, HWK, HR2, HE2, HRB2, HBW2⟩
    case round =>
      clear HWK HR2 HE2 HRB2 HBW2 HRB
      obtain ⟨k, v, ps, nx, hk, rfl, HWK, HR, HE, HRB, HBW⟩ := hrel
      by_cases hlt : k < os.length
      · have hki : (k : Int) < (os.length : Int) := by omega
        obtain ⟨g2, cap2, hs, _, _, hg2, hc⟩ := HO.out
        simp only [Value.slice.injEq, Option.some.injEq, Addr.mk.injEq] at hs
        obtain ⟨⟨rfl, _⟩, _, rfl⟩ := hs
        have hck := (hc k hlt).on hg2 HBW.out
        have hzk := hoz os[k] (List.getElem_mem hlt)
        have HDR := Lib.hid (List.drop_eq_getElem_cons hlt)
        generalize hq : os[k] = o at hck hzk
        have HQ := Lib.hid hq
        obtain ⟨kind, path, dest, data, mode, time⟩ := o
        obtain ⟨e0, e1, e2, e3, e4, e5⟩ := hck
        obtain ⟨z1, z2, z3⟩ := hzk
        simp only at e0 e1 e2 e3 e4 e5 z1 z2 z3
        obtain ⟨W3, hW3⟩ : ∃ W, wr.alloc (.cells #[.int .i64 kind, .string (strOf path), .string (strOf dest), .string (strOf data), .int .i64 mode, .int .i64 time] 28) = W := ⟨_, rfl⟩
        have b3 : Below wr.heap.size wr W3 := by rw [← hW3]; exact (Below.refl _ _).alloc (Nat.le_refl _) _
        have O3 : Blk W3 wr.heap.size #[.int .i64 kind, .string (strOf path), .string (strOf dest), .string (strOf data), .int .i64 mode, .int .i64 time] 28 := by rw [← hW3]; exact Blk.new _ _ _
        have s0 := O3.cell 0
        have s1 := O3.cell 1
        have s2 := O3.cell 2
        have s3 := O3.cell 3
        have s4 := O3.cell 4
        have s5 := O3.cell 5
        simp at s0 s1 s2 s3 s4 s5
        have HW3 := Lib.hid (HWK.out.on b3)
        have HRB3 := Lib.hid (HRB.out.on b3)
        have HB3 := Lib.hid (HBW.out.trans (b3.mono HBW.out.size))
        have CD := wkDo6 kind mode time path dest data W3 (w.heap.size + 2) p v ps nx HW3.out HR.out z1 z2 z3
        have HKR := Lib.hid (do_right (t := ⟨nds ps, nx⟩) (o := ⟨kind, path, dest, data, mode, time⟩) HR.out)
        have HSM := Lib.hid (do_same (t := ⟨nds ps, nx⟩) (o := ⟨kind, path, dest, data, mode, time⟩))
        have HST := Lib.hid (doGo_stop (t := ⟨nds ps, nx⟩) (o := ⟨kind, path, dest, data, mode, time⟩) (r := os.drop (k + 1)) (k := k))
        have HON := Lib.hid (doGo_on (t := ⟨nds ps, nx⟩) (o := ⟨kind, path, dest, data, mode, time⟩) (r := os.drop (k + 1)) (k := k))
        have HE3 := Lib.hid (show doAllV ⟨ns, next⟩ os = doGo ⟨nds ps, nx⟩ (⟨kind, path, dest, data, mode, time⟩ :: os.drop (k + 1)) k by rw [HE.out, HDR.out, HQ.out])
        generalize doV ⟨nds ps, nx⟩ ⟨kind, path, dest, data, mode, time⟩ = r at CD HKR HSM HST HON
        obtain ⟨⟨rns, rnx⟩, code⟩ := r
        simp only at HKR HSM HST HON
        clear O3 b3 hc hq z1 z2 z3 HWK HRB HE
        by_cases h0 : code = 0
        · subst h0
          go_wp2_with (go_at_call 74; refine CD.mono ?_; rintro e W4 ⟨rfl, v4, ps4, hW4, hn4, hb4⟩)
          go_roundw
          case rel =>
            refine ⟨k + 1, v4, ps4, rnx, by omega, by go_num, Lib.hid hW4, Lib.hid (by rw [hn4]; exact HKR.out), Lib.hid ?_, Lib.hid (HRB3.out.below hb4 (by omega)), Lib.hid (HB3.out.trans (hb4.mono (by omega)))⟩
            rw [HE3.out, HON.out (by first | rfl | trivial), hn4]
          case measure => simp [intOf]; omega
        · have hcb : (code != 0) = true := by simp [h0]
          have hns : (⟨rns, rnx⟩ : Tv) = ⟨nds ps, nx⟩ := HSM.out h0
          have hn1 : rns = nds ps := congrArg Tv.ns hns
          have hn2 : rnx = nx := congrArg Tv.next hns
          subst hn2
          have HE4 := Lib.hid (show doAllV ⟨ns, next⟩ os = (⟨nds ps, rnx⟩, k, code) by rw [HE3.out, HST.out h0])
          have HN1 := Lib.hid hn1
          clear hns hn1 HSM HST HON
          go_wp2_with (first
            | (go_at_call 74; refine CD.mono ?_; rintro e W4 ⟨rfl, v4, ps4, hW4, hn4, hb4⟩; (have HN4 := Lib.hid (hn4.trans HN1.out)); (have HL4 := Lib.hid (show ps4.length ≤ 60 by have := HR.out.len; rw [← HN1.out] at this; rw [← nds_len ps4, hn4]; exact this)); (have CT := wkTree W4 (w.heap.size + 2) p v4 ps4 rnx hW4 HL4.out); (have HRX := Lib.hid (HRB3.out.below hb4 (by omega))); (have HB4 := Lib.hid (HB3.out.trans (hb4.mono (by omega)))); (have hs4 : w.heap.size + 2 ≤ W4.heap.size := by have := hW4.plt; omega); clear hW4 hb4 hn4 CD)
            | (go_at_call 75; refine CT.mono ?_; rintro e W5 ⟨v5, rfl, hR5, hb5⟩; (obtain ⟨a5, k5, rfl⟩ := hR5.shape); (have HR5 := Lib.hid hR5); (have HB5 := Lib.hid hb5); (have c0 := (HRX.out.on hb5).cell 0); (have c1 := (HRX.out.on hb5).cell 1); (have f0 := (HRX.out.on hb5).frozen 0); (have f1 := (HRX.out.on hb5).frozen 1); simp at c0 c1; clear hR5 hb5))
          refine bodyPost_ret (v := .tuple #[.agg #[.slice a5 (nds ps4).length k5, .int .i64 rnx], .int .i64 k, .int .i64 code]) ?_ rfl ⟨.slice a5 (nds ps4).length k5, by rw [HE4.out], ?_, ?_⟩
          · simp [results, Tryz.results25, go_sem, c0, c1]
          · rw [HE4.out]
            refine NRow.base (B := W4.heap.size) ?_ (by omega)
            iterate 2 (refine NRow.other ?_ _ _ (by show w.heap.size + 1 < W4.heap.size; omega))
            rw [← HN4.out]; exact HR5.out
          · iterate 2 (refine Below.setCell ?_ (by simp) _)
            exact HB4.out.trans (HB5.out.mono HB4.out.size)
      · have hki : ¬ (k : Int) < (os.length : Int) := by omega
        obtain rfl : k = os.length := by omega
        have CT := wkTree wr (w.heap.size + 2) p v ps nx HWK.out (by have := HR.out.len; rw [nds_len] at this; exact this)
        have HRX := HRB
        have HE4 := Lib.hid (show doAllV ⟨ns, next⟩ os = (⟨nds ps, nx⟩, os.length, 0) by rw [HE.out, List.drop_length]; rfl)
        have hs4 : w.heap.size + 2 ≤ wr.heap.size := by have := HWK.out.plt; omega
        go_wp2_with (go_at_call 75; refine CT.mono ?_; rintro e W5 ⟨v5, rfl, hR5, hb5⟩; (obtain ⟨a5, k5, rfl⟩ := hR5.shape); (have HR5 := Lib.hid hR5); (have HB5 := Lib.hid hb5); (have c0 := (HRX.out.on hb5).cell 0); (have c1 := (HRX.out.on hb5).cell 1); (have f0 := (HRX.out.on hb5).frozen 0); (have f1 := (HRX.out.on hb5).frozen 1); simp at c0 c1; clear hR5 hb5)
        refine bodyPost_ret (v := .tuple #[.agg #[.slice a5 (nds ps).length k5, .int .i64 nx], .int .i64 os.length, .int .i64 0]) ?_ rfl ⟨.slice a5 (nds ps).length k5, by rw [HE4.out], ?_, ?_⟩
        · simp [results, Tryz.results25, go_sem, c0, c1]
        · rw [HE4.out]
          refine NRow.base (B := wr.heap.size) ?_ (by omega)
          iterate 2 (refine NRow.other ?_ _ _ (by show w.heap.size + 1 < wr.heap.size; omega))
          exact HR5.out
        · iterate 2 (refine Below.setCell ?_ (by simp) _)
          exact HBW.out.trans (HB5.out.mono HBW.out.size)
theorem all_one (t : Tv) (o : Ov) : (doAllV t [o]).1 = (doOneV t o).1 ∧ (doAllV t [o]).2.2 = (doOneV t o).2 := by
  unfold doAllV doOneV
  by_cases h : treeB t.ns t.next = true
  · rw [if_pos h, if_pos h]
    by_cases h0 : (doV t o).2 = 0
    · rw [doGo_on h0]; exact ⟨rfl, h0.symm⟩
    · rw [doGo_stop h0]; exact ⟨(do_same h0).symm, rfl⟩
  · rw [if_neg h, if_neg h, if_neg (by simp)]; exact ⟨rfl, rfl⟩

set_option maxRecDepth 100000 in
set_option maxHeartbeats 2000000 in
theorem implDo6 (w : World) (v : Value) (ns : List Nd) (next : Int) (kind mode time : Int) (path dest data : List UInt8) (h : NRd w v ns) (hz : ∀ n ∈ ns, n.path.length ≤ 2000000 ∧ n.data.length ≤ 2000000) (h1 : path.length ≤ 2000000) (h2 : dest.length ≤ 2000000) (h3 : data.length ≤ 2000000) :
    Calls Tryz.prog 17 #[.agg #[v, .int .i64 next], .agg #[.int .i64 kind, .string (strOf path), .string (strOf dest), .string (strOf data), .int .i64 mode, .int .i64 time]] w fun e w' => ∃ v', e = .returned (.tuple #[.agg #[v', .int .i64 (doOneV ⟨ns, next⟩ ⟨kind, path, dest, data, mode, time⟩).1.next], .int .i64 (doOneV ⟨ns, next⟩ ⟨kind, path, dest, data, mode, time⟩).2]) ∧ NRow w' w.heap.size v' (doOneV ⟨ns, next⟩ ⟨kind, path, dest, data, mode, time⟩).1.ns ∧ Below w.heap.size w w' := by
  obtain ⟨a1, k1, rfl⟩ : ∃ a c, v = .slice a ns.length c := by obtain ⟨a, c, h, _⟩ := h; exact ⟨a, c, h⟩
  have HN := Lib.hid h
  have HC := Lib.hid (fun W g (hb : Below w.heap.size w W) (ho : ORd W (.slice (some ⟨g, 0, none⟩) 1 1) [⟨kind, path, dest, data, mode, time⟩]) => implDoAllN W (.slice a1 ns.length k1) (.slice (some ⟨g, 0, none⟩) 1 1) ns next [⟨kind, path, dest, data, mode, time⟩] (HN.out.on hb) ho (by simp) (by simp) hz (by intro o ho; simp at ho; subst ho; exact ⟨h1, h2, h3⟩))
  have HA := Lib.hid (all_one ⟨ns, next⟩ ⟨kind, path, dest, data, mode, time⟩)
  obtain ⟨wa, hwa⟩ : ∃ wa, w.alloc (.cells #[.slice a1 ns.length k1, .int .i64 next] 26) = wa := ⟨_, rfl⟩
  obtain ⟨wb, hwb⟩ : ∃ wb, wa.alloc (.cells #[.int .i64 kind, .string (strOf path), .string (strOf dest), .string (strOf data), .int .i64 mode, .int .i64 time] 28) = wb := ⟨_, rfl⟩
  obtain ⟨wc, hwc⟩ : ∃ wc, wb.alloc (.cells #[.slice none 0 0, .int .i64 0] 26) = wc := ⟨_, rfl⟩
  obtain ⟨wd, hwd⟩ : ∃ wd, wc.alloc (.cells #[.int .i64 kind, .string (strOf path), .string (strOf dest), .string (strOf data), .int .i64 mode, .int .i64 time] 28) = wd := ⟨_, rfl⟩
  have hsa : wa.heap.size = w.heap.size + 1 := by rw [← hwa]; simp
  have hsb : wb.heap.size = w.heap.size + 2 := by rw [← hwb]; simp [hsa]
  have hsc : wc.heap.size = w.heap.size + 3 := by rw [← hwc]; simp [hsb]
  have hsd : wd.heap.size = w.heap.size + 4 := by rw [← hwd]; simp [hsc]
  have ba : Below w.heap.size w wa := by rw [← hwa]; exact (Below.refl _ _).alloc (Nat.le_refl _) _
  have bb : Below wa.heap.size wa wb := by rw [← hwb]; exact (Below.refl _ _).alloc (Nat.le_refl _) _
  have bc : Below wb.heap.size wb wc := by rw [← hwc]; exact (Below.refl _ _).alloc (Nat.le_refl _) _
  have bd : Below wc.heap.size wc wd := by rw [← hwd]; exact (Below.refl _ _).alloc (Nat.le_refl _) _
  have T0 := (show Blk wa w.heap.size #[.slice a1 ns.length k1, .int .i64 next] 26 by rw [← hwa]; exact Blk.new _ _ _)
  have O0 := (show Blk wb (w.heap.size + 1) #[.int .i64 kind, .string (strOf path), .string (strOf dest), .string (strOf data), .int .i64 mode, .int .i64 time] 28 by rw [← hwb, ← hsa]; exact Blk.new _ _ _)
  have R0 := (show Blk wc (w.heap.size + 2) #[.slice none 0 0, .int .i64 0] 26 by rw [← hwc, ← hsb]; exact Blk.new _ _ _)
  have L0 := (show Blk wd (w.heap.size + 3) #[.int .i64 kind, .string (strOf path), .string (strOf dest), .string (strOf data), .int .i64 mode, .int .i64 time] 28 by rw [← hwd, ← hsc]; exact Blk.new _ _ _)
  have HB := Lib.hid (((ba.trans (bb.mono (by omega))).trans (bc.mono (by omega))).trans (bd.mono (by omega)))
  have HRB := Lib.hid (R0.on bd)
  have CD := HC.out wd (w.heap.size + 3) HB.out ⟨w.heap.size + 3, 1, rfl, Nat.le_refl _, by decide, by omega, fun i hi => by
    have : i = 0 := by simpa using hi
    subst this
    exact ⟨L0.cell 0, L0.cell 1, L0.cell 2, L0.cell 3, L0.cell 4, L0.cell 5⟩⟩
  have t0 := ((T0.on bb).on bc).cell 0
  have t1 := ((T0.on bb).on bc).cell 1
  have t2 := (((T0.on bb).on bc).on bd).cell 0
  have t3 := (((T0.on bb).on bc).on bd).cell 1
  have s0 := (O0.on bc).cell 0
  have s1 := (O0.on bc).cell 1
  have s2 := (O0.on bc).cell 2
  have s3 := (O0.on bc).cell 3
  have s4 := (O0.on bc).cell 4
  have s5 := (O0.on bc).cell 5
  simp at t0 t1 t2 t3 s0 s1 s2 s3 s4 s5
  rw [HA.out.1, HA.out.2] at CD
  generalize doOneV ⟨ns, next⟩ ⟨kind, path, dest, data, mode, time⟩ = r at CD ⊢
  generalize (doAllV ⟨ns, next⟩ [⟨kind, path, dest, data, mode, time⟩]).2.1 = nd at CD
  obtain ⟨⟨rns, rnx⟩, code⟩ := r
  clear h T0 O0 R0 L0 ba bb bc bd HA HC
  go_enter Tryz.func17, Tryz.ntmps17
  go_wp2_with (go_at_call 25; refine CD.mono ?_; rintro e W5 ⟨v5, rfl, hR5, hb5⟩; (obtain ⟨a5, k5, rfl⟩ := hR5.shape); (have HR5 := Lib.hid hR5); (have HB5 := Lib.hid hb5); (have c0 := fun ob => ((HRB.out.on hb5).alloc ob).cell 0); (have c1 := fun ob => ((HRB.out.on hb5).alloc ob).cell 1); (have f0 := fun ob => ((HRB.out.on hb5).alloc ob).frozen 0); (have f1 := fun ob => ((HRB.out.on hb5).alloc ob).frozen 1); simp at c0 c1 f0 f1; clear hR5 hb5)
  have hs5 := HB5.out.size
  refine bodyPost_ret (v := .tuple #[.agg #[.slice a5 rns.length k5, .int .i64 rnx], .int .i64 code]) ?_ rfl ⟨.slice a5 rns.length k5, rfl, ?_, ?_⟩
  · simp [results, Tryz.results17, go_sem, c0, c1]
  · refine NRow.base (B := wd.heap.size) ?_ (by omega)
    iterate 2 (refine NRow.other ?_ _ _ (by show w.heap.size + 2 < wd.heap.size; omega))
    exact HR5.out.on ((Below.refl _ _).alloc (Nat.le_refl _) _)
  · iterate 2 (refine Below.setCell ?_ (by simp) _)
    exact (HB.out.trans (HB5.out.mono HB.out.size)).alloc (by omega) _
end Go.Proofs.YtipedabppgbfcaaGreatDoor
