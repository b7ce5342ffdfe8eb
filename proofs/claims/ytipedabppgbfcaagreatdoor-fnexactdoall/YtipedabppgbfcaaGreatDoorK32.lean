/- The contract of impl.opOk: whether an op is one that can be done at all. do over the tree that is worked on. -/
import Derived.Test.YtipedabppgbfcaaGreatDoorK31
import Derived.Test.YtipedabppgbfcaaGreatDoorK15
import Derived.Test.YtipedabppgbfcaaGreatDoorK26
import Derived.Deep.WholeRow
set_option linter.all false
namespace Go.Proofs.YtipedabppgbfcaaGreatDoor
open Go.RowKit

set_option maxRecDepth 100000 in
set_option maxHeartbeats 4000000 in
theorem implOpOk6 (kind mode time : Int) (path dest data : List UInt8) (w : World) (hp : path.length ≤ 2000000) (hd : dest.length ≤ 2000000) :
    Calls Tryz.prog 113 #[.agg #[.int .i64 kind, .string (strOf path), .string (strOf dest), .string (strOf data), .int .i64 mode, .int .i64 time]] w fun e w' => e = .returned (.bool (argsB ⟨kind, path, dest, data, mode, time⟩)) ∧ Below w.heap.size w w' := by
  obtain ⟨W0, hW⟩ : ∃ W, w.alloc (.cells #[.int .i64 kind, .string (strOf path), .string (strOf dest), .string (strOf data), .int .i64 mode, .int .i64 time] 28) = W := ⟨_, rfl⟩
  have B0 := Lib.hid (show Blk W0 w.heap.size #[.int .i64 kind, .string (strOf path), .string (strOf dest), .string (strOf data), .int .i64 mode, .int .i64 time] 28 by rw [← hW]; exact Blk.new _ _ _)
  have HB0 := Lib.hid (show Below w.heap.size w W0 by rw [← hW]; exact (Below.refl _ _).alloc (Nat.le_refl _) _)
  have CP := fun W => implPathOk (strOf path) W (by rw [strOf_size]; exact hp)
  have CD := fun W => implPathOk (strOf dest) W (by rw [strOf_size]; exact hd)
  have CU := fun W => implUnder (strOf dest) (strOf path) W (by rw [strOf_size]; exact hd) (by rw [strOf_size]; exact hp)
  have CM := fun W => implIsMode mode W
  have CT := fun W => implTimeN time W
  simp only [strOf_data] at CP CD CU
  have HIN := Lib.hid (args_in ⟨kind, path, dest, data, mode, time⟩)
  have HOUT := Lib.hid (args_out ⟨kind, path, dest, data, mode, time⟩)
  have hne : (((strOf dest).toList != (strOf path).toList) = !decide (dest = path)) ∧ (((strOf dest).toList == (strOf path).toList) = decide (dest = path)) := by
    by_cases e : dest = path
    · simp [bne, str_t e, e]
    · simp [bne, str_f e, e]
  generalize inB mode 0 511 = m at CM HIN
  generalize timeOk time = t at CT HIN
  generalize decide (0 < depthV path) = pb at CP HIN
  generalize decide (0 < depthV dest) = q at CD HIN
  generalize underV dest path = un at CU HIN
  generalize decide (dest = path) = ne at hne HIN
  have HCP := Lib.hid CP
  have HCD := Lib.hid CD
  have HCU := Lib.hid CU
  have HCM := Lib.hid CM
  have HCT := Lib.hid CT
  have HNE := Lib.hid hne
  clear CP CD CU CM CT hne
  by_cases e0 : kind = 0
  · subst e0
    have HV := Lib.hid (HIN.out ⟨show (0 : Int) ≤ 0 by decide, show (0 : Int) ≤ 8 by decide⟩)
    clear HIN HOUT
    have c0 := B0.out.cell 0
    have c1 := B0.out.cell 1
    have c2 := B0.out.cell 2
    have c4 := B0.out.cell 4
    have c5 := B0.out.cell 5
    simp at c0 c1 c2 c4 c5
    go_enter Tryz.func113, Tryz.ntmps113
    go_wp2_with fail
    refine (HCP.out _).mono ?_
    rintro e W1 ⟨rfl, hb⟩
    have B1 := Lib.hid (B0.out.on hb)
    have HB1 := Lib.hid (HB0.out.trans (hb.mono HB0.out.size))
    clear hb c0 c1 c2 c4 c5
    have c0 := B1.out.cell 0
    have c1 := B1.out.cell 1
    have c2 := B1.out.cell 2
    have c4 := B1.out.cell 4
    have c5 := B1.out.cell 5
    simp at c0 c1 c2 c4 c5
    cases pb
    ·
      go_wp2
      go_ret
      exact ⟨ret_bool (by rw [HV.out]; rfl), HB1.out⟩
    ·
      go_wp2_with fail
      refine (HCM.out _).mono ?_
      rintro e W ⟨rfl, rfl⟩
      cases m
      ·
        go_wp2
        go_ret
        exact ⟨ret_bool (by rw [HV.out]; rfl), HB1.out⟩
      ·
        go_wp2_with fail
        refine (HCT.out _).mono ?_
        rintro e W ⟨rfl, rfl⟩
        cases t
        ·
          go_wp2
          go_ret
          exact ⟨ret_bool (by rw [HV.out]; rfl), HB1.out⟩
        ·
          go_wp2
          go_ret
          exact ⟨ret_bool (by rw [HV.out]; rfl), HB1.out⟩
  by_cases e1 : kind = 1
  · subst e1
    have HV := Lib.hid (HIN.out ⟨show (0 : Int) ≤ 1 by decide, show (1 : Int) ≤ 8 by decide⟩)
    clear HIN HOUT
    have c0 := B0.out.cell 0
    have c1 := B0.out.cell 1
    have c2 := B0.out.cell 2
    have c4 := B0.out.cell 4
    have c5 := B0.out.cell 5
    simp at c0 c1 c2 c4 c5
    go_enter Tryz.func113, Tryz.ntmps113
    go_wp2_with fail
    refine (HCP.out _).mono ?_
    rintro e W1 ⟨rfl, hb⟩
    have B1 := Lib.hid (B0.out.on hb)
    have HB1 := Lib.hid (HB0.out.trans (hb.mono HB0.out.size))
    clear hb c0 c1 c2 c4 c5
    have c0 := B1.out.cell 0
    have c1 := B1.out.cell 1
    have c2 := B1.out.cell 2
    have c4 := B1.out.cell 4
    have c5 := B1.out.cell 5
    simp at c0 c1 c2 c4 c5
    cases pb
    ·
      go_wp2
      go_ret
      exact ⟨ret_bool (by rw [HV.out]; rfl), HB1.out⟩
    ·
      go_wp2_with fail
      refine (HCM.out _).mono ?_
      rintro e W ⟨rfl, rfl⟩
      cases m
      ·
        go_wp2
        go_ret
        exact ⟨ret_bool (by rw [HV.out]; rfl), HB1.out⟩
      ·
        go_wp2_with fail
        refine (HCT.out _).mono ?_
        rintro e W ⟨rfl, rfl⟩
        cases t
        ·
          go_wp2
          go_ret
          exact ⟨ret_bool (by rw [HV.out]; rfl), HB1.out⟩
        ·
          go_wp2
          go_ret
          exact ⟨ret_bool (by rw [HV.out]; rfl), HB1.out⟩
  by_cases e2 : kind = 2
  · subst e2
    have HV := Lib.hid (HIN.out ⟨show (0 : Int) ≤ 2 by decide, show (2 : Int) ≤ 8 by decide⟩)
    clear HIN HOUT
    have c0 := B0.out.cell 0
    have c1 := B0.out.cell 1
    have c2 := B0.out.cell 2
    have c4 := B0.out.cell 4
    have c5 := B0.out.cell 5
    simp at c0 c1 c2 c4 c5
    go_enter Tryz.func113, Tryz.ntmps113
    go_wp2_with fail
    refine (HCP.out _).mono ?_
    rintro e W1 ⟨rfl, hb⟩
    have B1 := Lib.hid (B0.out.on hb)
    have HB1 := Lib.hid (HB0.out.trans (hb.mono HB0.out.size))
    clear hb c0 c1 c2 c4 c5
    have c0 := B1.out.cell 0
    have c1 := B1.out.cell 1
    have c2 := B1.out.cell 2
    have c4 := B1.out.cell 4
    have c5 := B1.out.cell 5
    simp at c0 c1 c2 c4 c5
    cases pb
    ·
      go_wp2
      go_ret
      exact ⟨ret_bool (by rw [HV.out]; rfl), HB1.out⟩
    ·
      go_wp2_with fail
      refine (HCT.out _).mono ?_
      rintro e W ⟨rfl, rfl⟩
      cases t
      ·
        go_wp2
        go_ret
        exact ⟨ret_bool (by rw [HV.out]; rfl), HB1.out⟩
      ·
        go_wp2
        go_ret
        exact ⟨ret_bool (by rw [HV.out]; rfl), HB1.out⟩
  by_cases e3 : kind = 3
  · subst e3
    have HV := Lib.hid (HIN.out ⟨show (0 : Int) ≤ 3 by decide, show (3 : Int) ≤ 8 by decide⟩)
    clear HIN HOUT
    have c0 := B0.out.cell 0
    have c1 := B0.out.cell 1
    have c2 := B0.out.cell 2
    have c4 := B0.out.cell 4
    have c5 := B0.out.cell 5
    simp at c0 c1 c2 c4 c5
    go_enter Tryz.func113, Tryz.ntmps113
    go_wp2_with fail
    refine (HCP.out _).mono ?_
    rintro e W1 ⟨rfl, hb⟩
    have B1 := Lib.hid (B0.out.on hb)
    have HB1 := Lib.hid (HB0.out.trans (hb.mono HB0.out.size))
    clear hb c0 c1 c2 c4 c5
    have c0 := B1.out.cell 0
    have c1 := B1.out.cell 1
    have c2 := B1.out.cell 2
    have c4 := B1.out.cell 4
    have c5 := B1.out.cell 5
    simp at c0 c1 c2 c4 c5
    cases pb
    ·
      go_wp2
      go_ret
      exact ⟨ret_bool (by rw [HV.out]; rfl), HB1.out⟩
    ·
      go_wp2_with fail
      refine (HCT.out _).mono ?_
      rintro e W ⟨rfl, rfl⟩
      cases t
      ·
        go_wp2
        go_ret
        exact ⟨ret_bool (by rw [HV.out]; rfl), HB1.out⟩
      ·
        go_wp2
        go_ret
        exact ⟨ret_bool (by rw [HV.out]; rfl), HB1.out⟩
  by_cases e4 : kind = 4
  · subst e4
    have HV := Lib.hid (HIN.out ⟨show (0 : Int) ≤ 4 by decide, show (4 : Int) ≤ 8 by decide⟩)
    clear HIN HOUT
    have c0 := B0.out.cell 0
    have c1 := B0.out.cell 1
    have c2 := B0.out.cell 2
    have c4 := B0.out.cell 4
    have c5 := B0.out.cell 5
    simp at c0 c1 c2 c4 c5
    go_enter Tryz.func113, Tryz.ntmps113
    go_wp2_with fail
    refine (HCP.out _).mono ?_
    rintro e W1 ⟨rfl, hb⟩
    have B1 := Lib.hid (B0.out.on hb)
    have HB1 := Lib.hid (HB0.out.trans (hb.mono HB0.out.size))
    clear hb c0 c1 c2 c4 c5
    have c0 := B1.out.cell 0
    have c1 := B1.out.cell 1
    have c2 := B1.out.cell 2
    have c4 := B1.out.cell 4
    have c5 := B1.out.cell 5
    simp at c0 c1 c2 c4 c5
    cases pb
    ·
      go_wp2
      go_ret
      exact ⟨ret_bool (by rw [HV.out]; rfl), HB1.out⟩
    ·
      go_wp2_with fail
      refine (HCD.out _).mono ?_
      rintro e W2 ⟨rfl, hb⟩
      have B2 := Lib.hid (B1.out.on hb)
      have HB2 := Lib.hid (HB1.out.trans (hb.mono HB1.out.size))
      clear hb c0 c1 c2 c4 c5
      have c0 := B2.out.cell 0
      have c1 := B2.out.cell 1
      have c2 := B2.out.cell 2
      have c4 := B2.out.cell 4
      have c5 := B2.out.cell 5
      simp at c0 c1 c2 c4 c5
      cases q
      ·
        go_wp2
        go_ret
        exact ⟨ret_bool (by rw [HV.out]; rfl), HB2.out⟩
      ·
        cases ne
        ·
          have hn1 : ((strOf dest).toList != (strOf path).toList) = true := HNE.out.1
          have hn2 : ((strOf dest).toList == (strOf path).toList) = false := HNE.out.2
          go_wp2_with fail
          refine (HCU.out _).mono ?_
          rintro e W3 ⟨rfl, hb⟩
          have B3 := Lib.hid (B2.out.on hb)
          have HB3 := Lib.hid (HB2.out.trans (hb.mono HB2.out.size))
          clear hb c0 c1 c2 c4 c5
          have c0 := B3.out.cell 0
          have c1 := B3.out.cell 1
          have c2 := B3.out.cell 2
          have c4 := B3.out.cell 4
          have c5 := B3.out.cell 5
          simp at c0 c1 c2 c4 c5
          cases un
          ·
            go_wp2
            go_ret
            exact ⟨ret_bool (by rw [HV.out]; rfl), HB3.out⟩
          ·
            go_wp2
            go_ret
            exact ⟨ret_bool (by rw [HV.out]; rfl), HB3.out⟩
        ·
          have hn1 : ((strOf dest).toList != (strOf path).toList) = false := HNE.out.1
          have hn2 : ((strOf dest).toList == (strOf path).toList) = true := HNE.out.2
          go_wp2
          go_ret
          exact ⟨ret_bool (by rw [HV.out]; rfl), HB2.out⟩
  by_cases e5 : kind = 5
  · subst e5
    have HV := Lib.hid (HIN.out ⟨show (0 : Int) ≤ 5 by decide, show (5 : Int) ≤ 8 by decide⟩)
    clear HIN HOUT
    have c0 := B0.out.cell 0
    have c1 := B0.out.cell 1
    have c2 := B0.out.cell 2
    have c4 := B0.out.cell 4
    have c5 := B0.out.cell 5
    simp at c0 c1 c2 c4 c5
    go_enter Tryz.func113, Tryz.ntmps113
    go_wp2_with fail
    refine (HCP.out _).mono ?_
    rintro e W1 ⟨rfl, hb⟩
    have B1 := Lib.hid (B0.out.on hb)
    have HB1 := Lib.hid (HB0.out.trans (hb.mono HB0.out.size))
    clear hb c0 c1 c2 c4 c5
    have c0 := B1.out.cell 0
    have c1 := B1.out.cell 1
    have c2 := B1.out.cell 2
    have c4 := B1.out.cell 4
    have c5 := B1.out.cell 5
    simp at c0 c1 c2 c4 c5
    cases pb
    ·
      go_wp2
      go_ret
      exact ⟨ret_bool (by rw [HV.out]; rfl), HB1.out⟩
    ·
      go_wp2
      go_ret
      exact ⟨ret_bool (by rw [HV.out]; rfl), HB1.out⟩
  by_cases e6 : kind = 6
  · subst e6
    have HV := Lib.hid (HIN.out ⟨show (0 : Int) ≤ 6 by decide, show (6 : Int) ≤ 8 by decide⟩)
    clear HIN HOUT
    have c0 := B0.out.cell 0
    have c1 := B0.out.cell 1
    have c2 := B0.out.cell 2
    have c4 := B0.out.cell 4
    have c5 := B0.out.cell 5
    simp at c0 c1 c2 c4 c5
    go_enter Tryz.func113, Tryz.ntmps113
    go_wp2_with fail
    refine (HCP.out _).mono ?_
    rintro e W1 ⟨rfl, hb⟩
    have B1 := Lib.hid (B0.out.on hb)
    have HB1 := Lib.hid (HB0.out.trans (hb.mono HB0.out.size))
    clear hb c0 c1 c2 c4 c5
    have c0 := B1.out.cell 0
    have c1 := B1.out.cell 1
    have c2 := B1.out.cell 2
    have c4 := B1.out.cell 4
    have c5 := B1.out.cell 5
    simp at c0 c1 c2 c4 c5
    cases pb
    ·
      go_wp2
      go_ret
      exact ⟨ret_bool (by rw [HV.out]; rfl), HB1.out⟩
    ·
      go_wp2_with fail
      refine (HCM.out _).mono ?_
      rintro e W ⟨rfl, rfl⟩
      cases m
      ·
        go_wp2
        go_ret
        exact ⟨ret_bool (by rw [HV.out]; rfl), HB1.out⟩
      ·
        go_wp2
        go_ret
        exact ⟨ret_bool (by rw [HV.out]; rfl), HB1.out⟩
  by_cases e7 : kind = 7
  · subst e7
    have HV := Lib.hid (HIN.out ⟨show (0 : Int) ≤ 7 by decide, show (7 : Int) ≤ 8 by decide⟩)
    clear HIN HOUT
    have c0 := B0.out.cell 0
    have c1 := B0.out.cell 1
    have c2 := B0.out.cell 2
    have c4 := B0.out.cell 4
    have c5 := B0.out.cell 5
    simp at c0 c1 c2 c4 c5
    go_enter Tryz.func113, Tryz.ntmps113
    go_wp2_with fail
    refine (HCP.out _).mono ?_
    rintro e W1 ⟨rfl, hb⟩
    have B1 := Lib.hid (B0.out.on hb)
    have HB1 := Lib.hid (HB0.out.trans (hb.mono HB0.out.size))
    clear hb c0 c1 c2 c4 c5
    have c0 := B1.out.cell 0
    have c1 := B1.out.cell 1
    have c2 := B1.out.cell 2
    have c4 := B1.out.cell 4
    have c5 := B1.out.cell 5
    simp at c0 c1 c2 c4 c5
    cases pb
    ·
      go_wp2
      go_ret
      exact ⟨ret_bool (by rw [HV.out]; rfl), HB1.out⟩
    ·
      go_wp2_with fail
      refine (HCT.out _).mono ?_
      rintro e W ⟨rfl, rfl⟩
      cases t
      ·
        go_wp2
        go_ret
        exact ⟨ret_bool (by rw [HV.out]; rfl), HB1.out⟩
      ·
        go_wp2
        go_ret
        exact ⟨ret_bool (by rw [HV.out]; rfl), HB1.out⟩
  have b0 : (kind == 0) = false := by simpa using e0
  have b1 : (kind == 1) = false := by simpa using e1
  have b2 : (kind == 2) = false := by simpa using e2
  have b3 : (kind == 3) = false := by simpa using e3
  have b4 : (kind == 4) = false := by simpa using e4
  have b5 : (kind == 5) = false := by simpa using e5
  have b6 : (kind == 6) = false := by simpa using e6
  have b7 : (kind == 7) = false := by simpa using e7
  have HV := Lib.hid (show argsB ⟨kind, path, dest, data, mode, time⟩ = (kind == 8) by
    by_cases h : 0 ≤ kind ∧ kind ≤ 8
    · have h8 : kind = 8 := by omega
      rw [HIN.out h]; subst h8; rfl
    · rw [HOUT.out h]
      have : ¬ kind = 8 := by omega
      simp [this])
  clear HIN HOUT
  have c0 := B0.out.cell 0
  have c1 := B0.out.cell 1
  have c2 := B0.out.cell 2
  have c4 := B0.out.cell 4
  have c5 := B0.out.cell 5
  simp at c0 c1 c2 c4 c5
  go_enter Tryz.func113, Tryz.ntmps113
  go_wp2
  go_ret
  exact ⟨ret_bool (by rw [HV.out]), HB0.out⟩
theorem implOpOk (o : Ov) (w : World) (hp : o.path.length ≤ 2000000) (hd : o.dest.length ≤ 2000000) :
    Calls Tryz.prog 113 #[.agg #[.int .i64 o.kind, .string (strOf o.path), .string (strOf o.dest), .string (strOf o.data), .int .i64 o.mode, .int .i64 o.time]] w fun e w' => e = .returned (.bool (argsB o)) ∧ Below w.heap.size w w' := implOpOk6 o.kind o.mode o.time o.path o.dest o.data w hp hd
end Go.Proofs.YtipedabppgbfcaaGreatDoor
namespace Go.Proofs.YtipedabppgbfcaaGreatDoor
open Go.RowKit
variable {R : World}

/-! The kinds, one after the other. -/
theorem wdo_bad {t : Tv} {o : Ov} (h : argsB o = false) : doV t o = (t, 1) := by unfold doV; rw [h]; rfl
theorem wdo_sync {t : Tv} {o : Ov} (h : argsB o = true) (hk : o.kind = 8) : doV t o = (t, 0) := by unfold doV; rw [if_pos h, if_pos hk]
theorem wdo_new {t : Tv} {o : Ov} (h : argsB o = true) (hk : o.kind = 0 ∨ o.kind = 1) : doV t o = insT t (newNd t o) := by unfold doV; rw [if_pos h, if_neg (by omega), if_pos hk, new_ins]
theorem wdo_move {t : Tv} {o : Ov} (h : argsB o = true) (hk : o.kind = 4) : doV t o = moveT t o := by
  unfold doV moveT
  rw [if_pos h, if_neg (show ¬ o.kind = 8 by omega), if_neg (show ¬ (o.kind = 0 ∨ o.kind = 1) by omega)]
  simp only [hk, if_true]
theorem wdo_drop {t : Tv} {o : Ov} (h : argsB o = true) (hk : o.kind = 5) : doV t o = dropV t o := by
  unfold doV dropV
  rw [if_pos h, if_neg (show ¬ o.kind = 8 by omega), if_neg (show ¬ (o.kind = 0 ∨ o.kind = 1) by omega), if_neg (show ¬ o.kind = 4 by omega), if_pos hk]
theorem wdo_at {t : Tv} {o : Ov} (h : argsB o = true) (hk : o.kind = 2 ∨ o.kind = 3 ∨ o.kind = 6 ∨ o.kind = 7) : doV t o = atV t o := by
  unfold doV atV
  rw [if_pos h, if_neg (show ¬ o.kind = 8 by omega), if_neg (show ¬ (o.kind = 0 ∨ o.kind = 1) by omega), if_neg (show ¬ o.kind = 4 by omega), if_neg (show ¬ o.kind = 5 by omega)]
theorem wkSync (o : Ov) (w : World) (B p : Nat) (v : Value) (ps : List (Nat × Nd)) (next : Int) (h : Work R w B p v ps next) :
    Calls Tryz.prog 122 #[.pointer (some ⟨p, 0, none⟩), .agg #[.int .i64 o.kind, .string (strOf o.path), .string (strOf o.dest), .string (strOf o.data), .int .i64 o.mode, .int .i64 o.time]] w fun e w' => WkRes R B p w (⟨nds ps, next⟩, 0) e w' := by
  go_enter Tryz.func122, Tryz.ntmps122
  go_wp2
  go_ret
  have hlo := h.plt
  exact WkRes.mk rfl (h.on ((Below.refl _ _).alloc (Nat.le_refl _) _)) rfl ((Below.refl _ _).alloc (by omega) _)

set_option maxRecDepth 100000 in
set_option maxHeartbeats 2000000 in
theorem wkDo6 (kind mode time : Int) (path dest data : List UInt8) (w : World) (B p : Nat) (v : Value) (ps : List (Nat × Nd)) (next : Int) (h : Work R w B p v ps next) (hR : Right (nds ps) next) (hp : path.length ≤ 2000000) (hd : dest.length ≤ 2000000) (hda : data.length ≤ 2000000) :
    Calls Tryz.prog 74 #[.pointer (some ⟨p, 0, none⟩), .agg #[.int .i64 kind, .string (strOf path), .string (strOf dest), .string (strOf data), .int .i64 mode, .int .i64 time]] w fun e w' => WkRes R B p w (doV ⟨nds ps, next⟩ ⟨kind, path, dest, data, mode, time⟩) e w' := by
  have CO := fun W => implOpOk ⟨kind, path, dest, data, mode, time⟩ W hp hd
  have HR := Lib.hid hR
  obtain ⟨wa, hwa⟩ : ∃ wa, w.alloc (.cells #[.int .i64 kind, .string (strOf path), .string (strOf dest), .string (strOf data), .int .i64 mode, .int .i64 time] 28) = wa := ⟨_, rfl⟩
  have ba : Below w.heap.size w wa := by rw [← hwa]; exact (Below.refl _ _).alloc (Nat.le_refl _) _
  have O0 := (show Blk wa w.heap.size #[.int .i64 kind, .string (strOf path), .string (strOf dest), .string (strOf data), .int .i64 mode, .int .i64 time] 28 by rw [← hwa]; exact Blk.new _ _ _)
  have hlo := h.plt
  have HO := Lib.hid O0
  have HW := Lib.hid (h.on ba)
  have HBA := Lib.hid (ba.mono (by omega : B ≤ w.heap.size))
  have s0 := O0.cell 0
  have s1 := O0.cell 1
  have s2 := O0.cell 2
  have s3 := O0.cell 3
  have s4 := O0.cell 4
  have s5 := O0.cell 5
  simp at s0 s1 s2 s3 s4 s5
  clear h hR O0 ba
  cases ha : argsB ⟨kind, path, dest, data, mode, time⟩ with
  | false =>
    have HE := Lib.hid (wdo_bad (t := ⟨nds ps, next⟩) ha)
    rw [ha] at CO
    clear ha
    go_enter Tryz.func74, Tryz.ntmps74
    go_wp2_with (go_at_call 113; refine (CO _).mono ?_; rintro e W1 ⟨rfl, hb1⟩)
    go_ret
    exact WkRes.mk HE.out (HW.out.on hb1) rfl (HBA.out.trans (hb1.mono (by have := HW.out.plt; omega)))
  | true =>
    have hA := Args.of ha
    have hk := hA.kind
    have HP := Lib.hid hA.path
    rw [ha] at CO
    simp only at hk
    have CS : ∃ r, doV ⟨nds ps, next⟩ ⟨kind, path, dest, data, mode, time⟩ = r ∧ Hid (∀ W, Work R W B p v ps next → ((kind = 0 → Calls Tryz.prog 114 #[.pointer (some ⟨p, 0, none⟩), .agg #[.int .i64 kind, .string (strOf path), .string (strOf dest), .string (strOf data), .int .i64 mode, .int .i64 time]] W fun e w' => WkRes R B p W r e w') ∧ (kind = 1 → Calls Tryz.prog 115 #[.pointer (some ⟨p, 0, none⟩), .agg #[.int .i64 kind, .string (strOf path), .string (strOf dest), .string (strOf data), .int .i64 mode, .int .i64 time]] W fun e w' => WkRes R B p W r e w') ∧ (kind = 2 → Calls Tryz.prog 116 #[.pointer (some ⟨p, 0, none⟩), .agg #[.int .i64 kind, .string (strOf path), .string (strOf dest), .string (strOf data), .int .i64 mode, .int .i64 time]] W fun e w' => WkRes R B p W r e w') ∧ (kind = 3 → Calls Tryz.prog 117 #[.pointer (some ⟨p, 0, none⟩), .agg #[.int .i64 kind, .string (strOf path), .string (strOf dest), .string (strOf data), .int .i64 mode, .int .i64 time]] W fun e w' => WkRes R B p W r e w') ∧ (kind = 4 → Calls Tryz.prog 118 #[.pointer (some ⟨p, 0, none⟩), .agg #[.int .i64 kind, .string (strOf path), .string (strOf dest), .string (strOf data), .int .i64 mode, .int .i64 time]] W fun e w' => WkRes R B p W r e w') ∧ (kind = 5 → Calls Tryz.prog 119 #[.pointer (some ⟨p, 0, none⟩), .agg #[.int .i64 kind, .string (strOf path), .string (strOf dest), .string (strOf data), .int .i64 mode, .int .i64 time]] W fun e w' => WkRes R B p W r e w') ∧ (kind = 6 → Calls Tryz.prog 120 #[.pointer (some ⟨p, 0, none⟩), .agg #[.int .i64 kind, .string (strOf path), .string (strOf dest), .string (strOf data), .int .i64 mode, .int .i64 time]] W fun e w' => WkRes R B p W r e w') ∧ (kind = 7 → Calls Tryz.prog 121 #[.pointer (some ⟨p, 0, none⟩), .agg #[.int .i64 kind, .string (strOf path), .string (strOf dest), .string (strOf data), .int .i64 mode, .int .i64 time]] W fun e w' => WkRes R B p W r e w') ∧ (kind = 8 → Calls Tryz.prog 122 #[.pointer (some ⟨p, 0, none⟩), .agg #[.int .i64 kind, .string (strOf path), .string (strOf dest), .string (strOf data), .int .i64 mode, .int .i64 time]] W fun e w' => WkRes R B p W r e w'))) := by
      refine ⟨_, rfl, Lib.hid fun W hw => ⟨fun e => ?_, fun e => ?_, fun e => ?_, fun e => ?_, fun e => ?_, fun e => ?_, fun e => ?_, fun e => ?_, fun e => ?_⟩⟩
      · rw [wdo_new ha (.inl e)]
        subst e
        exact wkMakeD ⟨0, path, dest, data, mode, time⟩ W B p v ps next hw HR.out (HP.out (by show (0 : Int) ≠ 8; decide))
      · rw [wdo_new ha (.inr e)]
        subst e
        exact wkMakeF ⟨1, path, dest, data, mode, time⟩ W B p v ps next hw HR.out (HP.out (by show (1 : Int) ≠ 8; decide))
      · rw [wdo_at ha (.inl e)]
        exact wkAdd ⟨kind, path, dest, data, mode, time⟩ W B p v ps next hw HR.out e hda
      · rw [wdo_at ha (.inr (.inl e))]
        exact wkCut ⟨kind, path, dest, data, mode, time⟩ W B p v ps next hw HR.out e
      · rw [wdo_move ha e]
        exact wkMove ⟨kind, path, dest, data, mode, time⟩ W B p v ps next hw HR.out ha e
      · rw [wdo_drop ha e]
        exact wkDrop ⟨kind, path, dest, data, mode, time⟩ W B p v ps next hw HR.out (HP.out (by show kind ≠ 8; omega))
      · rw [wdo_at ha (.inr (.inr (.inl e)))]
        exact wkSetMode ⟨kind, path, dest, data, mode, time⟩ W B p v ps next hw HR.out e
      · rw [wdo_at ha (.inr (.inr (.inr e)))]
        exact wkSetTime ⟨kind, path, dest, data, mode, time⟩ W B p v ps next hw HR.out e
      · rw [wdo_sync ha e]
        exact wkSync ⟨kind, path, dest, data, mode, time⟩ W B p v ps next hw
    obtain ⟨r, hr, CS⟩ := CS
    rw [hr]
    clear hr ha hA HP hp hd hda
    have hcase : kind = 0 ∨ kind = 1 ∨ kind = 2 ∨ kind = 3 ∨ kind = 4 ∨ kind = 5 ∨ kind = 6 ∨ kind = 7 ∨ kind = 8 := by omega
    have SF : ∀ (a : Addr) (fn : Fn) (W : World), (store a (.func fn #[] #[])).run Tryz.prog W = stored Tryz.prog W a (.func fn #[] #[]) .plain := fun a fn W => run_store _ _ _ _ _ rfl
    rcases hcase with rfl | rfl | rfl | rfl | rfl | rfl | rfl | rfl | rfl
    all_goals
      go_enter Tryz.func74, Tryz.ntmps74
      go_wp2_with (go_at_call 113; refine (CO _).mono ?_; rintro e W1 ⟨rfl, hb1⟩; (have HW1 := Lib.hid (HW.out.on hb1)); (have HO1 := Lib.hid (HO.out.on hb1)); (have HB1 := Lib.hid (HBA.out.trans (hb1.mono (by have := HW.out.plt; omega)))); clear hb1 CO s0 s1 s2 s3 s4 s5; (have s0 := fun ob => (HO1.out.alloc ob).cell 0); (have s1 := fun ob => (HO1.out.alloc ob).cell 1); (have s2 := fun ob => (HO1.out.alloc ob).cell 2); (have s3 := fun ob => (HO1.out.alloc ob).cell 3); (have s4 := fun ob => (HO1.out.alloc ob).cell 4); (have s5 := fun ob => (HO1.out.alloc ob).cell 5); simp at s0 s1 s2 s3 s4 s5)
      have CK := Lib.hid (fun ob => CS.out _ (HW1.out.on (((Below.refl W1.heap.size W1).alloc (Nat.le_refl _) ob).drew)))
      go_region_with (first
        | (go_at_call 114; refine ((CK.out _).1 (by first | rfl | trivial)).mono ?_; rintro e W5 ⟨rfl, v5, ps5, hW5, hn5, hb5⟩)
        | (go_at_call 115; refine ((CK.out _).2.1 (by first | rfl | trivial)).mono ?_; rintro e W5 ⟨rfl, v5, ps5, hW5, hn5, hb5⟩)
        | (go_at_call 116; refine ((CK.out _).2.2.1 (by first | rfl | trivial)).mono ?_; rintro e W5 ⟨rfl, v5, ps5, hW5, hn5, hb5⟩)
        | (go_at_call 117; refine ((CK.out _).2.2.2.1 (by first | rfl | trivial)).mono ?_; rintro e W5 ⟨rfl, v5, ps5, hW5, hn5, hb5⟩)
        | (go_at_call 118; refine ((CK.out _).2.2.2.2.1 (by first | rfl | trivial)).mono ?_; rintro e W5 ⟨rfl, v5, ps5, hW5, hn5, hb5⟩)
        | (go_at_call 119; refine ((CK.out _).2.2.2.2.2.1 (by first | rfl | trivial)).mono ?_; rintro e W5 ⟨rfl, v5, ps5, hW5, hn5, hb5⟩)
        | (go_at_call 120; refine ((CK.out _).2.2.2.2.2.2.1 (by first | rfl | trivial)).mono ?_; rintro e W5 ⟨rfl, v5, ps5, hW5, hn5, hb5⟩)
        | (go_at_call 121; refine ((CK.out _).2.2.2.2.2.2.2.1 (by first | rfl | trivial)).mono ?_; rintro e W5 ⟨rfl, v5, ps5, hW5, hn5, hb5⟩)
        | (go_at_call 122; refine ((CK.out _).2.2.2.2.2.2.2.2 (by first | rfl | trivial)).mono ?_; rintro e W5 ⟨rfl, v5, ps5, hW5, hn5, hb5⟩))
      all_goals
        have HB5 := Lib.hid ((HB1.out.trans (((Below.refl _ _).alloc (Nat.le_refl _) _).drew.mono (by have := HW1.out.plt; omega))).trans hb5)
        have HR5 := Lib.hid (And.intro hW5 hn5)
        clear hW5 hn5 hb5
        go_wp2
        go_ret
        exact ⟨rfl, v5, ps5, HR5.out.1, HR5.out.2, HB5.out⟩
end Go.Proofs.YtipedabppgbfcaaGreatDoor
