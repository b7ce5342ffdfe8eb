/- Contracts of spec.l07Node and impl.nodeOk: whether a node is right by itself. Contracts of impl.pathOf, firstNames, Join, DirOf, BaseOf, Under, and of spec's. -/
import Derived.Test.YtipedabppgbfcaaGreatDoorK9
import Derived.Test.YtipedabppgbfcaaGreatDoorK11
import Derived.Test.YtipedabppgbfcaaGreatDoorK13
set_option linter.all false
namespace Go.Proofs.YtipedabppgbfcaaGreatDoor
open Go.RowKit

theorem nodata_t {l : List UInt8} (h : l = []) : (strOf l).toList.isEmpty = true := by rw [Lib.toList_data, strOf_data, h]; rfl
theorem nodata_f {l : List UInt8} (h : l ≠ []) : (strOf l).toList.isEmpty = false := by rw [Lib.toList_data, strOf_data]; cases l with | nil => exact absurd rfl h | cons => rfl
/-- The same in another order, without the number of the next one. -/
def nodeI (n : Nd) : Bool := (!n.dir || n.data.isEmpty) && (decide (n.data.length ≤ 3000) && (decide (0 < depthV n.path) && (inB n.mode 0 511 && (timeOk n.time && decide (1 ≤ n.id)))))
theorem node_split (n : Nd) (next : Int) : nodeB n next = (nodeI n && decide (n.id < next)) := by
  unfold nodeB nodeI
  have h : inB n.id 1 (next - 1) = (decide (1 ≤ n.id) && decide (n.id < next)) := by
    unfold inB
    congr 1
    exact decide_eq_decide.2 (by omega)
  rw [h]
  generalize decide (0 < depthV n.path) = b1
  generalize inB n.mode 0 511 = b2
  generalize timeOk n.time = b3
  generalize decide (1 ≤ n.id) = b4
  generalize decide (n.id < next) = b5
  generalize decide (n.data.length ≤ 3000) = b6
  generalize (!n.dir || n.data.isEmpty) = b7
  cases b1 <;> cases b2 <;> cases b3 <;> cases b4 <;> cases b5 <;> cases b6 <;> cases b7 <;> rfl

theorem specTimeN (t : Int) (w : World) :
    Calls Tryz.prog 104 #[.int .i64 t] w fun e w' => e = .returned (.bool (timeOk t)) ∧ w = w' := by
  unfold timeOk
  go_enter Tryz.func104, Tryz.ntmps104
  go_wp2_with (first | (go_at_call 61; refine (specIn _ _ _ _).mono ?_; rintro e w' ⟨rfl, rfl⟩))
  go_ret
  exact ⟨rfl, rfl⟩
set_option maxRecDepth 100000 in
set_option maxHeartbeats 4000000 in
theorem specNode6 (path data : List UInt8) (dir : Bool) (mode time id next : Int) (w : World) (hn1 : 1 ≤ next) (hn2 : next ≤ 1000000) (hp : path.length ≤ 2000000) (hd : data.length ≤ 2000000) :
    Calls Tryz.prog 62 #[.agg #[.string (strOf path), .bool dir, .int .i64 mode, .int .i64 time, .int .i64 id, .string (strOf data)], .int .i64 next] w fun e w' => e = .returned (.bool (nodeB ⟨path, dir, mode, time, id, data⟩ next)) ∧ Below w.heap.size w w' := by
  have hb0 : Below w.heap.size w (w.alloc (.cells #[.string (strOf path), .bool dir, .int .i64 mode, .int .i64 time, .int .i64 id, .string (strOf data)] 37)) := (Below.refl _ _).alloc (Nat.le_refl _) _
  have CP := specPathOk (strOf path) (w.alloc (.cells #[.string (strOf path), .bool dir, .int .i64 mode, .int .i64 time, .int .i64 id, .string (strOf data)] 37)) (by rw [strOf_size]; unfold maxLen; omega)
  rw [strOf_data] at CP
  have C2 := fun W => specIn mode 0 511 W
  have C3 := fun W => specTimeN time W
  have C4 := fun W => specIn id 1 (next - 1) W
  have BK := Lib.hid (Blk.new w #[.string (strOf path), .bool dir, .int .i64 mode, .int .i64 time, .int .i64 id, .string (strOf data)] 37)
  have HB0 := Lib.hid hb0
  have hds := strOf_size data
  have HV := Lib.hid (show nodeB ⟨path, dir, mode, time, id, data⟩ next = (decide (0 < depthV path) && (inB mode 0 511 && (timeOk time && (inB id 1 (next - 1) && (decide (data.length ≤ 3000) && (!dir || data.isEmpty)))))) from rfl)
  generalize decide (0 < depthV path) = b1 at CP HV
  generalize inB mode 0 511 = b2 at C2 HV
  generalize timeOk time = b3 at C3 HV
  generalize inB id 1 (next - 1) = b4 at C4 HV
  have H1 := Lib.hid CP
  have H2 := Lib.hid C2
  have H3 := Lib.hid C3
  have H4 := Lib.hid C4
  clear CP C2 C3 C4 hb0

  cases b1 with
  | false =>
    go_enter Tryz.func62, Tryz.ntmps62
    go_wp2_with fail
    refine H1.out.mono ?_
    rintro e W1 ⟨rfl, hb1⟩
    have c1 := (BK.out.on hb1).cell 1
    have c2 := (BK.out.on hb1).cell 2
    have c3 := (BK.out.on hb1).cell 3
    have c4 := (BK.out.on hb1).cell 4
    have c5 := (BK.out.on hb1).cell 5
    simp at c1 c2 c3 c4 c5
    have HB1 := Lib.hid (HB0.out.trans (hb1.mono HB0.out.size))
    clear hb1
    go_wp2
    go_ret
    exact ⟨ret_bool (by rw [HV.out]; rfl), HB1.out⟩
  | true =>
    cases b2 with
    | false =>
      go_enter Tryz.func62, Tryz.ntmps62
      go_wp2_with fail
      refine H1.out.mono ?_
      rintro e W1 ⟨rfl, hb1⟩
      have c1 := (BK.out.on hb1).cell 1
      have c2 := (BK.out.on hb1).cell 2
      have c3 := (BK.out.on hb1).cell 3
      have c4 := (BK.out.on hb1).cell 4
      have c5 := (BK.out.on hb1).cell 5
      simp at c1 c2 c3 c4 c5
      have HB1 := Lib.hid (HB0.out.trans (hb1.mono HB0.out.size))
      clear hb1
      go_wp2_with fail
      refine (H2.out _).mono ?_
      rintro e w' ⟨rfl, rfl⟩
      go_wp2
      go_ret
      exact ⟨ret_bool (by rw [HV.out]; rfl), HB1.out⟩
    | true =>
      cases b3 with
      | false =>
        go_enter Tryz.func62, Tryz.ntmps62
        go_wp2_with fail
        refine H1.out.mono ?_
        rintro e W1 ⟨rfl, hb1⟩
        have c1 := (BK.out.on hb1).cell 1
        have c2 := (BK.out.on hb1).cell 2
        have c3 := (BK.out.on hb1).cell 3
        have c4 := (BK.out.on hb1).cell 4
        have c5 := (BK.out.on hb1).cell 5
        simp at c1 c2 c3 c4 c5
        have HB1 := Lib.hid (HB0.out.trans (hb1.mono HB0.out.size))
        clear hb1
        go_wp2_with fail
        refine (H2.out _).mono ?_
        rintro e w' ⟨rfl, rfl⟩
        go_wp2_with fail
        refine (H3.out _).mono ?_
        rintro e w' ⟨rfl, rfl⟩
        go_wp2
        go_ret
        exact ⟨ret_bool (by rw [HV.out]; rfl), HB1.out⟩
      | true =>
        cases b4 with
        | false =>
          go_enter Tryz.func62, Tryz.ntmps62
          go_wp2_with fail
          refine H1.out.mono ?_
          rintro e W1 ⟨rfl, hb1⟩
          have c1 := (BK.out.on hb1).cell 1
          have c2 := (BK.out.on hb1).cell 2
          have c3 := (BK.out.on hb1).cell 3
          have c4 := (BK.out.on hb1).cell 4
          have c5 := (BK.out.on hb1).cell 5
          simp at c1 c2 c3 c4 c5
          have HB1 := Lib.hid (HB0.out.trans (hb1.mono HB0.out.size))
          clear hb1
          go_wp2_with fail
          refine (H2.out _).mono ?_
          rintro e w' ⟨rfl, rfl⟩
          go_wp2_with fail
          refine (H3.out _).mono ?_
          rintro e w' ⟨rfl, rfl⟩
          go_wp2_with fail
          refine (H4.out _).mono ?_
          rintro e w' ⟨rfl, rfl⟩
          go_wp2
          go_ret
          exact ⟨ret_bool (by rw [HV.out]; rfl), HB1.out⟩
        | true =>
          by_cases h5 : data.length ≤ 3000
          rotate_left
          · have h5i : ¬ ((strOf data).size : Int) ≤ 3000 := by omega
            go_enter Tryz.func62, Tryz.ntmps62
            go_wp2_with fail
            refine H1.out.mono ?_
            rintro e W1 ⟨rfl, hb1⟩
            have c1 := (BK.out.on hb1).cell 1
            have c2 := (BK.out.on hb1).cell 2
            have c3 := (BK.out.on hb1).cell 3
            have c4 := (BK.out.on hb1).cell 4
            have c5 := (BK.out.on hb1).cell 5
            simp at c1 c2 c3 c4 c5
            have HB1 := Lib.hid (HB0.out.trans (hb1.mono HB0.out.size))
            clear hb1
            go_wp2_with fail
            refine (H2.out _).mono ?_
            rintro e w' ⟨rfl, rfl⟩
            go_wp2_with fail
            refine (H3.out _).mono ?_
            rintro e w' ⟨rfl, rfl⟩
            go_wp2_with fail
            refine (H4.out _).mono ?_
            rintro e w' ⟨rfl, rfl⟩
            go_wp2
            go_ret
            exact ⟨ret_bool (by rw [HV.out, decide_eq_false h5]; rfl), HB1.out⟩
          · have h5i : ((strOf data).size : Int) ≤ 3000 := by omega
            cases dir with
            | false =>
              go_enter Tryz.func62, Tryz.ntmps62
              go_wp2_with fail
              refine H1.out.mono ?_
              rintro e W1 ⟨rfl, hb1⟩
              have c1 := (BK.out.on hb1).cell 1
              have c2 := (BK.out.on hb1).cell 2
              have c3 := (BK.out.on hb1).cell 3
              have c4 := (BK.out.on hb1).cell 4
              have c5 := (BK.out.on hb1).cell 5
              simp at c1 c2 c3 c4 c5
              have HB1 := Lib.hid (HB0.out.trans (hb1.mono HB0.out.size))
              clear hb1
              go_wp2_with fail
              refine (H2.out _).mono ?_
              rintro e w' ⟨rfl, rfl⟩
              go_wp2_with fail
              refine (H3.out _).mono ?_
              rintro e w' ⟨rfl, rfl⟩
              go_wp2_with fail
              refine (H4.out _).mono ?_
              rintro e w' ⟨rfl, rfl⟩
              go_wp2
              go_ret
              exact ⟨ret_bool (by rw [HV.out, decide_eq_true h5]; rfl), HB1.out⟩
            | true =>
              by_cases h6 : data = []
              · have he := nodata_t h6
                have HE := Lib.hid h6
                clear h6
                go_enter Tryz.func62, Tryz.ntmps62
                go_wp2_with fail
                refine H1.out.mono ?_
                rintro e W1 ⟨rfl, hb1⟩
                have c1 := (BK.out.on hb1).cell 1
                have c2 := (BK.out.on hb1).cell 2
                have c3 := (BK.out.on hb1).cell 3
                have c4 := (BK.out.on hb1).cell 4
                have c5 := (BK.out.on hb1).cell 5
                simp at c1 c2 c3 c4 c5
                have HB1 := Lib.hid (HB0.out.trans (hb1.mono HB0.out.size))
                clear hb1
                go_wp2_with fail
                refine (H2.out _).mono ?_
                rintro e w' ⟨rfl, rfl⟩
                go_wp2_with fail
                refine (H3.out _).mono ?_
                rintro e w' ⟨rfl, rfl⟩
                go_wp2_with fail
                refine (H4.out _).mono ?_
                rintro e w' ⟨rfl, rfl⟩
                go_wp2
                go_ret
                exact ⟨ret_bool (by rw [HV.out, decide_eq_true h5, HE.out]; rfl), HB1.out⟩
              · have he := nodata_f h6
                have HE := Lib.hid (show data.isEmpty = false by cases data with | nil => exact absurd rfl h6 | cons => rfl)
                clear h6
                go_enter Tryz.func62, Tryz.ntmps62
                go_wp2_with fail
                refine H1.out.mono ?_
                rintro e W1 ⟨rfl, hb1⟩
                have c1 := (BK.out.on hb1).cell 1
                have c2 := (BK.out.on hb1).cell 2
                have c3 := (BK.out.on hb1).cell 3
                have c4 := (BK.out.on hb1).cell 4
                have c5 := (BK.out.on hb1).cell 5
                simp at c1 c2 c3 c4 c5
                have HB1 := Lib.hid (HB0.out.trans (hb1.mono HB0.out.size))
                clear hb1
                go_wp2_with fail
                refine (H2.out _).mono ?_
                rintro e w' ⟨rfl, rfl⟩
                go_wp2_with fail
                refine (H3.out _).mono ?_
                rintro e w' ⟨rfl, rfl⟩
                go_wp2_with fail
                refine (H4.out _).mono ?_
                rintro e w' ⟨rfl, rfl⟩
                go_wp2
                go_ret
                exact ⟨ret_bool (by rw [HV.out, decide_eq_true h5, HE.out]; rfl), HB1.out⟩
theorem specNode (n : Nd) (next : Int) (w : World) (hn1 : 1 ≤ next) (hn2 : next ≤ 1000000) (hp : n.path.length ≤ 2000000) (hd : n.data.length ≤ 2000000) :
    Calls Tryz.prog 62 #[.agg #[.string (strOf n.path), .bool n.dir, .int .i64 n.mode, .int .i64 n.time, .int .i64 n.id, .string (strOf n.data)], .int .i64 next] w fun e w' => e = .returned (.bool (nodeB n next)) ∧ Below w.heap.size w w' :=
  specNode6 n.path n.data n.dir n.mode n.time n.id next w hn1 hn2 hp hd
theorem implIsMode (t : Int) (w : World) :
    Calls Tryz.prog 107 #[.int .i64 t] w fun e w' => e = .returned (.bool (inB t 0 511)) ∧ w = w' := by
  by_cases h1 : 0 ≤ t
  · by_cases h2 : t ≤ 511
    · rw [inB_t h1 h2]
      go_enter Tryz.func107, Tryz.ntmps107
      go_wp2
      go_ret
      exact ⟨rfl, rfl⟩
    · rw [inB_f (by omega)]
      go_enter Tryz.func107, Tryz.ntmps107
      go_wp2
      go_ret
      exact ⟨rfl, rfl⟩
  · rw [inB_f (by omega)]
    go_enter Tryz.func107, Tryz.ntmps107
    go_wp2
    go_ret
    exact ⟨rfl, rfl⟩
theorem implTimeN (t : Int) (w : World) :
    Calls Tryz.prog 108 #[.int .i64 t] w fun e w' => e = .returned (.bool (timeOk t)) ∧ w = w' := by
  unfold timeOk
  by_cases h1 : 0 ≤ t
  · by_cases h2 : t ≤ 253402300799
    · rw [inB_t h1 h2]
      go_enter Tryz.func108, Tryz.ntmps108
      go_wp2
      go_ret
      exact ⟨rfl, rfl⟩
    · rw [inB_f (by omega)]
      go_enter Tryz.func108, Tryz.ntmps108
      go_wp2
      go_ret
      exact ⟨rfl, rfl⟩
  · rw [inB_f (by omega)]
    go_enter Tryz.func108, Tryz.ntmps108
    go_wp2
    go_ret
    exact ⟨rfl, rfl⟩
set_option maxRecDepth 100000 in
set_option maxHeartbeats 4000000 in
theorem implNode6 (path data : List UInt8) (dir : Bool) (mode time id : Int) (w : World) (hp : path.length ≤ 2000000) (hd : data.length ≤ 2000000) :
    Calls Tryz.prog 66 #[.agg #[.string (strOf path), .bool dir, .int .i64 mode, .int .i64 time, .int .i64 id, .string (strOf data)]] w fun e w' => e = .returned (.bool (nodeI ⟨path, dir, mode, time, id, data⟩)) ∧ Below w.heap.size w w' := by
  have hb0 : Below w.heap.size w (w.alloc (.cells #[.string (strOf path), .bool dir, .int .i64 mode, .int .i64 time, .int .i64 id, .string (strOf data)] 37)) := (Below.refl _ _).alloc (Nat.le_refl _) _
  have CP := implPathOk (strOf path) (w.alloc (.cells #[.string (strOf path), .bool dir, .int .i64 mode, .int .i64 time, .int .i64 id, .string (strOf data)] 37)) (by rw [strOf_size]; omega)
  rw [strOf_data] at CP
  have C2 := fun W => implIsMode mode W
  have C3 := fun W => implTimeN time W
  have BK := Lib.hid (Blk.new w #[.string (strOf path), .bool dir, .int .i64 mode, .int .i64 time, .int .i64 id, .string (strOf data)] 37)
  have HB0 := Lib.hid hb0
  have hds := strOf_size data
  have HV := Lib.hid (show nodeI ⟨path, dir, mode, time, id, data⟩ = ((!dir || data.isEmpty) && (decide (data.length ≤ 3000) && (decide (0 < depthV path) && (inB mode 0 511 && (timeOk time && decide (1 ≤ id)))))) from rfl)
  generalize decide (0 < depthV path) = b1 at CP HV
  generalize inB mode 0 511 = b2 at C2 HV
  generalize timeOk time = b3 at C3 HV
  have H1 := Lib.hid CP
  have H2 := Lib.hid C2
  have H3 := Lib.hid C3
  clear CP C2 C3 hb0

  cases dir with
  | false =>
    by_cases h5 : data.length ≤ 3000
    rotate_left
    · have h5i : 3000 < ((strOf data).size : Int) := by omega
      go_enter Tryz.func66, Tryz.ntmps66
      go_wp2
      go_ret
      exact ⟨ret_bool (by rw [HV.out, decide_eq_false h5]; first | rfl | simp), HB0.out⟩
    · have h5i : ¬ 3000 < ((strOf data).size : Int) := by omega
      cases b1 with
      | false =>
        go_enter Tryz.func66, Tryz.ntmps66
        go_wp2_with fail
        refine H1.out.mono ?_
        rintro e W1 ⟨rfl, hb1⟩
        have c1 := (BK.out.on hb1).cell 1
        have c2 := (BK.out.on hb1).cell 2
        have c3 := (BK.out.on hb1).cell 3
        have c4 := (BK.out.on hb1).cell 4
        have c5 := (BK.out.on hb1).cell 5
        simp at c1 c2 c3 c4 c5
        have HB1 := Lib.hid (HB0.out.trans (hb1.mono HB0.out.size))
        clear hb1
        go_wp2
        go_ret
        exact ⟨ret_bool (by rw [HV.out, decide_eq_true h5]; first | rfl | simp), HB1.out⟩
      | true =>
        cases b2 with
        | false =>
          go_enter Tryz.func66, Tryz.ntmps66
          go_wp2_with fail
          refine H1.out.mono ?_
          rintro e W1 ⟨rfl, hb1⟩
          have c1 := (BK.out.on hb1).cell 1
          have c2 := (BK.out.on hb1).cell 2
          have c3 := (BK.out.on hb1).cell 3
          have c4 := (BK.out.on hb1).cell 4
          have c5 := (BK.out.on hb1).cell 5
          simp at c1 c2 c3 c4 c5
          have HB1 := Lib.hid (HB0.out.trans (hb1.mono HB0.out.size))
          clear hb1
          go_wp2_with fail
          refine (H2.out _).mono ?_
          rintro e w' ⟨rfl, rfl⟩
          go_wp2
          go_ret
          exact ⟨ret_bool (by rw [HV.out, decide_eq_true h5]; first | rfl | simp), HB1.out⟩
        | true =>
          cases b3 with
          | false =>
            go_enter Tryz.func66, Tryz.ntmps66
            go_wp2_with fail
            refine H1.out.mono ?_
            rintro e W1 ⟨rfl, hb1⟩
            have c1 := (BK.out.on hb1).cell 1
            have c2 := (BK.out.on hb1).cell 2
            have c3 := (BK.out.on hb1).cell 3
            have c4 := (BK.out.on hb1).cell 4
            have c5 := (BK.out.on hb1).cell 5
            simp at c1 c2 c3 c4 c5
            have HB1 := Lib.hid (HB0.out.trans (hb1.mono HB0.out.size))
            clear hb1
            go_wp2_with fail
            refine (H2.out _).mono ?_
            rintro e w' ⟨rfl, rfl⟩
            go_wp2_with fail
            refine (H3.out _).mono ?_
            rintro e w' ⟨rfl, rfl⟩
            go_wp2
            go_ret
            exact ⟨ret_bool (by rw [HV.out, decide_eq_true h5]; first | rfl | simp), HB1.out⟩
          | true =>
            by_cases h7 : 1 ≤ id
            · have h7i : (1 : Int) ≤ id := h7
              go_enter Tryz.func66, Tryz.ntmps66
              go_wp2_with fail
              refine H1.out.mono ?_
              rintro e W1 ⟨rfl, hb1⟩
              have c1 := (BK.out.on hb1).cell 1
              have c2 := (BK.out.on hb1).cell 2
              have c3 := (BK.out.on hb1).cell 3
              have c4 := (BK.out.on hb1).cell 4
              have c5 := (BK.out.on hb1).cell 5
              simp at c1 c2 c3 c4 c5
              have HB1 := Lib.hid (HB0.out.trans (hb1.mono HB0.out.size))
              clear hb1
              go_wp2_with fail
              refine (H2.out _).mono ?_
              rintro e w' ⟨rfl, rfl⟩
              go_wp2_with fail
              refine (H3.out _).mono ?_
              rintro e w' ⟨rfl, rfl⟩
              go_wp2
              go_ret
              exact ⟨ret_bool (by rw [HV.out, decide_eq_true h5, decide_eq_true h7]; first | rfl | simp), HB1.out⟩
            · have h7i : ¬ (1 : Int) ≤ id := h7
              go_enter Tryz.func66, Tryz.ntmps66
              go_wp2_with fail
              refine H1.out.mono ?_
              rintro e W1 ⟨rfl, hb1⟩
              have c1 := (BK.out.on hb1).cell 1
              have c2 := (BK.out.on hb1).cell 2
              have c3 := (BK.out.on hb1).cell 3
              have c4 := (BK.out.on hb1).cell 4
              have c5 := (BK.out.on hb1).cell 5
              simp at c1 c2 c3 c4 c5
              have HB1 := Lib.hid (HB0.out.trans (hb1.mono HB0.out.size))
              clear hb1
              go_wp2_with fail
              refine (H2.out _).mono ?_
              rintro e w' ⟨rfl, rfl⟩
              go_wp2_with fail
              refine (H3.out _).mono ?_
              rintro e w' ⟨rfl, rfl⟩
              go_wp2
              go_ret
              exact ⟨ret_bool (by rw [HV.out, decide_eq_true h5, decide_eq_false (show ¬ 1 ≤ id by omega)]; first | rfl | simp), HB1.out⟩
  | true =>
    by_cases h6 : data = []
    · have he := nodata_t h6
      have he2 : (!(strOf data).toList.isEmpty) = false := by rw [he]; rfl
      have HE := Lib.hid (show data.isEmpty = true by rw [h6]; rfl)
      clear h6
      by_cases h5 : data.length ≤ 3000
      rotate_left
      · have h5i : 3000 < ((strOf data).size : Int) := by omega
        go_enter Tryz.func66, Tryz.ntmps66
        go_wp2
        go_ret
        exact ⟨ret_bool (by rw [HV.out, HE.out, decide_eq_false h5]; first | rfl | simp), HB0.out⟩
      · have h5i : ¬ 3000 < ((strOf data).size : Int) := by omega
        cases b1 with
        | false =>
          go_enter Tryz.func66, Tryz.ntmps66
          go_wp2_with fail
          refine H1.out.mono ?_
          rintro e W1 ⟨rfl, hb1⟩
          have c1 := (BK.out.on hb1).cell 1
          have c2 := (BK.out.on hb1).cell 2
          have c3 := (BK.out.on hb1).cell 3
          have c4 := (BK.out.on hb1).cell 4
          have c5 := (BK.out.on hb1).cell 5
          simp at c1 c2 c3 c4 c5
          have HB1 := Lib.hid (HB0.out.trans (hb1.mono HB0.out.size))
          clear hb1
          go_wp2
          go_ret
          exact ⟨ret_bool (by rw [HV.out, HE.out, decide_eq_true h5]; first | rfl | simp), HB1.out⟩
        | true =>
          cases b2 with
          | false =>
            go_enter Tryz.func66, Tryz.ntmps66
            go_wp2_with fail
            refine H1.out.mono ?_
            rintro e W1 ⟨rfl, hb1⟩
            have c1 := (BK.out.on hb1).cell 1
            have c2 := (BK.out.on hb1).cell 2
            have c3 := (BK.out.on hb1).cell 3
            have c4 := (BK.out.on hb1).cell 4
            have c5 := (BK.out.on hb1).cell 5
            simp at c1 c2 c3 c4 c5
            have HB1 := Lib.hid (HB0.out.trans (hb1.mono HB0.out.size))
            clear hb1
            go_wp2_with fail
            refine (H2.out _).mono ?_
            rintro e w' ⟨rfl, rfl⟩
            go_wp2
            go_ret
            exact ⟨ret_bool (by rw [HV.out, HE.out, decide_eq_true h5]; first | rfl | simp), HB1.out⟩
          | true =>
            cases b3 with
            | false =>
              go_enter Tryz.func66, Tryz.ntmps66
              go_wp2_with fail
              refine H1.out.mono ?_
              rintro e W1 ⟨rfl, hb1⟩
              have c1 := (BK.out.on hb1).cell 1
              have c2 := (BK.out.on hb1).cell 2
              have c3 := (BK.out.on hb1).cell 3
              have c4 := (BK.out.on hb1).cell 4
              have c5 := (BK.out.on hb1).cell 5
              simp at c1 c2 c3 c4 c5
              have HB1 := Lib.hid (HB0.out.trans (hb1.mono HB0.out.size))
              clear hb1
              go_wp2_with fail
              refine (H2.out _).mono ?_
              rintro e w' ⟨rfl, rfl⟩
              go_wp2_with fail
              refine (H3.out _).mono ?_
              rintro e w' ⟨rfl, rfl⟩
              go_wp2
              go_ret
              exact ⟨ret_bool (by rw [HV.out, HE.out, decide_eq_true h5]; first | rfl | simp), HB1.out⟩
            | true =>
              by_cases h7 : 1 ≤ id
              · have h7i : (1 : Int) ≤ id := h7
                go_enter Tryz.func66, Tryz.ntmps66
                go_wp2_with fail
                refine H1.out.mono ?_
                rintro e W1 ⟨rfl, hb1⟩
                have c1 := (BK.out.on hb1).cell 1
                have c2 := (BK.out.on hb1).cell 2
                have c3 := (BK.out.on hb1).cell 3
                have c4 := (BK.out.on hb1).cell 4
                have c5 := (BK.out.on hb1).cell 5
                simp at c1 c2 c3 c4 c5
                have HB1 := Lib.hid (HB0.out.trans (hb1.mono HB0.out.size))
                clear hb1
                go_wp2_with fail
                refine (H2.out _).mono ?_
                rintro e w' ⟨rfl, rfl⟩
                go_wp2_with fail
                refine (H3.out _).mono ?_
                rintro e w' ⟨rfl, rfl⟩
                go_wp2
                go_ret
                exact ⟨ret_bool (by rw [HV.out, HE.out, decide_eq_true h5, decide_eq_true h7]; first | rfl | simp), HB1.out⟩
              · have h7i : ¬ (1 : Int) ≤ id := h7
                go_enter Tryz.func66, Tryz.ntmps66
                go_wp2_with fail
                refine H1.out.mono ?_
                rintro e W1 ⟨rfl, hb1⟩
                have c1 := (BK.out.on hb1).cell 1
                have c2 := (BK.out.on hb1).cell 2
                have c3 := (BK.out.on hb1).cell 3
                have c4 := (BK.out.on hb1).cell 4
                have c5 := (BK.out.on hb1).cell 5
                simp at c1 c2 c3 c4 c5
                have HB1 := Lib.hid (HB0.out.trans (hb1.mono HB0.out.size))
                clear hb1
                go_wp2_with fail
                refine (H2.out _).mono ?_
                rintro e w' ⟨rfl, rfl⟩
                go_wp2_with fail
                refine (H3.out _).mono ?_
                rintro e w' ⟨rfl, rfl⟩
                go_wp2
                go_ret
                exact ⟨ret_bool (by rw [HV.out, HE.out, decide_eq_true h5, decide_eq_false (show ¬ 1 ≤ id by omega)]; first | rfl | simp), HB1.out⟩
    · have he := nodata_f h6
      have he2 : (!(strOf data).toList.isEmpty) = true := by rw [he]; rfl
      have HE := Lib.hid (show data.isEmpty = false by cases data with | nil => exact absurd rfl h6 | cons => rfl)
      clear h6
      go_enter Tryz.func66, Tryz.ntmps66
      go_wp2
      go_ret
      exact ⟨ret_bool (by rw [HV.out, HE.out]; first | rfl | simp), HB0.out⟩
theorem implNode (n : Nd) (w : World) (hp : n.path.length ≤ 2000000) (hd : n.data.length ≤ 2000000) :
    Calls Tryz.prog 66 #[.agg #[.string (strOf n.path), .bool n.dir, .int .i64 n.mode, .int .i64 n.time, .int .i64 n.id, .string (strOf n.data)]] w fun e w' => e = .returned (.bool (nodeI n)) ∧ Below w.heap.size w w' :=
  implNode6 n.path n.data n.dir n.mode n.time n.id w hp hd
end Go.Proofs.YtipedabppgbfcaaGreatDoor
namespace Go.Proofs.YtipedabppgbfcaaGreatDoor
open Go.RowKit

theorem elemS : Tryz.prog.elem 124 = 9 := by kernel_rfl
theorem addr_zero (g : Nat) : (⟨g, 0, none⟩ : Addr).add (0 * 1) = ⟨g, 0, none⟩ := by unfold Addr.add; split <;> simp_all
theorem slice_first (W : World) (g n cap k : Nat) (x : Int) (hx : x = k) (hk : k ≤ cap) :
    (Instr.slice 124 (.slice (some ⟨g, 0, none⟩) n cap) none (some (.int .i64 x)) (some (.int .i64 x))).run Tryz.prog W = .ok (.slice (some ⟨g, 0, none⟩) k k) W := by
  subst hx
  rw [run_slice_hm W 124 (some ⟨g, 0, none⟩) n cap (by kernel_rfl) .i64 .i64 k k (by omega) (by omega) (by omega), elemS, Tryz.sizeOf9]
  simp only [Result.andThen, sliced, Option.map, addr_zero, Int.toNat_natCast, Nat.sub_zero, ite_self]
theorem slice_to (W : World) (g n cap k : Nat) (x : Int) (hx : x = k) (hk : k ≤ cap) :
    (Instr.slice 124 (.slice (some ⟨g, 0, none⟩) n cap) none (some (.int .i64 x)) none).run Tryz.prog W = .ok (.slice (some ⟨g, 0, none⟩) k cap) W := by
  subst hx
  rw [run_slice_h W 124 (some ⟨g, 0, none⟩) n cap (by kernel_rfl) .i64 k (by omega) (by omega), elemS, Tryz.sizeOf9]
  simp only [Result.andThen, sliced, Option.map, addr_zero, Int.toNat_natCast, Nat.sub_zero, ite_self]
theorem slice_nil (W : World) (x : Int) (hx : x = 0) :
    (Instr.slice 124 (.slice none 0 0) none (some (.int .i64 x)) none).run Tryz.prog W = .ok (.slice none 0 0) W := by
  subst hx
  rw [run_slice_h W 124 none 0 0 (by kernel_rfl) .i64 0 (by omega) (by omega), elemS, Tryz.sizeOf9]
  rfl

/-- names[:k:k] -/
theorem implFirst (w : World) (v : Value) (ls : List (List UInt8)) (k : Nat) (h : Rd w v ls) (hn : ls ≠ []) (hk : k ≤ ls.length) :
    Calls Tryz.prog 111 #[v, .int .i64 k] w fun e w' => ∃ g, e = .returned (.slice (some ⟨g, 0, none⟩) k k) ∧ Rd w (.slice (some ⟨g, 0, none⟩) k k) (ls.take k) ∧ w' = w := by
  obtain ⟨g, cap, rfl, hg, hcap, hm, hcell⟩ := h.at hn
  have hsl := slice_first w g ls.length cap k k rfl (by omega)
  have HR := Lib.hid (show Rd w (.slice (some ⟨g, 0, none⟩) k k) (ls.take k) from ⟨some ⟨g, 0, none⟩, k, by rw [List.length_take, Nat.min_eq_left hk], by rw [List.length_take]; omega, by omega, .inr ⟨g, rfl, hg, fun j hj => by
    rw [List.length_take] at hj
    rw [hcell j (by omega), List.getElem_take]⟩⟩)
  clear hcell h
  go_enter Tryz.func111, Tryz.ntmps111
  go_wp2
  go_ret
  exact ⟨g, rfl, HR.out, rfl⟩

theorem join_path {ls : List (List UInt8)} (h : ls ≠ []) : 47 :: Lib.join ls [47] = pathL ls := by
  cases ls with
  | nil => exact absurd rfl h
  | cons x r =>
    rw [Lib.join_cons, pathL_ne (by simp), joinT_cons]
    congr 2
theorem joinLen {ls : List (List UInt8)} (h : fit ls = true) : (Lib.join ls [47]).length ≤ 246 := by
  by_cases hn : ls = []
  · subst hn; rw [Lib.join_nil]; simp
  · have h1 := pathL_len h
    rw [← join_path hn] at h1
    simp at h1; omega

set_option maxHeartbeats 1000000 in
theorem implPathOf (w : World) (v : Value) (ls : List (List UInt8)) (h : Rd w v ls) :
    Calls Tryz.prog 110 #[v] w fun e w' => e = .returned (.string (strOf (pathV ls))) ∧ Below w.heap.size w w' := by
  have CF := implFit w v ls h
  cases hf : fit ls with
  | false =>
    have HP := Lib.hid (show pathV ls = [] by unfold pathV; rw [hf]; rfl)
    rw [hf] at CF
    go_enter Tryz.func110, Tryz.ntmps110
    go_wp2_with (go_at_call 147; refine CF.mono ?_; rintro e w1 ⟨rfl, hb1⟩)
    go_ret
    exact ⟨ret_str (by rw [HP.out]; rfl), hb1⟩
  | true =>
    have HP := Lib.hid (show pathV ls = pathL ls by unfold pathV; rw [hf]; rfl)
    have hjl := joinLen hf
    have hl6 := (fit_mem hf).1
    rw [hf] at CF
    by_cases hn : ls = []
    · subst hn
      obtain ⟨a, cap, rfl, _⟩ := h
      have hadd := run_add [47] [] (by simp)
      rw [show strOf [47] = (⟨#[47]⟩ : ByteArray) from rfl, show strOf [] = (⟨#[]⟩ : ByteArray) from rfl] at hadd
      go_enter Tryz.func110, Tryz.ntmps110
      go_wp2_with (first
        | (go_at_call 147; refine CF.mono ?_; rintro e w1 ⟨rfl, hb1⟩)
        | (go_at_call 148; refine (Tryz.strings_Join_none _ _ _ _).mono ?_; rintro e w2 ⟨rfl, hw2⟩; rw [hw2]))
      go_ret
      exact ⟨ret_str (by rw [HP.out]; rfl), hb1⟩
    · have hadd := run_add [47] (Lib.join ls [47]) (by simp; omega)
      rw [show strOf [47] = (⟨#[47]⟩ : ByteArray) from rfl] at hadd
      have HQ := Lib.hid (show [47] ++ Lib.join ls [47] = pathL ls from join_path hn)
      have CJ := Lib.hid (show ∀ W, Below w.heap.size w W → Calls Tryz.prog 148 #[v, .string ⟨#[47]⟩] W fun e w' => e = .returned (.string (strOf (Lib.join ls [47]))) ∧ Below W.heap.size W w' from fun W hb => by
        obtain ⟨g, cap, rfl, hg, hcap, hm, hcell⟩ := (h.on hb).at hn
        unfold maxLen at hm
        have c := Tryz.strings_Join g 0 cap (ls.map strOf) ⟨#[47]⟩ W (fun j x hx => by
          rw [List.getElem?_map] at hx
          cases hq : ls[j]? with
          | none => rw [hq] at hx; cases hx
          | some y =>
            rw [hq] at hx; cases hx
            obtain ⟨hj, rfl⟩ := List.getElem?_eq_some_iff.1 hq
            rw [Nat.zero_add]; exact hcell j hj) hg (by rw [List.length_map]; omega) (by rw [List.length_map]; exact hcap) (by
            rw [List.map_map, show ((fun x : ByteArray => x.data.toList) ∘ strOf) = id from funext fun l => strOf_data l, List.map_id]
            show (Lib.join ls [47]).length ≤ _
            omega)
        rw [List.map_map, show ((fun x : ByteArray => x.data.toList) ∘ strOf) = id from funext fun l => strOf_data l, List.map_id, List.length_map] at c
        exact c)
      generalize Lib.join ls [47] = q at hadd HQ CJ
      clear h hn
      go_enter Tryz.func110, Tryz.ntmps110
      go_wp2_with (first
        | (go_at_call 147; refine CF.mono ?_; rintro e w1 ⟨rfl, hb1⟩; have CJ1 := CJ.out _ hb1)
        | (go_at_call 148; refine CJ1.mono ?_; rintro e w2 ⟨rfl, hb2⟩))
      go_ret
      exact ⟨ret_str (by rw [HP.out, ← HQ.out]; rfl), hb1.trans (hb2.mono hb1.size)⟩

theorem fit_drop {ns : List (List UInt8)} (h : fit ns = true) : fit ns.dropLast = true :=
  fit_of (by have := (fit_mem h).1; simp; omega) fun n hn => (fit_mem h).2 n (List.dropLast_subset _ hn)

set_option maxHeartbeats 1000000 in
theorem implDirOf (s : ByteArray) (w : World) (hs : s.size ≤ 2000000) :
    Calls Tryz.prog 68 #[.string s] w fun e w' => e = .returned (.string (strOf (dirV s.data.toList))) ∧ Below w.heap.size w w' := by
  have CN := implNamesOf s w hs
  have HJ := Lib.hid (show dirV s.data.toList = match namesO s.data.toList with | none => [] | some ns => if ns = [] then [] else pathL ns.dropLast from rfl)
  have HL := Lib.hid (show ∀ ns, namesO s.data.toList = some ns → fit ns = true from fun ns h => (namesO_is h).1)
  generalize namesO s.data.toList = no at CN HJ HL
  cases no with
  | none =>
    go_enter Tryz.func68, Tryz.ntmps68
    go_wp2_with (go_at_call 109; refine CN.mono ?_; rintro e w' ⟨v, rfl, hS, hb⟩)
    go_ret
    exact ⟨ret_str (by rw [HJ.out]; rfl), hb⟩
  | some ns =>
    have hfit := HL.out ns rfl
    clear HL
    by_cases hn : ns = []
    · subst hn
      go_enter Tryz.func68, Tryz.ntmps68
      go_wp2_with (go_at_call 109; refine CN.mono ?_; rintro e w' ⟨v, rfl, hS, hb⟩; obtain ⟨av, cv, rfl, _⟩ := hS.rd)
      go_ret
      exact ⟨ret_str (by rw [HJ.out]; rfl), hb⟩
    · have HQ := Lib.hid (show pathV (ns.take (ns.length - 1)) = pathL ns.dropLast by rw [← List.dropLast_eq_take]; unfold pathV; rw [fit_drop hfit]; rfl)
      have hpos : 1 ≤ ns.length := by
        cases ns with
        | nil => exact absurd rfl hn
        | cons => simp
      have hlt : ns.length ≤ 6 := (fit_mem hfit).1
      have hne : ((ns.length : Int) == 0) = false := by simp; omega
      have hsub : (ns.length : Int) - 1 = ((ns.length - 1 : Nat) : Int) := by omega
      have HN := Lib.hid hn
      clear hn hfit
      go_enter Tryz.func68, Tryz.ntmps68
      go_wp2_with fail
      refine CN.mono ?_
      rintro e W1 ⟨v, rfl, hS, hb⟩
      have hR : Rd W1 v ns := hS.rd
      have HS := Lib.hid hS
      have CF := Lib.hid (implFirst W1 v ns (ns.length - 1) hR HN.out (by omega))
      obtain ⟨av, cv, rfl, _⟩ := hR
      rw [← hsub] at CF
      clear hS hsub
      go_wp2_with (first
        | (go_at_call 111; refine CF.out.mono ?_; rintro e w2 ⟨g, rfl, hR2, hw2⟩; have CP := implPathOf _ _ _ hR2; rw [hw2])
        | (go_at_call 110; refine CP.mono ?_; rintro e w3 ⟨rfl, hb3⟩))
      go_ret
      exact ⟨ret_str (by rw [HJ.out, if_neg HN.out, HQ.out]), hb.trans (hb3.mono hb.size)⟩

end Go.Proofs.YtipedabppgbfcaaGreatDoor
