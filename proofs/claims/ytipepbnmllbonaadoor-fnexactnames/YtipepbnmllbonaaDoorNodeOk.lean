/- Contracts of spec.l07Node and impl.nodeOk: whether a node is right by itself. -/
import Derived.Test.YtipepbnmllbonaaDoorTreeFind
import Derived.Test.YtipepbnmllbonaaDoorSpecPath
import Derived.Test.YtipepbnmllbonaaDoorImplPath
namespace Go.Proofs.YtipepbnmllbonaaDoor
open Go.RowKit

theorem empty_t {l : List UInt8} (h : l = []) : (strOf l).toList.isEmpty = true := by rw [Lib.toList_data, strOf_data, h]; rfl
theorem empty_f {l : List UInt8} (h : l ≠ []) : (strOf l).toList.isEmpty = false := by rw [Lib.toList_data, strOf_data]; cases l with | nil => exact absurd rfl h | cons => rfl
/-- The same in another order, without the number of the next one. -/
def nodeI (n : Nd) : Bool := (!n.dir || n.data.isEmpty) && (decide (n.data.length ≤ 3000) && (decide (0 < depthV n.path) && (inB n.mode 0 511 && (timeOk n.time && decide (1 ≤ n.id)))))
theorem node_split (n : Nd) (next : Int) : nodeB n next = (nodeI n && decide (n.id < next)) := by
  unfold nodeB nodeI
  have h : inB n.id 1 (next - 1) = (decide (1 ≤ n.id) && decide (n.id < next)) := by
    unfold inB
    congr 1
    exact decide_eq_decide.2 (by omega)
  rw [h]
  generalize decide (0 < depthV n.path) = b1
  generalize inB n.mode 0 511 = b2
  generalize timeOk n.time = b3
  generalize decide (1 ≤ n.id) = b4
  generalize decide (n.id < next) = b5
  generalize decide (n.data.length ≤ 3000) = b6
  generalize (!n.dir || n.data.isEmpty) = b7
  cases b1 <;> cases b2 <;> cases b3 <;> cases b4 <;> cases b5 <;> cases b6 <;> cases b7 <;> rfl

theorem specTimeN (t : Int) (w : World) :
    Calls Tryd.prog 33 #[.int .i64 t] w fun e w' => e = .returned (.bool (timeOk t)) ∧ w = w' := by
  unfold timeOk
  go_enter Tryd.func33, Tryd.ntmps33
  go_wp2_with (first | (go_at_call 17; refine (specIn _ _ _ _).mono ?_; rintro e w' ⟨rfl, rfl⟩))
  go_ret
  exact ⟨rfl, rfl⟩
set_option maxRecDepth 100000 in
set_option maxHeartbeats 4000000 in
theorem specNode6 (path data : List UInt8) (dir : Bool) (mode time id next : Int) (w : World) (hn1 : 1 ≤ next) (hn2 : next ≤ 1000000) (hp : path.length ≤ 2000000) (hd : data.length ≤ 2000000) :
    Calls Tryd.prog 18 #[.agg #[.string (strOf path), .bool dir, .int .i64 mode, .int .i64 time, .int .i64 id, .string (strOf data)], .int .i64 next] w fun e w' => e = .returned (.bool (nodeB ⟨path, dir, mode, time, id, data⟩ next)) ∧ Below w.heap.size w w' := by
  have hb0 : Below w.heap.size w (w.alloc (.cells #[.string (strOf path), .bool dir, .int .i64 mode, .int .i64 time, .int .i64 id, .string (strOf data)] 42)) := (Below.refl _ _).alloc (Nat.le_refl _) _
  have CP := specPathOk (strOf path) (w.alloc (.cells #[.string (strOf path), .bool dir, .int .i64 mode, .int .i64 time, .int .i64 id, .string (strOf data)] 42)) (by rw [strOf_size]; unfold maxLen; omega)
  rw [strOf_data] at CP
  have C2 := fun W => specIn mode 0 511 W
  have C3 := fun W => specTimeN time W
  have C4 := fun W => specIn id 1 (next - 1) W
  have BK := Lib.hid (Blk.new w #[.string (strOf path), .bool dir, .int .i64 mode, .int .i64 time, .int .i64 id, .string (strOf data)] 42)
  have HB0 := Lib.hid hb0
  have hds := strOf_size data
  have HV := Lib.hid (show nodeB ⟨path, dir, mode, time, id, data⟩ next = (decide (0 < depthV path) && (inB mode 0 511 && (timeOk time && (inB id 1 (next - 1) && (decide (data.length ≤ 3000) && (!dir || data.isEmpty)))))) from rfl)
  generalize decide (0 < depthV path) = b1 at CP HV
  generalize inB mode 0 511 = b2 at C2 HV
  generalize timeOk time = b3 at C3 HV
  generalize inB id 1 (next - 1) = b4 at C4 HV
  have H1 := Lib.hid CP
  have H2 := Lib.hid C2
  have H3 := Lib.hid C3
  have H4 := Lib.hid C4
  clear CP C2 C3 C4 hb0

  cases b1 with
  | false =>
    go_enter Tryd.func18, Tryd.ntmps18
    go_wp2_with fail
    refine H1.out.mono ?_
    rintro e W1 ⟨rfl, hb1⟩
    have c1 := (BK.out.on hb1).cell 1
    have c2 := (BK.out.on hb1).cell 2
    have c3 := (BK.out.on hb1).cell 3
    have c4 := (BK.out.on hb1).cell 4
    have c5 := (BK.out.on hb1).cell 5
    simp at c1 c2 c3 c4 c5
    have HB1 := Lib.hid (HB0.out.trans (hb1.mono HB0.out.size))
    clear hb1
    go_wp2
    go_ret
    exact ⟨ret_bool (by rw [HV.out]; rfl), HB1.out⟩
  | true =>
    cases b2 with
    | false =>
      go_enter Tryd.func18, Tryd.ntmps18
      go_wp2_with fail
      refine H1.out.mono ?_
      rintro e W1 ⟨rfl, hb1⟩
      have c1 := (BK.out.on hb1).cell 1
      have c2 := (BK.out.on hb1).cell 2
      have c3 := (BK.out.on hb1).cell 3
      have c4 := (BK.out.on hb1).cell 4
      have c5 := (BK.out.on hb1).cell 5
      simp at c1 c2 c3 c4 c5
      have HB1 := Lib.hid (HB0.out.trans (hb1.mono HB0.out.size))
      clear hb1
      go_wp2_with fail
      refine (H2.out _).mono ?_
      rintro e w' ⟨rfl, rfl⟩
      go_wp2
      go_ret
      exact ⟨ret_bool (by rw [HV.out]; rfl), HB1.out⟩
    | true =>
      cases b3 with
      | false =>
        go_enter Tryd.func18, Tryd.ntmps18
        go_wp2_with fail
        refine H1.out.mono ?_
        rintro e W1 ⟨rfl, hb1⟩
        have c1 := (BK.out.on hb1).cell 1
        have c2 := (BK.out.on hb1).cell 2
        have c3 := (BK.out.on hb1).cell 3
        have c4 := (BK.out.on hb1).cell 4
        have c5 := (BK.out.on hb1).cell 5
        simp at c1 c2 c3 c4 c5
        have HB1 := Lib.hid (HB0.out.trans (hb1.mono HB0.out.size))
        clear hb1
        go_wp2_with fail
        refine (H2.out _).mono ?_
        rintro e w' ⟨rfl, rfl⟩
        go_wp2_with fail
        refine (H3.out _).mono ?_
        rintro e w' ⟨rfl, rfl⟩
        go_wp2
        go_ret
        exact ⟨ret_bool (by rw [HV.out]; rfl), HB1.out⟩
      | true =>
        cases b4 with
        | false =>
          go_enter Tryd.func18, Tryd.ntmps18
          go_wp2_with fail
          refine H1.out.mono ?_
          rintro e W1 ⟨rfl, hb1⟩
          have c1 := (BK.out.on hb1).cell 1
          have c2 := (BK.out.on hb1).cell 2
          have c3 := (BK.out.on hb1).cell 3
          have c4 := (BK.out.on hb1).cell 4
          have c5 := (BK.out.on hb1).cell 5
          simp at c1 c2 c3 c4 c5
          have HB1 := Lib.hid (HB0.out.trans (hb1.mono HB0.out.size))
          clear hb1
          go_wp2_with fail
          refine (H2.out _).mono ?_
          rintro e w' ⟨rfl, rfl⟩
          go_wp2_with fail
          refine (H3.out _).mono ?_
          rintro e w' ⟨rfl, rfl⟩
          go_wp2_with fail
          refine (H4.out _).mono ?_
          rintro e w' ⟨rfl, rfl⟩
          go_wp2
          go_ret
          exact ⟨ret_bool (by rw [HV.out]; rfl), HB1.out⟩
        | true =>
          by_cases h5 : data.length ≤ 3000
          rotate_left
          · have h5i : ¬ ((strOf data).size : Int) ≤ 3000 := by omega
            go_enter Tryd.func18, Tryd.ntmps18
            go_wp2_with fail
            refine H1.out.mono ?_
            rintro e W1 ⟨rfl, hb1⟩
            have c1 := (BK.out.on hb1).cell 1
            have c2 := (BK.out.on hb1).cell 2
            have c3 := (BK.out.on hb1).cell 3
            have c4 := (BK.out.on hb1).cell 4
            have c5 := (BK.out.on hb1).cell 5
            simp at c1 c2 c3 c4 c5
            have HB1 := Lib.hid (HB0.out.trans (hb1.mono HB0.out.size))
            clear hb1
            go_wp2_with fail
            refine (H2.out _).mono ?_
            rintro e w' ⟨rfl, rfl⟩
            go_wp2_with fail
            refine (H3.out _).mono ?_
            rintro e w' ⟨rfl, rfl⟩
            go_wp2_with fail
            refine (H4.out _).mono ?_
            rintro e w' ⟨rfl, rfl⟩
            go_wp2
            go_ret
            exact ⟨ret_bool (by rw [HV.out, decide_eq_false h5]; rfl), HB1.out⟩
          · have h5i : ((strOf data).size : Int) ≤ 3000 := by omega
            cases dir with
            | false =>
              go_enter Tryd.func18, Tryd.ntmps18
              go_wp2_with fail
              refine H1.out.mono ?_
              rintro e W1 ⟨rfl, hb1⟩
              have c1 := (BK.out.on hb1).cell 1
              have c2 := (BK.out.on hb1).cell 2
              have c3 := (BK.out.on hb1).cell 3
              have c4 := (BK.out.on hb1).cell 4
              have c5 := (BK.out.on hb1).cell 5
              simp at c1 c2 c3 c4 c5
              have HB1 := Lib.hid (HB0.out.trans (hb1.mono HB0.out.size))
              clear hb1
              go_wp2_with fail
              refine (H2.out _).mono ?_
              rintro e w' ⟨rfl, rfl⟩
              go_wp2_with fail
              refine (H3.out _).mono ?_
              rintro e w' ⟨rfl, rfl⟩
              go_wp2_with fail
              refine (H4.out _).mono ?_
              rintro e w' ⟨rfl, rfl⟩
              go_wp2
              go_ret
              exact ⟨ret_bool (by rw [HV.out, decide_eq_true h5]; rfl), HB1.out⟩
            | true =>
              by_cases h6 : data = []
              · have he := empty_t h6
                have HE := Lib.hid h6
                clear h6
                go_enter Tryd.func18, Tryd.ntmps18
                go_wp2_with fail
                refine H1.out.mono ?_
                rintro e W1 ⟨rfl, hb1⟩
                have c1 := (BK.out.on hb1).cell 1
                have c2 := (BK.out.on hb1).cell 2
                have c3 := (BK.out.on hb1).cell 3
                have c4 := (BK.out.on hb1).cell 4
                have c5 := (BK.out.on hb1).cell 5
                simp at c1 c2 c3 c4 c5
                have HB1 := Lib.hid (HB0.out.trans (hb1.mono HB0.out.size))
                clear hb1
                go_wp2_with fail
                refine (H2.out _).mono ?_
                rintro e w' ⟨rfl, rfl⟩
                go_wp2_with fail
                refine (H3.out _).mono ?_
                rintro e w' ⟨rfl, rfl⟩
                go_wp2_with fail
                refine (H4.out _).mono ?_
                rintro e w' ⟨rfl, rfl⟩
                go_wp2
                go_ret
                exact ⟨ret_bool (by rw [HV.out, decide_eq_true h5, HE.out]; rfl), HB1.out⟩
              · have he := empty_f h6
                have HE := Lib.hid (show data.isEmpty = false by cases data with | nil => exact absurd rfl h6 | cons => rfl)
                clear h6
                go_enter Tryd.func18, Tryd.ntmps18
                go_wp2_with fail
                refine H1.out.mono ?_
                rintro e W1 ⟨rfl, hb1⟩
                have c1 := (BK.out.on hb1).cell 1
                have c2 := (BK.out.on hb1).cell 2
                have c3 := (BK.out.on hb1).cell 3
                have c4 := (BK.out.on hb1).cell 4
                have c5 := (BK.out.on hb1).cell 5
                simp at c1 c2 c3 c4 c5
                have HB1 := Lib.hid (HB0.out.trans (hb1.mono HB0.out.size))
                clear hb1
                go_wp2_with fail
                refine (H2.out _).mono ?_
                rintro e w' ⟨rfl, rfl⟩
                go_wp2_with fail
                refine (H3.out _).mono ?_
                rintro e w' ⟨rfl, rfl⟩
                go_wp2_with fail
                refine (H4.out _).mono ?_
                rintro e w' ⟨rfl, rfl⟩
                go_wp2
                go_ret
                exact ⟨ret_bool (by rw [HV.out, decide_eq_true h5, HE.out]; rfl), HB1.out⟩
theorem specNode (n : Nd) (next : Int) (w : World) (hn1 : 1 ≤ next) (hn2 : next ≤ 1000000) (hp : n.path.length ≤ 2000000) (hd : n.data.length ≤ 2000000) :
    Calls Tryd.prog 18 #[.agg #[.string (strOf n.path), .bool n.dir, .int .i64 n.mode, .int .i64 n.time, .int .i64 n.id, .string (strOf n.data)], .int .i64 next] w fun e w' => e = .returned (.bool (nodeB n next)) ∧ Below w.heap.size w w' :=
  specNode6 n.path n.data n.dir n.mode n.time n.id next w hn1 hn2 hp hd
theorem implIsMode (t : Int) (w : World) :
    Calls Tryd.prog 38 #[.int .i64 t] w fun e w' => e = .returned (.bool (inB t 0 511)) ∧ w = w' := by
  by_cases h1 : 0 ≤ t
  · by_cases h2 : t ≤ 511
    · rw [inB_t h1 h2]
      go_enter Tryd.func38, Tryd.ntmps38
      go_wp2
      go_ret
      exact ⟨rfl, rfl⟩
    · rw [inB_f (by omega)]
      go_enter Tryd.func38, Tryd.ntmps38
      go_wp2
      go_ret
      exact ⟨rfl, rfl⟩
  · rw [inB_f (by omega)]
    go_enter Tryd.func38, Tryd.ntmps38
    go_wp2
    go_ret
    exact ⟨rfl, rfl⟩
theorem implTimeN (t : Int) (w : World) :
    Calls Tryd.prog 39 #[.int .i64 t] w fun e w' => e = .returned (.bool (timeOk t)) ∧ w = w' := by
  unfold timeOk
  by_cases h1 : 0 ≤ t
  · by_cases h2 : t ≤ 253402300799
    · rw [inB_t h1 h2]
      go_enter Tryd.func39, Tryd.ntmps39
      go_wp2
      go_ret
      exact ⟨rfl, rfl⟩
    · rw [inB_f (by omega)]
      go_enter Tryd.func39, Tryd.ntmps39
      go_wp2
      go_ret
      exact ⟨rfl, rfl⟩
  · rw [inB_f (by omega)]
    go_enter Tryd.func39, Tryd.ntmps39
    go_wp2
    go_ret
    exact ⟨rfl, rfl⟩
set_option maxRecDepth 100000 in
set_option maxHeartbeats 4000000 in
theorem implNode6 (path data : List UInt8) (dir : Bool) (mode time id : Int) (w : World) (hp : path.length ≤ 2000000) (hd : data.length ≤ 2000000) :
    Calls Tryd.prog 23 #[.agg #[.string (strOf path), .bool dir, .int .i64 mode, .int .i64 time, .int .i64 id, .string (strOf data)]] w fun e w' => e = .returned (.bool (nodeI ⟨path, dir, mode, time, id, data⟩)) ∧ Below w.heap.size w w' := by
  have hb0 : Below w.heap.size w (w.alloc (.cells #[.string (strOf path), .bool dir, .int .i64 mode, .int .i64 time, .int .i64 id, .string (strOf data)] 42)) := (Below.refl _ _).alloc (Nat.le_refl _) _
  have CP := implPathOk (strOf path) (w.alloc (.cells #[.string (strOf path), .bool dir, .int .i64 mode, .int .i64 time, .int .i64 id, .string (strOf data)] 42)) (by rw [strOf_size]; omega)
  rw [strOf_data] at CP
  have C2 := fun W => implIsMode mode W
  have C3 := fun W => implTimeN time W
  have BK := Lib.hid (Blk.new w #[.string (strOf path), .bool dir, .int .i64 mode, .int .i64 time, .int .i64 id, .string (strOf data)] 42)
  have HB0 := Lib.hid hb0
  have hds := strOf_size data
  have HV := Lib.hid (show nodeI ⟨path, dir, mode, time, id, data⟩ = ((!dir || data.isEmpty) && (decide (data.length ≤ 3000) && (decide (0 < depthV path) && (inB mode 0 511 && (timeOk time && decide (1 ≤ id)))))) from rfl)
  generalize decide (0 < depthV path) = b1 at CP HV
  generalize inB mode 0 511 = b2 at C2 HV
  generalize timeOk time = b3 at C3 HV
  have H1 := Lib.hid CP
  have H2 := Lib.hid C2
  have H3 := Lib.hid C3
  clear CP C2 C3 hb0

  cases dir with
  | false =>
    by_cases h5 : data.length ≤ 3000
    rotate_left
    · have h5i : 3000 < ((strOf data).size : Int) := by omega
      go_enter Tryd.func23, Tryd.ntmps23
      go_wp2
      go_ret
      exact ⟨ret_bool (by rw [HV.out, decide_eq_false h5]; first | rfl | simp), HB0.out⟩
    · have h5i : ¬ 3000 < ((strOf data).size : Int) := by omega
      cases b1 with
      | false =>
        go_enter Tryd.func23, Tryd.ntmps23
        go_wp2_with fail
        refine H1.out.mono ?_
        rintro e W1 ⟨rfl, hb1⟩
        have c1 := (BK.out.on hb1).cell 1
        have c2 := (BK.out.on hb1).cell 2
        have c3 := (BK.out.on hb1).cell 3
        have c4 := (BK.out.on hb1).cell 4
        have c5 := (BK.out.on hb1).cell 5
        simp at c1 c2 c3 c4 c5
        have HB1 := Lib.hid (HB0.out.trans (hb1.mono HB0.out.size))
        clear hb1
        go_wp2
        go_ret
        exact ⟨ret_bool (by rw [HV.out, decide_eq_true h5]; first | rfl | simp), HB1.out⟩
      | true =>
        cases b2 with
        | false =>
          go_enter Tryd.func23, Tryd.ntmps23
          go_wp2_with fail
          refine H1.out.mono ?_
          rintro e W1 ⟨rfl, hb1⟩
          have c1 := (BK.out.on hb1).cell 1
          have c2 := (BK.out.on hb1).cell 2
          have c3 := (BK.out.on hb1).cell 3
          have c4 := (BK.out.on hb1).cell 4
          have c5 := (BK.out.on hb1).cell 5
          simp at c1 c2 c3 c4 c5
          have HB1 := Lib.hid (HB0.out.trans (hb1.mono HB0.out.size))
          clear hb1
          go_wp2_with fail
          refine (H2.out _).mono ?_
          rintro e w' ⟨rfl, rfl⟩
          go_wp2
          go_ret
          exact ⟨ret_bool (by rw [HV.out, decide_eq_true h5]; first | rfl | simp), HB1.out⟩
        | true =>
          cases b3 with
          | false =>
            go_enter Tryd.func23, Tryd.ntmps23
            go_wp2_with fail
            refine H1.out.mono ?_
            rintro e W1 ⟨rfl, hb1⟩
            have c1 := (BK.out.on hb1).cell 1
            have c2 := (BK.out.on hb1).cell 2
            have c3 := (BK.out.on hb1).cell 3
            have c4 := (BK.out.on hb1).cell 4
            have c5 := (BK.out.on hb1).cell 5
            simp at c1 c2 c3 c4 c5
            have HB1 := Lib.hid (HB0.out.trans (hb1.mono HB0.out.size))
            clear hb1
            go_wp2_with fail
            refine (H2.out _).mono ?_
            rintro e w' ⟨rfl, rfl⟩
            go_wp2_with fail
            refine (H3.out _).mono ?_
            rintro e w' ⟨rfl, rfl⟩
            go_wp2
            go_ret
            exact ⟨ret_bool (by rw [HV.out, decide_eq_true h5]; first | rfl | simp), HB1.out⟩
          | true =>
            by_cases h7 : 1 ≤ id
            · have h7i : (1 : Int) ≤ id := h7
              go_enter Tryd.func23, Tryd.ntmps23
              go_wp2_with fail
              refine H1.out.mono ?_
              rintro e W1 ⟨rfl, hb1⟩
              have c1 := (BK.out.on hb1).cell 1
              have c2 := (BK.out.on hb1).cell 2
              have c3 := (BK.out.on hb1).cell 3
              have c4 := (BK.out.on hb1).cell 4
              have c5 := (BK.out.on hb1).cell 5
              simp at c1 c2 c3 c4 c5
              have HB1 := Lib.hid (HB0.out.trans (hb1.mono HB0.out.size))
              clear hb1
              go_wp2_with fail
              refine (H2.out _).mono ?_
              rintro e w' ⟨rfl, rfl⟩
              go_wp2_with fail
              refine (H3.out _).mono ?_
              rintro e w' ⟨rfl, rfl⟩
              go_wp2
              go_ret
              exact ⟨ret_bool (by rw [HV.out, decide_eq_true h5, decide_eq_true h7]; first | rfl | simp), HB1.out⟩
            · have h7i : ¬ (1 : Int) ≤ id := h7
              go_enter Tryd.func23, Tryd.ntmps23
              go_wp2_with fail
              refine H1.out.mono ?_
              rintro e W1 ⟨rfl, hb1⟩
              have c1 := (BK.out.on hb1).cell 1
              have c2 := (BK.out.on hb1).cell 2
              have c3 := (BK.out.on hb1).cell 3
              have c4 := (BK.out.on hb1).cell 4
              have c5 := (BK.out.on hb1).cell 5
              simp at c1 c2 c3 c4 c5
              have HB1 := Lib.hid (HB0.out.trans (hb1.mono HB0.out.size))
              clear hb1
              go_wp2_with fail
              refine (H2.out _).mono ?_
              rintro e w' ⟨rfl, rfl⟩
              go_wp2_with fail
              refine (H3.out _).mono ?_
              rintro e w' ⟨rfl, rfl⟩
              go_wp2
              go_ret
              exact ⟨ret_bool (by rw [HV.out, decide_eq_true h5, decide_eq_false (show ¬ 1 ≤ id by omega)]; first | rfl | simp), HB1.out⟩
  | true =>
    by_cases h6 : data = []
    · have he := empty_t h6
      have he2 : (!(strOf data).toList.isEmpty) = false := by rw [he]; rfl
      have HE := Lib.hid (show data.isEmpty = true by rw [h6]; rfl)
      clear h6
      by_cases h5 : data.length ≤ 3000
      rotate_left
      · have h5i : 3000 < ((strOf data).size : Int) := by omega
        go_enter Tryd.func23, Tryd.ntmps23
        go_wp2
        go_ret
        exact ⟨ret_bool (by rw [HV.out, HE.out, decide_eq_false h5]; first | rfl | simp), HB0.out⟩
      · have h5i : ¬ 3000 < ((strOf data).size : Int) := by omega
        cases b1 with
        | false =>
          go_enter Tryd.func23, Tryd.ntmps23
          go_wp2_with fail
          refine H1.out.mono ?_
          rintro e W1 ⟨rfl, hb1⟩
          have c1 := (BK.out.on hb1).cell 1
          have c2 := (BK.out.on hb1).cell 2
          have c3 := (BK.out.on hb1).cell 3
          have c4 := (BK.out.on hb1).cell 4
          have c5 := (BK.out.on hb1).cell 5
          simp at c1 c2 c3 c4 c5
          have HB1 := Lib.hid (HB0.out.trans (hb1.mono HB0.out.size))
          clear hb1
          go_wp2
          go_ret
          exact ⟨ret_bool (by rw [HV.out, HE.out, decide_eq_true h5]; first | rfl | simp), HB1.out⟩
        | true =>
          cases b2 with
          | false =>
            go_enter Tryd.func23, Tryd.ntmps23
            go_wp2_with fail
            refine H1.out.mono ?_
            rintro e W1 ⟨rfl, hb1⟩
            have c1 := (BK.out.on hb1).cell 1
            have c2 := (BK.out.on hb1).cell 2
            have c3 := (BK.out.on hb1).cell 3
            have c4 := (BK.out.on hb1).cell 4
            have c5 := (BK.out.on hb1).cell 5
            simp at c1 c2 c3 c4 c5
            have HB1 := Lib.hid (HB0.out.trans (hb1.mono HB0.out.size))
            clear hb1
            go_wp2_with fail
            refine (H2.out _).mono ?_
            rintro e w' ⟨rfl, rfl⟩
            go_wp2
            go_ret
            exact ⟨ret_bool (by rw [HV.out, HE.out, decide_eq_true h5]; first | rfl | simp), HB1.out⟩
          | true =>
            cases b3 with
            | false =>
              go_enter Tryd.func23, Tryd.ntmps23
              go_wp2_with fail
              refine H1.out.mono ?_
              rintro e W1 ⟨rfl, hb1⟩
              have c1 := (BK.out.on hb1).cell 1
              have c2 := (BK.out.on hb1).cell 2
              have c3 := (BK.out.on hb1).cell 3
              have c4 := (BK.out.on hb1).cell 4
              have c5 := (BK.out.on hb1).cell 5
              simp at c1 c2 c3 c4 c5
              have HB1 := Lib.hid (HB0.out.trans (hb1.mono HB0.out.size))
              clear hb1
              go_wp2_with fail
              refine (H2.out _).mono ?_
              rintro e w' ⟨rfl, rfl⟩
              go_wp2_with fail
              refine (H3.out _).mono ?_
              rintro e w' ⟨rfl, rfl⟩
              go_wp2
              go_ret
              exact ⟨ret_bool (by rw [HV.out, HE.out, decide_eq_true h5]; first | rfl | simp), HB1.out⟩
            | true =>
              by_cases h7 : 1 ≤ id
              · have h7i : (1 : Int) ≤ id := h7
                go_enter Tryd.func23, Tryd.ntmps23
                go_wp2_with fail
                refine H1.out.mono ?_
                rintro e W1 ⟨rfl, hb1⟩
                have c1 := (BK.out.on hb1).cell 1
                have c2 := (BK.out.on hb1).cell 2
                have c3 := (BK.out.on hb1).cell 3
                have c4 := (BK.out.on hb1).cell 4
                have c5 := (BK.out.on hb1).cell 5
                simp at c1 c2 c3 c4 c5
                have HB1 := Lib.hid (HB0.out.trans (hb1.mono HB0.out.size))
                clear hb1
                go_wp2_with fail
                refine (H2.out _).mono ?_
                rintro e w' ⟨rfl, rfl⟩
                go_wp2_with fail
                refine (H3.out _).mono ?_
                rintro e w' ⟨rfl, rfl⟩
                go_wp2
                go_ret
                exact ⟨ret_bool (by rw [HV.out, HE.out, decide_eq_true h5, decide_eq_true h7]; first | rfl | simp), HB1.out⟩
              · have h7i : ¬ (1 : Int) ≤ id := h7
                go_enter Tryd.func23, Tryd.ntmps23
                go_wp2_with fail
                refine H1.out.mono ?_
                rintro e W1 ⟨rfl, hb1⟩
                have c1 := (BK.out.on hb1).cell 1
                have c2 := (BK.out.on hb1).cell 2
                have c3 := (BK.out.on hb1).cell 3
                have c4 := (BK.out.on hb1).cell 4
                have c5 := (BK.out.on hb1).cell 5
                simp at c1 c2 c3 c4 c5
                have HB1 := Lib.hid (HB0.out.trans (hb1.mono HB0.out.size))
                clear hb1
                go_wp2_with fail
                refine (H2.out _).mono ?_
                rintro e w' ⟨rfl, rfl⟩
                go_wp2_with fail
                refine (H3.out _).mono ?_
                rintro e w' ⟨rfl, rfl⟩
                go_wp2
                go_ret
                exact ⟨ret_bool (by rw [HV.out, HE.out, decide_eq_true h5, decide_eq_false (show ¬ 1 ≤ id by omega)]; first | rfl | simp), HB1.out⟩
    · have he := empty_f h6
      have he2 : (!(strOf data).toList.isEmpty) = true := by rw [he]; rfl
      have HE := Lib.hid (show data.isEmpty = false by cases data with | nil => exact absurd rfl h6 | cons => rfl)
      clear h6
      go_enter Tryd.func23, Tryd.ntmps23
      go_wp2
      go_ret
      exact ⟨ret_bool (by rw [HV.out, HE.out]; first | rfl | simp), HB0.out⟩
theorem implNode (n : Nd) (w : World) (hp : n.path.length ≤ 2000000) (hd : n.data.length ≤ 2000000) :
    Calls Tryd.prog 23 #[.agg #[.string (strOf n.path), .bool n.dir, .int .i64 n.mode, .int .i64 n.time, .int .i64 n.id, .string (strOf n.data)]] w fun e w' => e = .returned (.bool (nodeI n)) ∧ Below w.heap.size w w' :=
  implNode6 n.path n.data n.dir n.mode n.time n.id w hp hd
end Go.Proofs.YtipepbnmllbonaaDoor
