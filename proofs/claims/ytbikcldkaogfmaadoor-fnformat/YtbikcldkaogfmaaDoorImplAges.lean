/- The contract of impl.AgeOf. -/
import Derived.Test.YtbikcldkaogfmaaDoorAges
import Derived.WalkMore
import Derived.ScopeJumps
namespace Go.Proofs.YtbikcldkaogfmaaDoor
open Go.RowKit

theorem implIsTimeA (t : Int) (w : World) :
    Calls Tryd.prog 40 #[.int .i64 t] w fun e w' => e = .returned (.bool (inB t 0 253402300799)) ∧ w = w' := by
  by_cases h1 : 0 ≤ t
  · by_cases h2 : t ≤ 253402300799
    · rw [inB_t h1 h2]
      go_enter Tryd.func40, Tryd.ntmps40
      go_wp2
      go_ret
      exact ⟨rfl, rfl⟩
    · rw [inB_f (by omega)]
      go_enter Tryd.func40, Tryd.ntmps40
      go_wp2
      go_ret
      exact ⟨rfl, rfl⟩
  · rw [inB_f (by omega)]
    go_enter Tryd.func40, Tryd.ntmps40
    go_wp2
    go_ret
    exact ⟨rfl, rfl⟩

theorem num_whole {l : List UInt8} (h : (1 ≤ lead l ∧ lead l ≤ 9) ∧ lead l = l.length) : numL l 9 = (dnum (l.take (lead l)) : Int) := by
  have ha := lead_all l
  rw [h.2, List.take_length] at ha
  rw [h.2, List.take_length]
  unfold numL
  rw [if_pos ⟨by omega, ha⟩]
theorem num_not {l : List UInt8} (h : ¬ ((1 ≤ lead l ∧ lead l ≤ 9) ∧ lead l = l.length)) : numL l 9 < 0 := by
  unfold numL
  by_cases ha : allDig l = true
  · have := lead_whole l ha
    rw [if_neg (by omega)]; omega
  · rw [if_neg (by simp [ha])]; omega
theorem rst_data (s : ByteArray) (h : 1 ≤ lead s.data.toList ∧ lead s.data.toList ≤ 9) : (rstV s).data.toList = s.data.toList.drop (lead s.data.toList) := by
  unfold rstV; rw [if_pos h, Lib.extract_data]; exact List.take_of_length_le (by simp)
theorem rst_size (s : ByteArray) : (rstV s).size ≤ s.size := by
  unfold rstV; split
  · simp
  · exact Nat.le_refl _
theorem empty_f {s : ByteArray} (h : s.data.toList ≠ []) : s.toList.isEmpty = false := by
  rw [Lib.toList_data]
  cases hq : s.data.toList with
  | nil => exact absurd hq h
  | cons a t => rfl
theorem size_pos {s : ByteArray} (h : s.data.toList ≠ []) : 1 ≤ s.size := by
  rcases Nat.eq_zero_or_pos s.size with e | e
  · exact absurd (List.eq_nil_of_length_eq_zero (by simpa using e)) h
  · exact e

set_option maxRecDepth 100000 in
set_option maxHeartbeats 4000000 in
theorem implAgeOf (s : ByteArray) (w : World) (hs : s.size ≤ 1048576) (hT : TabsU w) :
    Calls Tryd.prog 18 #[.string s] w fun e w' => e = .returned (.int .i64 (ageV s.data.toList)) ∧ Below w.heap.size w w' := by
  have hlen : s.data.toList.length = s.size := by simp
  have CR := Lib.hid (fun (t : ByteArray) W (h : t.size ≤ 1048576) => implReadCount t W (by unfold maxLen; omega))
  have CU := Lib.hid (fun (t : ByteArray) W (hw : Below w.heap.size w W) (h : t.size ≤ 1048576) => implUnitAhead t W (hT.on hw) (by unfold maxLen; omega))
  have CI := Lib.hid implIsTimeA
  clear hT
  obtain ⟨T, hT⟩ : ∃ T, ageV s.data.toList = T := ⟨_, rfl⟩
  have HT := Lib.hid hT
  rw [hT]
  clear hT
  go_enter Tryd.func18, Tryd.ntmps18
  go_wp2
  refine wp_scope_jumps 0 (fun a' w' => ∃ t : Array Value, a' = { tmps := t, defers := [] } ∧ t.size = 42 ∧ Hid (T = -1) ∧ Below w.heap.size w w') (fun _ _ => 0) rfl ?_ ?_
  · go_wp2_with fail
    refine (CR.out _ _ hs).mono ?_
    rintro e W1 ⟨rfl, hb1⟩
    obtain ⟨r1, hr1⟩ : ∃ r, rstV s = r := ⟨_, rfl⟩
    obtain ⟨n1, hn1⟩ : ∃ n, cntV s = n := ⟨_, rfl⟩
    rw [hr1, hn1]
    have HR := Lib.hid hr1
    have HN := Lib.hid hn1
    clear hr1 hn1
    by_cases h0 : s.data.toList = []
    · have he : r1.toList = [] := by rw [← HR.out]; unfold rstV; rw [h0]; simp [lead]; rw [Lib.toList_data]; exact h0
      have HV := Lib.hid (show T = n1 by rw [← HT.out, ← HN.out, h0]; unfold cntV ageV; rw [h0]; simp [lead])
      clear h0 hlen
      go_wp2
      simp only [Exit.jump]
      go_ret
      exact ⟨ret_int HV.out.symm, hb1⟩
    by_cases h1 : (1 ≤ lead s.data.toList ∧ lead s.data.toList ≤ 9) ∧ lead s.data.toList = s.data.toList.length
    · have he : r1.toList = [] := by rw [← HR.out, show (rstV s).toList = _ from (Lib.toList_data _).trans (rst_data s h1.1), h1.2]; simp
      have HV := Lib.hid (show T = n1 by
        rw [← HT.out, ← HN.out]
        unfold ageV
        rw [if_neg h0, num_whole h1, if_pos (by omega)]
        unfold cntV
        rw [if_pos h1.1])
      clear h0 h1 hlen
      go_wp2
      simp only [Exit.jump]
      go_ret
      exact ⟨ret_int HV.out.symm, hb1⟩
    have hne : r1.data.toList ≠ [] := by
      rw [← HR.out]
      by_cases hc : 1 ≤ lead s.data.toList ∧ lead s.data.toList ≤ 9
      · rw [rst_data s hc]
        intro e
        have := congrArg List.length e
        have h2 := lead_le s.data.toList
        simp at this h2
        exact h1 ⟨hc, by simp; omega⟩
      · unfold rstV; rw [if_neg hc]; exact h0
    have he := empty_f hne
    have HA := Lib.hid (show ageL (s.size + 1) s.data.toList 0 = T by
      rw [← HT.out]; unfold ageV; rw [if_neg h0, if_neg (by have := num_not h1; omega), hlen])
    clear h0 h1 hlen hne
    go_wp2
    go_loopw [3, 4, 5, 6] (fun xv _ rv _ wr => ∃ (x : Int) (r : ByteArray) (f : Nat), xv = .int .i64 x ∧ rv = .string r ∧ 0 ≤ x ∧ x ≤ 253402300799 ∧ r.size ≤ 1048576 ∧ r.size < f ∧ Hid (ageL f r.data.toList x = T) ∧ Below w.heap.size w wr) (fun _ _ rv _ _ => match rv with | .string t => t.size | _ => 0)
    case atStart => exact ⟨0, s, s.size + 1, rfl, rfl, by omega, by omega, hs, by omega, HA, hb1⟩
    case round =>
      clear he
      obtain ⟨x, r, f, rfl, rfl, hx0, hx1, hrs, hf, HA, hb⟩ := hrel
      obtain ⟨f, rfl⟩ : ∃ g, f = g + 1 := ⟨f - 1, by omega⟩
      by_cases hr0 : r.data.toList = []
      · have he : r.toList = [] := by rw [Lib.toList_data]; exact hr0
        have HE := Lib.hid (show T = x by rw [← HA.out, hr0, ageL_nil])
        clear hr0
        go_wp2
        simp only [Exit.jump]
        go_ret
        exact ⟨ret_int HE.out.symm, hb⟩
      have he := empty_f hr0
      have HR0 := Lib.hid hr0
      clear hr0
      go_wp2_with fail
      refine (CR.out _ _ hrs).mono ?_
      rintro e W2 ⟨rfl, hb2⟩
      have hB2 := hb.trans (hb2.mono hb.size)
      obtain ⟨r2, hr2⟩ : ∃ t, rstV r = t := ⟨_, rfl⟩
      have hrs2 : r2.size ≤ 1048576 := by rw [← hr2]; exact Nat.le_trans (rst_size r) hrs
      obtain ⟨n2, hn2⟩ : ∃ n, cntV r = n := ⟨_, rfl⟩
      rw [hr2, hn2]
      have HR2 := Lib.hid hr2
      have HN2 := Lib.hid hn2
      have HB2 := Lib.hid hB2
      clear hr2 hn2 hb2 hB2
      go_wp2_with fail
      refine (CU.out _ _ HB2.out hrs2).mono ?_
      rintro e W3 ⟨rfl, hb3⟩
      have hB3 := HB2.out.trans (hb3.mono HB2.out.size)
      obtain ⟨u, hu⟩ : ∃ u, unitV r2.data.toList = u := ⟨_, rfl⟩
      rw [hu]
      have HU := Lib.hid hu
      clear hu hb3
      by_cases hc : 1 ≤ lead r.data.toList ∧ lead r.data.toList ≤ 9
      rotate_left
      · have HB := Lib.hid (show T = -1 by rw [← HA.out]; exact ageL_bad HR0.out (fun h => hc h.1))
        obtain rfl : n2 = -1 := by rw [← HN2.out]; exact if_neg hc
        clear hc
        go_wp2
        go_step3
        exact ⟨rfl, _, rfl, rfl, HB, hB3⟩
      have hn0 : 0 ≤ n2 := by rw [← HN2.out]; unfold cntV; rw [if_pos hc]; omega
      have hn9 : n2 ≤ 999999999 := by rw [← HN2.out]; unfold cntV; rw [if_pos hc]; exact dnum_lead hc.2
      have HD := Lib.hid (show r2.data.toList = r.data.toList.drop (lead r.data.toList) by rw [← HR2.out]; exact rst_data r hc)
      have HN3 := Lib.hid (show (dnum (r.data.toList.take (lead r.data.toList)) : Int) = n2 by rw [← HN2.out]; unfold cntV; rw [if_pos hc])
      have HC := Lib.hid hc
      clear hc
      by_cases g4 : u = 0
      · have HB := Lib.hid (show T = -1 by rw [← HA.out]; exact ageL_bad HR0.out (fun h => h.2 (by rw [← HD.out, HU.out, g4])))
        subst g4
        go_wp2
        go_step3
        exact ⟨rfl, _, rfl, rfl, HB, hB3⟩
      have hub : 0 ≤ u ∧ u ≤ 604800 := by
        rw [← HU.out]; unfold unitV
        split
        · omega
        · exact unitB_bd _
      have hne2 : r2.data.toList ≠ [] := fun e => g4 (by rw [← HU.out, e]; rfl)
      have hsz2 := size_pos hne2
      have hsz3 : (1 : Int) ≤ r2.size := by omega
      have HS := Lib.hid (show (unitV (r.data.toList.drop (lead r.data.toList))) ≠ 0 by rw [← HD.out, HU.out]; exact g4)
      have g4' : (u == 0) = false := by simpa using g4
      obtain ⟨hu0, hu1⟩ := hub
      obtain ⟨hm0, hm1⟩ := mul_bd hn0 hn9 hu0 hu1
      have HST := Lib.hid (ageL_step (f := f) (x := x) HR0.out ⟨HC.out, HS.out⟩)
      have HGR := Lib.hid (ageL_great (f := f) (x := x) HR0.out ⟨HC.out, HS.out⟩)
      rw [← HD.out, HU.out, HN3.out] at HST HGR
      clear hne2 g4
      by_cases g5 : x + n2 * u ≤ 253402300799
      · have HTi := Lib.hid (show inB (x + n2 * u) 0 253402300799 = true from inB_t (by omega) g5)
        have HX := Lib.hid (show (r2.extract 1 r2.size).data.toList = r.data.toList.drop (lead r.data.toList + 1) by
          rw [Lib.extract_data, HD.out, List.drop_drop]; exact List.take_of_length_le (by have := congrArg List.length HD.out; simp at this; simp; omega))
        have HSZ := Lib.hid (show r2.size ≤ r.size by rw [← HR2.out]; exact rst_size r)
        go_wp2_with (go_at_call 40; refine (CI.out _ _).mono ?_; rintro e w' ⟨rfl, rfl⟩; rw [HTi.out])
        go_roundw
        case rel => exact ⟨x + n2 * u, r2.extract 1 r2.size, f, by go_num, rfl, by omega, g5, by simp; omega, by have := HSZ.out; simp; omega, Lib.hid (by rw [← HA.out, HST.out g5, HX.out]), hB3⟩
        case measure => have := HSZ.out; simp; omega
      · have HB := Lib.hid (HGR.out g5)
        have HTi := Lib.hid (show inB (x + n2 * u) 0 253402300799 = false from inB_f (by omega))
        go_wp2_with (go_at_call 40; refine (CI.out _ _).mono ?_; rintro e w' ⟨rfl, rfl⟩; rw [HTi.out])
        go_step3
        exact ⟨rfl, _, rfl, rfl, Lib.hid (by rw [← HA.out, HB.out]), hB3⟩
  · rintro a' w' ⟨t, rfl, hz, HT, hb⟩
    have h2 : 2 < t.size := by omega
    go_wp2
    simp only [Exit.jump]
    refine bodyPost_ret (v := .int .i64 (-1)) (by simp [results, Tryd.results18, go_sem, h2]) rfl ⟨ret_int HT.out.symm, hb⟩
end Go.Proofs.YtbikcldkaogfmaaDoor
