/- The contract of spec.Clean. -/
import Derived.Test.YtcknohalbamjfaaDoorSpecClean
namespace Go.Proofs.YtcknohalbamjfaaDoor
open Go.RowKit

theorem Strs.cut {w : World} {B g n cap : Nat} {ls : List (List UInt8)} (h : Strs w B (.slice (some ⟨g, 0, none⟩) n cap) ls) (m : Nat) (hm : m ≤ ls.length) : Strs w B (.slice (some ⟨g, 0, none⟩) m cap) (ls.take m) := by
  rcases h.2 with ⟨hv, _⟩ | ⟨g', cap', cur, hv, hb, hg, hc, hmx, hs, ht⟩
  · cases hv
  · cases hv
    unfold Strs
    rw [List.length_take, Nat.min_eq_left hm]
    refine ⟨by simp; omega, .inr ⟨g, cap, cur, rfl, hb, hg, by omega, hmx, hs, ?_⟩⟩
    rw [Nat.mul_one, List.map_take, ← ht, Nat.mul_one, List.take_take, Nat.min_eq_left hm]
theorem clean_other {l : List UInt8} (h : l.head? ≠ some 47) : cleanV l = [] := by unfold cleanV; rw [if_neg h]
theorem depth_left (l : List UInt8) : depthV (pathL (leftC l)) = if fit (leftC l) then ((leftC l).length : Int) else -1 := by
  unfold depthV
  rw [namesO_free (left_free l)]
  by_cases h : fit (leftC l) = true
  · rw [if_pos h, if_pos h]
  · rw [if_neg h, if_neg h]
theorem step_empty (left : List (List UInt8)) {p : List UInt8} (h : p = [] ∨ p = [46]) : stepC left p = left := by unfold stepC; rw [if_pos h]
theorem step_up (left : List (List UInt8)) : stepC left [46, 46] = left.take (left.length - 1) := by
  unfold stepC; rw [if_neg (by simp), if_pos rfl, List.dropLast_eq_take]
theorem step_other (left : List (List UInt8)) {p : List UInt8} (h1 : p ≠ []) (h2 : p ≠ [46]) (h3 : p ≠ [46, 46]) : stepC left p = left ++ [p] := by
  unfold stepC; rw [if_neg (by rintro (e | e); exact h1 e; exact h2 e), if_neg h3]
theorem fold_take (ps : List (List UInt8)) (k : Nat) (h : k < ps.length) : (ps.take (k + 1)).foldl stepC [] = stepC ((ps.take k).foldl stepC []) ps[k] := by
  rw [List.take_succ_eq_append_getElem h, List.foldl_append]; rfl
theorem strOf_isEmpty (l : List UInt8) : (strOf l).toList.isEmpty = l.isEmpty := by rw [Lib.toList_data, strOf_data]
theorem strOf_is (l m : List UInt8) : ((strOf l).toList == m) = (l == m) := by rw [Lib.toList_data, strOf_data]

set_option maxHeartbeats 4000000 in
theorem specClean (s : ByteArray) (w : World) (hs : s.size ≤ 1500000) :
    Calls Tryd.prog 16 #[.string s] w fun e w' => e = .returned (.string (strOf (cleanV s.data.toList))) ∧ Below w.heap.size w w' := by
  have hsz : s.data.toList.length = s.size := by simp
  by_cases h0 : s.size = 0
  · have hnil : s.data.toList = [] := List.eq_nil_of_length_eq_zero (by omega)
    have he : s.toList.isEmpty = true := by rw [Lib.toList_data, hnil]; rfl
    have HD := Lib.hid (show cleanV s.data.toList = [] by rw [hnil]; rfl)
    clear h0 hnil
    go_enter Tryd.func16, Tryd.ntmps16
    go_wp2
    go_ret
    exact ⟨ret_str (by rw [HD.out]; rfl), Below.refl _ _⟩
  have hpos : 0 < s.size := by omega
  have hposi : (0 : Int) < (s.size : Int) := by omega
  have he : s.toList.isEmpty = false := by
    rw [Lib.toList_data]
    cases h : s.data.toList with
    | nil => rw [h] at hsz; simp only [List.length_nil] at hsz; omega
    | cons => rfl
  have hhd := head_ne s hpos
  by_cases hc : s[0].toNat = 47
  rotate_left
  · have hcn : ((s[0].toNat : Int) != 47) = true := by simp; omega
    have HD := Lib.hid (clean_other (l := s.data.toList) (by rw [hhd]; intro e; have := Option.some.inj e; rw [this] at hc; exact hc rfl))
    clear h0 hhd hc
    go_enter Tryd.func16, Tryd.ntmps16
    go_wp2
    go_ret
    exact ⟨ret_str (by rw [HD.out]; rfl), Below.refl _ _⟩
  have hcn : ((s[0].toNat : Int) != 47) = false := by simp; omega
  have hh47 : s.data.toList.head? = some 47 := by rw [hhd, show s[0] = 47 from UInt8.toNat_inj.mp (by simpa using hc)]
  have CP := Lib.hid (specParts s w (by omega))
  have HW := Lib.hid (wt_left s.data.toList)
  have HD := Lib.hid (depth_left s.data.toList)
  have HV := Lib.hid (show cleanV s.data.toList = pathV (leftC s.data.toList) by unfold cleanV; rw [if_pos hh47])
  have HF := Lib.hid (show leftC s.data.toList = (partsL s.data.toList).foldl stepC [] from rfl)
  have hpl := parts_len s.data.toList
  have hpn := parts_ne s.data.toList
  rw [hsz] at HW hpl
  generalize cleanV s.data.toList = cv at HV
  generalize leftC s.data.toList = lc at HV HD HW HF
  generalize partsL s.data.toList = ps at CP HF hpl hpn
  obtain ⟨i0, hi, hz0, hz1, hz2⟩ := info_parts infoP
  clear h0 hhd hc hh47
  go_enter Tryd.func16, Tryd.ntmps16
  go_wp2_with fail
  refine CP.out.mono ?_
  rintro e W1 ⟨v, rfl, hS, hb⟩
  obtain ⟨g, cap, rfl, hg, hcap, hm, hcell⟩ := hS.rd.at hpn
  unfold maxLen at hm
  have HC := Lib.hid hcell
  have HB0 := Lib.hid hb
  clear hcell hS CP hpn hb
  go_wp2
  go_loopw [4, 5] (fun lv i W => ∃ (k : Nat) (left : List (List UInt8)), k ≤ ps.length ∧ i = .int .i64 k ∧ Strs W W1.heap.size lv left ∧ Below W1.heap.size W1 W ∧ left = (ps.take k).foldl stepC [] ∧ left.length ≤ k) (fun _ i _ => ps.length - (intOf i).toNat)
  case atStart => exact ⟨0, [], Nat.zero_le _, rfl, World.ownsRow_lit W1 #[] 0 (Nat.le_refl _) (by simp [maxLen]) (by simp), (Below.refl _ _).alloc (Nat.le_refl _) _, rfl, Nat.le_refl _⟩
  case round =>
    obtain ⟨k, left, hk, rfl, hS, hb, hleft, hll⟩ := hrel
    have HLEFT := Lib.hid hleft
    have HB := Lib.hid hb
    have hszW := hb.size
    clear hleft
    by_cases h1 : k < ps.length
    · have hck := (hb.cell (p := ⟨g, k, none⟩) hg).trans (HC.out k h1)
      have hki : (k : Int) < (ps.length : Int) := by omega
      have HT := Lib.hid (fold_take ps k h1)
      rw [← HLEFT.out] at HT
      clear hb
      generalize hp : ps[k] = p at hck HT
      clear hp
      by_cases e1 : p = []
      · subst e1
        have he1 : (strOf []).toList.isEmpty = true := by rw [strOf_isEmpty]; rfl
        have HS := Lib.hid (step_empty left (p := []) (.inl rfl))
        generalize strOf [] = x at he1 hck
        go_wp2
        go_roundw
        case rel => exact ⟨k + 1, left, by omega, by go_num, hS, HB.out, by rw [HT.out, HS.out], by omega⟩
        case measure => simp [intOf]; omega
      have he1 : (strOf p).toList.isEmpty = false := by rw [strOf_isEmpty]; cases p; exact absurd rfl e1; rfl
      by_cases e2 : p = [46]
      · subst e2
        have he2 : ((strOf [46]).toList == [46]) = true := by rw [strOf_is]; rfl
        have HS := Lib.hid (step_empty left (p := [46]) (.inr rfl))
        generalize strOf [46] = x at he1 he2 hck
        go_wp2
        go_roundw
        case rel => exact ⟨k + 1, left, by omega, by go_num, hS, HB.out, by rw [HT.out, HS.out], by omega⟩
        case measure => simp [intOf]; omega
      have he2 : ((strOf p).toList == [46]) = false := by rw [strOf_is, beq_eq_false_iff_ne]; exact e2
      by_cases e3 : p = [46, 46]
      · subst e3
        have he3 : ((strOf [46, 46]).toList == [46, 46]) = true := by rw [strOf_is]; rfl
        have HS := Lib.hid (step_up left)
        generalize strOf [46, 46] = x at he1 he2 he3 hck
        by_cases hl0 : left = []
        · have hS2 := hS
          rw [hl0] at hS2
          obtain ⟨av, cv2, rfl, _⟩ := hS2.rd
          have HN := Lib.hid hl0
          clear hl0 hS2 e1 e2
          go_wp2
          go_roundw
          case rel => exact ⟨k + 1, left, by omega, by go_num, hS, HB.out, by rw [HT.out, HS.out, HN.out]; rfl, by omega⟩
          case measure => simp [intOf]; omega
        · obtain ⟨g2, cap2, rfl, hg2, hcap2, hm2, _⟩ := hS.rd.at hl0
          unfold maxLen at hm2
          have hlp : 1 ≤ left.length := by
            cases left with
            | nil => exact absurd rfl hl0
            | cons => simp
          have hlpi : (0 : Int) < (left.length : Int) := by omega
          have hcut := slice_to wr g2 left.length cap2 (left.length - 1) ((left.length : Int) - 1) (by omega) (by omega)
          have HS2 := Lib.hid (hS.cut (left.length - 1) (by omega))
          clear hl0 e1 e2 hS
          go_wp2
          go_roundw
          case rel => exact ⟨k + 1, left.take (left.length - 1), by omega, by go_num, HS2.out, HB.out, by rw [HT.out, HS.out], by rw [List.length_take]; omega⟩
          case measure => simp [intOf]; omega
      have he3 : ((strOf p).toList == [46, 46]) = false := by rw [strOf_is, beq_eq_false_iff_ne]; exact e3
      have HS := Lib.hid (step_other left e1 e2 e3)
      generalize hx : strOf p = x at he1 he2 he3 hck
      have HX := Lib.hid hx
      clear hx e1 e2 e3
      go_wp2_with (at_builtin; refine wpList_append_own _ rfl _ _ 37 rfl W1.heap.size 9 i0 (.string ⟨#[]⟩) 1 16 Tryd.underlying37 hi hz0 hz1 hz2 rfl (by decide) _ _ _ rfl (hS.own.alloc _) ⟨wr.heap.size, 0, none⟩ 1 1 [.string x] rfl rfl (cell_one_new _ _ _) (by simp [Value.oneCell']) (by unfold maxLen; omega) (by omega) (by simp; omega) ?_; intro v' w1 hown' hgrow _)
      go_roundw
      case rel => exact ⟨k + 1, left ++ [p], by omega, by go_num, Strs.snoc HX.out.symm hown', hS.grown HB.out hszW hgrow, by rw [HT.out, HS.out], by simp; omega⟩
      case measure => simp [intOf]; omega
    · have hke : k = ps.length := by omega
      have hki : ¬ (k : Int) < (ps.length : Int) := by omega
      have hl2 : left = lc := by rw [HLEFT.out, hke, List.take_length, HF.out]
      subst hl2
      have hjl : (joinT left).length ≤ s.size + 1 := by rw [← wt_joinT]; exact HW.out
      have CO := Lib.hid (specOf wr _ left hS.rd (by omega) (by omega))
      have hpl2 : (pathL left).length ≤ 2000000 := by
        by_cases hn : left = []
        · rw [hn]; decide
        · rw [pathL_ne hn]; omega
      have CD := Lib.hid (fun W => specDepthOf (strOf (pathL left)) W (by rw [strOf_size]; unfold maxLen; omega))
      rw [strOf_data, HD.out] at CD
      have HB2 := Lib.hid (HB0.out.trans (HB.out.mono HB0.out.size))
      clear hS hb hjl hpl2 hke HW
      cases hf : fit left with
      | true =>
        have HR := Lib.hid (show strOf cv = strOf (pathL left) by rw [HV.out]; unfold pathV; rw [hf]; rfl)
        rw [hf, if_pos rfl] at CD
        generalize strOf (pathL left) = out at CO CD HR
        go_wp2_with (first
          | (go_at_call 40; refine CO.out.mono ?_; rintro e w2 ⟨rfl, hb2⟩)
          | (go_at_call 31; refine (CD.out _).mono ?_; rintro e w3 ⟨rfl, hb3⟩))
        go_ret
        exact ⟨ret_str (by rw [HR.out]), HB2.out.trans ((hb2.trans (hb3.mono hb2.size)).mono HB2.out.size)⟩
      | false =>
        have HR := Lib.hid (show cv = [] by rw [HV.out]; unfold pathV; rw [hf]; rfl)
        rw [hf, if_neg (by simp)] at CD
        generalize strOf (pathL left) = out at CO CD
        go_wp2_with (first
          | (go_at_call 40; refine CO.out.mono ?_; rintro e w2 ⟨rfl, hb2⟩)
          | (go_at_call 31; refine (CD.out _).mono ?_; rintro e w3 ⟨rfl, hb3⟩))
        go_ret
        exact ⟨ret_str (by rw [HR.out]; rfl), HB2.out.trans ((hb2.trans (hb3.mono hb2.size)).mono HB2.out.size)⟩
end Go.Proofs.YtcknohalbamjfaaDoor
