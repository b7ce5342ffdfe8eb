/- MatchPath, of spec and of impl. Contracts of spec.Glob and impl.Glob. -/
import Derived.Test.YtipepbnmllbonaaGreatDoorM27
import Derived.Test.YtipepbnmllbonaaGreatDoorM13
import Derived.Test.YtipepbnmllbonaaGreatDoorM14
import Derived.Test.YtipepbnmllbonaaGreatDoorM7
namespace Go.Proofs.YtipepbnmllbonaaGreatDoor
open Go.RowKit

theorem mpath_no {p q : List UInt8} (h : namesO q = none) : mpathV p q = false := by unfold mpathV; rw [h]
theorem mpath_other {p q : List UInt8} (h : headIs 47 p = false) : mpathV p q = false := by
  unfold mpathV; cases namesO q <;> simp [h]
theorem mpath_some {r q : List UInt8} {ns : List (List UInt8)} (h : namesO q = some ns) : mpathV (47 :: r) q = fitsL (partsL r) ns := by
  unfold mpathV; rw [h]; rfl
theorem head47 {s : ByteArray} (h : s.data.toList.head? ≠ some 47) : headIs 47 s.data.toList = false := by
  cases hl : s.data.toList with
  | nil => rfl
  | cons c r =>
    rw [hl] at h
    simp only [headIs, beq_eq_false_iff_ne]
    intro e; subst e; exact h rfl
theorem text47 {s : ByteArray} (h : s.data.toList.head? = some 47) : ∃ r, s.data.toList = 47 :: r := by
  cases hl : s.data.toList with
  | nil => rw [hl] at h; cases h
  | cons c r => rw [hl] at h; have e : c = 47 := by simpa using h
                exact ⟨r, by rw [e]⟩

set_option maxRecDepth 100000 in
set_option maxHeartbeats 4000000 in
theorem implMatchPath (s q : ByteArray) (w : World) (hs : s.size ≤ 2000000) (hq : q.size ≤ 2000000) :
    Calls Tryz.prog 33 #[.string s, .string q] w fun e w' => e = .returned (.bool (mpathV s.data.toList q.data.toList)) ∧ Below w.heap.size w w' := by
  have hsz : s.data.toList.length = s.size := by simp
  have CN := Lib.hid (implNamesOf q w hq)
  have CP := Lib.hid (fun W => Tryz.strings_CutPrefix s ⟨#[47]⟩ W)
  rw [show (⟨#[47]⟩ : ByteArray).data.toList = [47] from rfl, head_text] at CP
  by_cases hh : s.data.toList.head? = some 47
  rotate_left
  · rw [decide_eq_false hh] at CP
    rw [mpath_other (head47 hh)]
    generalize (namesO q.data.toList).isSome = ok at CN
    generalize (namesO q.data.toList).getD [] = ns at CN
    generalize (⟨(Lib.trimPrefix s.data.toList [47]).toArray⟩ : ByteArray) = x at CP
    clear hh hsz
    cases ok
    all_goals
      go_enter Tryz.func33, Tryz.ntmps33
      go_wp2_with fail
      refine CN.out.mono ?_
      rintro e W1 ⟨v, rfl, hS, hb1⟩
      obtain ⟨a, cap, rfl, -⟩ := hS.rd
      clear hS
      go_wp2_with fail
      refine (CP.out _).mono ?_
      rintro e W2 ⟨rfl, hw⟩
      rw [hw]
      go_wp2
      go_ret
      exact ⟨rfl, hb1⟩
  rw [decide_eq_true hh] at CP
  obtain ⟨r, hr2⟩ := text47 hh
  rw [trim_text s r hr2] at CP
  have hrl : r.length + 1 = s.size := by rw [← hsz, hr2]; simp
  cases hno : namesO q.data.toList with
  | none =>
    rw [hno] at CN
    rw [mpath_no hno]
    generalize strOf r = x at CP
    simp only [Option.isSome_none, Option.getD_none] at CN
    clear hh hsz hr2 hrl hno
    go_enter Tryz.func33, Tryz.ntmps33
    go_wp2_with fail
    refine CN.out.mono ?_
    rintro e W1 ⟨v, rfl, hS, hb1⟩
    obtain ⟨a, cap, rfl, -⟩ := hS.rd
    clear hS
    go_wp2_with fail
    refine (CP.out _).mono ?_
    rintro e W2 ⟨rfl, hw⟩
    rw [hw]
    go_wp2
    go_ret
    exact ⟨rfl, hb1⟩
  | some ns =>
    rw [hno] at CN
    simp only [Option.isSome_some, Option.getD_some] at CN
    rw [hr2, mpath_some hno]
    have hns := (fit_mem (namesO_is hno).1).1
    have CS := Lib.hid (fun W => implSplit (strOf r) W (by rw [strOf_size]; omega))
    rw [strOf_data] at CS
    have hpn := parts_ne r
    have hpl := parts_len r
    have CE := Lib.hid (fun va vb W hA hB => implEqualFunc (partsL r) ns va vb W hA hB hpn (fun a ha => by have := parts_le r a ha; omega) (by omega) hns)
    generalize fitsL (partsL r) ns = T at CE
    generalize partsL r = ps at CS CE
    generalize strOf r = x at CP CS
    clear hh hsz hr2 hrl hno hpn hpl hns
    go_enter Tryz.func33, Tryz.ntmps33
    go_wp2_with fail
    refine CN.out.mono ?_
    rintro e W1 ⟨v, rfl, hS, hb1⟩
    have HS := Lib.hid hS.rd
    obtain ⟨a, cap, rfl, -⟩ := hS.rd
    clear hS
    go_wp2_with fail
    refine (CP.out _).mono ?_
    rintro e W2 ⟨rfl, hw⟩
    rw [hw]
    clear hw
    go_wp2_with fail
    refine (CS.out _).mono ?_
    rintro e W3 ⟨v3, rfl, hS3, hb3⟩
    have HS3 := Lib.hid hS3.rd
    have HS1 := Lib.hid (HS.out.on hb3)
    obtain ⟨a3, cap3, rfl, -⟩ := hS3.rd
    have HB := Lib.hid (hb1.trans (hb3.mono hb1.size))
    clear hS3 hb1 hb3 HS
    go_wp2_with fail
    refine (CE.out _ _ _ HS3.out HS1.out).mono ?_
    rintro e W4 ⟨rfl, hb4⟩
    go_wp2
    go_ret
    exact ⟨rfl, HB.out.trans (hb4.mono HB.out.size)⟩

theorem depth_none {q : List UInt8} (h : namesO q = none) : depthV q = -1 := by unfold depthV; rw [h]
theorem depth_some {q : List UInt8} {ns : List (List UInt8)} (h : namesO q = some ns) : depthV q = ns.length := by unfold depthV; rw [h]
theorem names_tail {q : List UInt8} {ns : List (List UInt8)} (h : namesO q = some ns) (hn : ns ≠ []) : ∃ t, q = 47 :: t ∧ partsL t = ns := by
  cases q with
  | nil => cases h
  | cons c t =>
    rw [namesO] at h
    split at h
    · rename_i hc
      subst hc
      split at h
      · cases h; exact absurd rfl hn
      · split at h
        · exact ⟨t, rfl, Option.some.inj h⟩
        · cases h
    · cases h

set_option maxRecDepth 100000 in
set_option maxHeartbeats 4000000 in
theorem specMatchPath (s q : ByteArray) (w : World) (hs : s.size ≤ 2000000) (hq : q.size ≤ 2000000) :
    Calls Tryz.prog 80 #[.string s, .string q] w fun e w' => e = .returned (.bool (mpathV s.data.toList q.data.toList)) ∧ Below w.heap.size w w' := by
  have hsz : s.data.toList.length = s.size := by simp
  have hqz : q.data.toList.length = q.size := by simp
  have CD := Lib.hid (specDepthOf q w (by unfold maxLen; omega))
  by_cases hd : depthV q.data.toList < 1
  · have hf : mpathV s.data.toList q.data.toList = false := by
      cases hno : namesO q.data.toList with
      | none => exact mpath_no hno
      | some ns =>
        rw [depth_some hno] at hd
        have hn : ns = [] := List.eq_nil_of_length_eq_zero (by omega)
        subst hn
        cases hh : headIs 47 s.data.toList with
        | false => exact mpath_other hh
        | true =>
          obtain ⟨r, hr⟩ := headIs_t hh
          rw [hr, mpath_some hno]
          exact fitsL_ne (by have := parts_ne r; intro e; exact this (List.eq_nil_of_length_eq_zero e))
    rw [hf]
    generalize depthV q.data.toList = n at CD hd
    clear hf hsz hqz
    go_enter Tryz.func80, Tryz.ntmps80
    go_wp2_with fail
    refine CD.out.mono ?_
    rintro e W1 ⟨rfl, hb1⟩
    go_wp2
    go_ret
    exact ⟨rfl, hb1⟩
  obtain ⟨ns, hno, hn1⟩ : ∃ ns, namesO q.data.toList = some ns ∧ ns ≠ [] := by
    cases hno : namesO q.data.toList with
    | none => rw [depth_none hno] at hd; omega
    | some ns => exact ⟨ns, rfl, by intro e; rw [depth_some hno, e] at hd; simp at hd⟩
  rw [depth_some hno] at CD
  have hlen : (ns.length : Int) ≥ 1 := by
    have : ns.length ≠ 0 := fun e => hn1 (List.eq_nil_of_length_eq_zero e)
    omega
  have hl6 : (ns.length : Int) ≤ 6 := by have := (fit_mem (namesO_is hno).1).1; omega
  clear hd
  by_cases hlong : 400 < s.size
  · have hli : 400 < (s.size : Int) := by omega
    rw [mpath_long (by omega)]
    clear hsz hqz hno hn1 hlong
    go_enter Tryz.func80, Tryz.ntmps80
    go_wp2_with fail
    refine CD.out.mono ?_
    rintro e W1 ⟨rfl, hb1⟩
    go_wp2
    go_ret
    exact ⟨rfl, hb1⟩
  have hli : ¬ 400 < (s.size : Int) := by omega
  by_cases h0 : s.size = 0
  · have hnil : s.data.toList = [] := List.eq_nil_of_length_eq_zero (by omega)
    have he : s.toList.isEmpty = true := by rw [Lib.toList_data, hnil]; rfl
    rw [mpath_other (by rw [hnil]; rfl)]
    clear hsz hqz hno hn1 hlong h0 hnil
    go_enter Tryz.func80, Tryz.ntmps80
    go_wp2_with fail
    refine CD.out.mono ?_
    rintro e W1 ⟨rfl, hb1⟩
    go_wp2
    go_ret
    exact ⟨rfl, hb1⟩
  have hpos : 0 < s.size := by omega
  have hposi : (0 : Int) < (s.size : Int) := by omega
  have he : s.toList.isEmpty = false := by
    rw [Lib.toList_data]
    cases h : s.data.toList with
    | nil => rw [h] at hsz; simp only [List.length_nil] at hsz; omega
    | cons => rfl
  have hhd := head_ne s hpos
  by_cases hc : s[0].toNat = 47
  rotate_left
  · have hcn : ((s[0].toNat : Int) != 47) = true := by simp; omega
    rw [mpath_other (head47 (by rw [hhd]; intro e; have := Option.some.inj e; rw [this] at hc; exact hc rfl))]
    clear hsz hqz hno hn1 hlong h0 hhd hc
    go_enter Tryz.func80, Tryz.ntmps80
    go_wp2_with fail
    refine CD.out.mono ?_
    rintro e W1 ⟨rfl, hb1⟩
    go_wp2
    go_ret
    exact ⟨rfl, hb1⟩
  have hcn : ((s[0].toNat : Int) != 47) = false := by simp; omega
  obtain ⟨r, hr2⟩ := text47 (s := s) (by rw [hhd, show s[0] = 47 from UInt8.toNat_inj.mp (by simpa using hc)])
  obtain ⟨t, hq2, hpt⟩ := names_tail hno hn1
  have hrl : r.length + 1 = s.size := by rw [← hsz, hr2]; simp
  have htl : t.length + 1 = q.size := by rw [← hqz, hq2]; simp
  have hqi : (0 : Int) < (q.size : Int) := by omega
  have hsl : ∀ W, (Instr.slice 9 (.string s) (some (.int .i64 1)) none none).run Tryz.prog W = .ok (.string (strOf r)) W := fun W => by
    rw [run_slice_string_l (w := W) (t := 9) (s := s) (kl := .i64) (l := 1) (ht := Tryz.underlying9) (h0 := by omega) (h1 := by omega)]
    rw [← tail_text s r hr2]; rfl
  have hql : ∀ W, (Instr.slice 9 (.string q) (some (.int .i64 1)) none none).run Tryz.prog W = .ok (.string (strOf t)) W := fun W => by
    rw [run_slice_string_l (w := W) (t := 9) (s := q) (kl := .i64) (l := 1) (ht := Tryz.underlying9) (h0 := by omega) (h1 := by omega)]
    rw [← tail_text q t hq2]; rfl
  rw [hr2, mpath_some hno]
  have C1 := Lib.hid (fun W => specParts (strOf r) W (by rw [strOf_size]; omega))
  have C2 := Lib.hid (fun W => specParts (strOf t) W (by rw [strOf_size]; omega))
  rw [strOf_data] at C1 C2
  rw [hpt] at C2
  have hpn := parts_ne r
  have HPL := Lib.hid (parts_le r)
  have hrl4 : r.length ≤ 400 := by omega
  have hpl := parts_len r
  have hpli : ((partsL r).length : Int) ≤ 401 := by omega
  generalize partsL r = ps at C1 hpn HPL hpli
  generalize strOf r = x at C1 hsl
  generalize strOf t = y at C2 hql
  clear hsz hqz hno hlong h0 hhd hc hr2 hq2 hpt hrl htl hpl
  obtain ⟨T, hT⟩ : ∃ T, fitsL ps ns = T := ⟨_, rfl⟩
  rw [hT]
  have HT := Lib.hid hT
  clear hT
  go_enter Tryz.func80, Tryz.ntmps80
  go_wp2_with fail
  refine CD.out.mono ?_
  rintro e W1 ⟨rfl, hb1⟩
  clear CD
  have hn1' := hn1
  go_wp2_with fail
  go_region_with (first | (go_at_call 73; refine (C1.out _).mono ?_; rintro e W2 ⟨v2, rfl, hS2, hb2⟩; (obtain ⟨g, cap, rfl, hg, hcap, hmx, hcell⟩ := hS2.rd.at hpn); (have HC := Lib.hid hcell); (have HB := Lib.hid (hb1.drew.trans (hb2.mono hb1.drew.size))); clear hcell hS2 C1 hb2) | (go_at_call 73; refine (C2.out _).mono ?_; rintro e W3 ⟨v3, rfl, hS3, hb3⟩; (obtain ⟨g3, cap3, rfl, hg3, hcap3, hmx3, hcell3⟩ := hS3.rd.at hn1); (have HC3 := Lib.hid hcell3); (have HC2 := Lib.hid (fun j hj => (hb3.cell (p := ⟨g, j, none⟩) hg).trans (HC.out j hj))); (have hg2 := Nat.lt_of_lt_of_le hg hb3.size); (have HB3 := Lib.hid (HB.out.trans (hb3.mono HB.out.size))); clear hcell3 hS3 C2 hb3 HC HB hg))
  all_goals
    unfold maxLen at hmx hmx3
    by_cases hl : ps.length = ns.length
    rotate_left
    · have hlb : (((ps.length : Int)) != (ns.length : Int)) = true := by simp; omega
      have hTf : T = false := by rw [← HT.out]; exact fitsL_ne hl
      subst hTf
      clear HT hl
      go_wp2
      go_ret
      exact ⟨rfl, HB3.out⟩
    have hlb : (((ps.length : Int)) != (ns.length : Int)) = false := by simp; omega
    have HL := Lib.hid hl
    clear hl
    go_wp2
    go_loopw [8] (fun iv wr => ∃ k : Nat, iv = .int .i64 k ∧ k ≤ ns.length ∧ Below W3.heap.size W3 wr ∧ Hid (fitsL (ps.drop k) (ns.drop k) = T)) (fun iv _ => ns.length - (intOf iv).toNat)
    case atStart => exact ⟨0, rfl, Nat.zero_le _, Below.refl _ _, Lib.hid (by rw [List.drop_zero, List.drop_zero]; exact HT.out)⟩
    case round =>
      clear HT
      obtain ⟨k, rfl, hk, hbl, HR⟩ := hrel
      by_cases h2 : k < ns.length
      · have h1 : k < ps.length := by have := HL.out; omega
        have h1i : (k : Int) < (ps.length : Int) := by omega
        have h2i : (k : Int) < (ns.length : Int) := by omega
        have hc1 : wr.drew.cell? ⟨g, k, none⟩ = some (.string (strOf ps[k])) := (hbl.cell (p := ⟨g, k, none⟩) hg2).trans (HC2.out k h1)
        have hc2 : wr.drew.cell? ⟨g3, k, none⟩ = some (.string (strOf ns[k])) := (hbl.cell (p := ⟨g3, k, none⟩) hg3).trans (HC3.out k h2)
        have HS := Lib.hid (HR.out.symm.trans (fitsL_step h1 h2))
        have hmk := HPL.out _ (List.getElem_mem h1)
        have CM := Lib.hid (fun W => specMatch (strOf ps[k]) (strOf ns[k]) (by rw [strOf_size]; unfold maxLen; omega) W)
        rw [strOf_data, strOf_data] at CM
        generalize strOf ps[k] = x1 at CM hc1
        generalize strOf ns[k] = y1 at CM hc2
        have HB := Lib.hid hbl
        cases hmb : matB ps[k] ns[k] with
        | true =>
          rw [hmb] at CM HS
          have HE := Lib.hid (show fitsL (ps.drop (k + 1)) (ns.drop (k + 1)) = T by rw [HS.out]; rfl)
          clear hbl HS hmb hmk
          go_wp2_with fail
          go_region_with (go_at_call 122; refine (CM.out _).mono ?_; rintro e W4 ⟨rfl, hb4⟩; (have HB4 := Lib.hid (HB.out.drew.trans (hb4.mono HB.out.drew.size))); clear hb4)
          all_goals
            go_wp2
            go_roundw
            case rel => exact ⟨k + 1, by go_num, by omega, HB4.out, HE⟩
            case measure => simp [intOf]; omega
        | false =>
          rw [hmb] at CM HS
          have hTf : T = false := by rw [HS.out]; rfl
          subst hTf
          clear hbl hmb hmk HS
          go_wp2_with fail
          go_region_with (go_at_call 122; refine (CM.out _).mono ?_; rintro e W4 ⟨rfl, hb4⟩; (have HB4 := Lib.hid (HB.out.drew.trans (hb4.mono HB.out.drew.size))); clear hb4)
          all_goals
            go_wp2
            go_ret
            exact ⟨rfl, HB3.out.trans (HB4.out.mono HB3.out.size)⟩
      · have h2i : ¬ (k : Int) < (ns.length : Int) := by omega
        have hTt : T = true := by rw [← HR.out]; exact fitsL_end (by have := HL.out; omega) (by omega)
        subst hTt
        have HB := Lib.hid hbl
        clear hbl HR
        go_wp2
        go_ret
        exact ⟨rfl, HB3.out.trans (HB.out.mono HB3.out.size)⟩
end Go.Proofs.YtipepbnmllbonaaGreatDoor
namespace Go.Proofs.YtipepbnmllbonaaGreatDoor
open Go.RowKit

/-- The paths that a pattern fits. -/
def fitsP (p : List UInt8) (ns : List Nd) : List (List UInt8) := (ns.filter fun n => mpathV p n.path).map fun n => n.path
def globV (ns : List Nd) (next : Int) (p : List UInt8) : List (List UInt8) := if treeB ns next then fitsP p ns else []
theorem fitsP_in {p : List UInt8} {ns : List Nd} {k : Nat} (h : k < ns.length) (e : mpathV p ns[k].path = true) : fitsP p (ns.take (k + 1)) = fitsP p (ns.take k) ++ [ns[k].path] := by
  unfold fitsP
  rw [List.take_succ_eq_append_getElem h, List.filter_append, List.map_append]
  simp [e]
theorem fitsP_out {p : List UInt8} {ns : List Nd} {k : Nat} (h : k < ns.length) (e : mpathV p ns[k].path = false) : fitsP p (ns.take (k + 1)) = fitsP p (ns.take k) := by
  unfold fitsP
  rw [List.take_succ_eq_append_getElem h, List.filter_append, List.map_append]
  simp [e]
theorem globV_len (ns : List Nd) (next : Int) (p : List UInt8) : (globV ns next p).length ≤ ns.length := by
  unfold globV fitsP
  split
  · rw [List.length_map]; exact List.length_filter_le _ _
  · simp
theorem strs_baseG {w : World} {B B' : Nat} {v : Value} {ls : List (List UInt8)} (h : Strs w B v ls) (hB : B' ≤ B) : Strs w B' v ls := owns_base h hB

set_option maxRecDepth 100000 in
set_option maxHeartbeats 8000000 in
theorem specGlob (w : World) (v : Value) (ns : List Nd) (next : Int) (p : List UInt8) (h : NRd w v ns) (hz : ∀ n ∈ ns, n.path.length ≤ 2000000 ∧ n.data.length ≤ 2000000) (hl : ns.length ≤ 1048576) (hp : p.length ≤ 2000000) :
    Calls Tryz.prog 34 #[.agg #[v, .int .i64 next], .string (strOf p)] w fun e w' => ∃ v, e = .returned v ∧ Strs w' w.heap.size v (globV ns next p) ∧ Below w.heap.size w w' := by
  obtain ⟨i0, hi, hz0, hzz, hz2⟩ := info_parts infoSt
  obtain ⟨a1, k1, rfl⟩ : ∃ a c, v = .slice a ns.length c := by obtain ⟨a, c, h, _⟩ := h; exact ⟨a, c, h⟩
  have hb0 : Below w.heap.size w (w.alloc (.cells #[.slice a1 ns.length k1, .int .i64 next] 26)) := (Below.refl _ _).alloc (Nat.le_refl _) _
  obtain ⟨wa, hwa⟩ : ∃ wa, w.alloc (.cells #[.slice a1 ns.length k1, .int .i64 next] 26) = wa := ⟨_, rfl⟩
  have hsa : wa.heap.size = w.heap.size + 1 := by rw [← hwa]; simp
  have BK := Lib.hid (show Blk wa w.heap.size #[.slice a1 ns.length k1, .int .i64 next] 26 by rw [← hwa]; exact Blk.new _ _ _)
  have HB0 := Lib.hid (hwa ▸ hb0)
  have HN0 := Lib.hid h
  have HZ := Lib.hid hz
  obtain ⟨b, hb⟩ : ∃ b, treeB ns next = b := ⟨_, rfl⟩
  obtain ⟨we, hwe⟩ : ∃ we, wa.alloc (.cells #[] 9) = we := ⟨_, rfl⟩
  have hse : we.heap.size = w.heap.size + 2 := by rw [← hwe]; simp [hsa]
  have hbe : Below wa.heap.size wa we := by rw [← hwe]; exact (Below.refl _ _).alloc (Nat.le_refl _) _
  have CT := Lib.hid (show Calls Tryz.prog 15 #[.agg #[.slice a1 ns.length k1, .int .i64 next]] we fun e w' => e = .returned (.bool b) ∧ Below we.heap.size we w' from hb ▸ specTreeOk we _ ns next ((h.on HB0.out).on hbe) hz)
  have HSE := Lib.hid (show Strs we (w.heap.size + 1) (.slice (some ⟨w.heap.size + 1, 0, none⟩) 0 0) [] by
    have h1 : Strs (wa.alloc (.cells #[] 9)) (w.heap.size + 1) (.slice (some ⟨wa.heap.size, 0, none⟩) 0 0) [] := World.ownsRow_lit wa #[] 0 (by omega) (by simp [maxLen]) (by simp)
    rw [hsa, hwe] at h1; exact h1)
  have BKE := Lib.hid (BK.out.on hbe)
  have HBE := Lib.hid hbe
  have e0 := BKE.out.cell 0
  have e1 := BKE.out.cell 1
  simp at e0 e1
  have HV := Lib.hid (show globV ns next p = if b then fitsP p ns else [] by unfold globV; rw [hb])
  have CM := Lib.hid (show ∀ (l : List UInt8) W, l.length ≤ 2000000 → Calls Tryz.prog 80 #[.string (strOf p), .string (strOf l)] W fun e w' => e = .returned (.bool (mpathV p l)) ∧ Below W.heap.size W w' from fun l W hl => by
    have := specMatchPath (strOf p) (strOf l) W (by rw [strOf_size]; exact hp) (by rw [strOf_size]; exact hl)
    rw [strOf_data, strOf_data] at this; exact this)
  have q0 := BK.out.cell 0
  have q1 := BK.out.cell 1
  simp at q0 q1
  clear h hz hb0 hb hbe
  cases b with
  | false =>
    go_enter Tryz.func34, Tryz.ntmps34
    go_wp2_with fail
    refine CT.out.mono ?_
    rintro e W2 ⟨rfl, hb2⟩
    have HS2 := Lib.hid (HSE.out.on hb2)
    have HB2 := Lib.hid (HB0.out.trans ((HBE.out.mono (by omega)).trans (hb2.mono (by omega))))
    clear hb2
    go_wp2
    go_ret
    exact ⟨_, rfl, by rw [HV.out]; exact strs_baseG HS2.out (Nat.le_succ _), HB2.out⟩
  | true =>
    go_enter Tryz.func34, Tryz.ntmps34
    go_wp2_with fail
    refine CT.out.mono ?_
    rintro e W2 ⟨rfl, hb2⟩
    have c0 := (BKE.out.on hb2).cell 0
    have HS0 := Lib.hid (HSE.out.on hb2)
    have HB2 := Lib.hid ((HBE.out.mono (show w.heap.size + 1 ≤ wa.heap.size by omega)).trans (hb2.mono (by omega)))
    simp at c0
    have hs2 := hb2.size
    clear hb2
    go_wp2
    go_loopw [5, 6] (fun out i W => ∃ (k : Nat) (acc : List (List UInt8)), k ≤ ns.length ∧ i = .int .i64 k ∧ Strs W (w.heap.size + 1) out acc ∧ Hid (acc = fitsP p (ns.take k)) ∧ acc.length ≤ k ∧ Below (w.heap.size + 1) wa W) (fun _ i _ => ns.length - (intOf i).toNat)
    case atStart => exact ⟨0, [], Nat.zero_le _, rfl, (by have h0 := HS0.out; exact h0), Lib.hid (by simp [fitsP]), Nat.le_refl _, HB2.out⟩
    case round =>
      obtain ⟨k, acc, hk, rfl, hS, HA, hal, hb⟩ := hrel
      have HB := Lib.hid hb
      have HS := Lib.hid hS
      have hsz := hb.size
      have HBW := Lib.hid (HB0.out.trans (hb.mono (Nat.le_succ _)))
      have BKW := Lib.hid (BK.out.below hb (by omega))
      have b0 := BKW.out.cell 0
      simp at b0
      clear hb hS
      by_cases hlt : k < ns.length
      rotate_left
      · have hki : ¬ (k : Int) < (ns.length : Int) := by omega
        go_wp2
        go_ret
        refine ⟨_, rfl, ?_, HBW.out⟩
        have he : acc = globV ns next p := by
          rw [HV.out, HA.out, List.take_of_length_le (by omega)]; rfl
        rw [← he]; exact strs_baseG HS.out (Nat.le_succ _)
      have hki : (k : Int) < (ns.length : Int) := by omega
      obtain ⟨hz1, _⟩ := HZ.out ns[k] (List.getElem_mem hlt)
      obtain ⟨g, cap, hs, hg, hlc, hcm, hc⟩ := HN0.out.at (by intro e; subst e; simp at hlt)
      simp only [Value.slice.injEq] at hs
      obtain ⟨rfl, _, rfl⟩ := hs
      unfold maxLen at hcm
      have hck := (hc k hlt).on hg HBW.out
      have HCK := Lib.hid (hc k hlt)
      have HIN := Lib.hid (fitsP_in (p := p) hlt)
      have HOUT := Lib.hid (fitsP_out (p := p) hlt)
      obtain ⟨nd, hnd⟩ : ∃ nd, ns[k] = nd := ⟨_, rfl⟩
      rw [hnd] at hz1 hck HIN HOUT HCK
      obtain ⟨d0, d1, d2, d3, d4, d5⟩ := hck
      have HND := Lib.hid hnd
      clear hc hnd
      have HS1 := HS
      have HB1 := HB
      cases hd : mpathV p nd.path with
      | true =>
        have HI := Lib.hid (HIN.out hd)
        go_wp2_with fail
        refine (CM.out _ _ hz1).mono ?_
        rintro e W3 ⟨rfl, hb3⟩
        rw [hd]
        have HS3 := Lib.hid (HS1.out.on hb3)
        have HB3 := Lib.hid (HB1.out.trans (hb3.mono (by omega)))
        have hs3 := hb3.size
        have m0 := (BKW.out.on hb3).cell 0
        have m1 := (((HCK.out.on hg HBW.out).on (by have := HBW.out.size; omega) hb3)).c0
        simp at m0
        clear hb3 hd
        go_wp2_with (at_builtin; refine wpList_append_own _ rfl _ _ 45 rfl (w.heap.size + 1) 9 i0 (.string ⟨#[]⟩) 1 16 Tryz.underlying45 hi hz0 hzz hz2 rfl (by decide) _ _ _ rfl (HS3.out.own.alloc _) ⟨W3.heap.size, 0, none⟩ 1 1 [.string (strOf nd.path)] rfl rfl (cell_one_new _ _ _) (by simp [Value.oneCell']) (by unfold maxLen; omega) (by omega) (by simp; omega) ?_; intro v' w1 hown' hgrow _)
        go_roundw
        case rel => exact ⟨k + 1, acc ++ [nd.path], by omega, by go_num, Strs.snoc rfl hown', Lib.hid (by rw [HI.out, HA.out]), by simp; omega, HS3.out.grown HB3.out (by omega) hgrow⟩
        case measure => simp [intOf]; omega
      | false =>
        have HI := Lib.hid (HOUT.out hd)
        go_wp2_with fail
        refine (CM.out _ _ hz1).mono ?_
        rintro e W3 ⟨rfl, hb3⟩
        rw [hd]
        have HS3 := Lib.hid (HS1.out.on hb3)
        have HB3 := Lib.hid (HB1.out.trans (hb3.mono (by omega)))
        have hs3 := hb3.size
        clear hb3 hd
        go_wp2
        go_roundw
        case rel => exact ⟨k + 1, acc, by omega, by go_num, HS3.out, Lib.hid (by rw [HI.out, HA.out]), by omega, HB3.out⟩
        case measure => simp [intOf]; omega

set_option maxRecDepth 100000 in
set_option maxHeartbeats 8000000 in
theorem implGlob (w : World) (v : Value) (ns : List Nd) (next : Int) (p : List UInt8) (h : NRd w v ns) (hz : ∀ n ∈ ns, n.path.length ≤ 2000000 ∧ n.data.length ≤ 2000000) (hl : ns.length ≤ 1048576) (hp : p.length ≤ 2000000) :
    Calls Tryz.prog 29 #[.agg #[v, .int .i64 next], .string (strOf p)] w fun e w' => ∃ v, e = .returned v ∧ Strs w' w.heap.size v (globV ns next p) ∧ Below w.heap.size w w' := by
  obtain ⟨i0, hi, hz0, hzz, hz2⟩ := info_parts infoSt
  obtain ⟨a1, k1, rfl⟩ : ∃ a c, v = .slice a ns.length c := by obtain ⟨a, c, h, _⟩ := h; exact ⟨a, c, h⟩
  have hb0 : Below w.heap.size w (w.alloc (.cells #[.slice a1 ns.length k1, .int .i64 next] 26)) := (Below.refl _ _).alloc (Nat.le_refl _) _
  obtain ⟨wa, hwa⟩ : ∃ wa, w.alloc (.cells #[.slice a1 ns.length k1, .int .i64 next] 26) = wa := ⟨_, rfl⟩
  have hsa : wa.heap.size = w.heap.size + 1 := by rw [← hwa]; simp
  have BK := Lib.hid (show Blk wa w.heap.size #[.slice a1 ns.length k1, .int .i64 next] 26 by rw [← hwa]; exact Blk.new _ _ _)
  have HB0 := Lib.hid (hwa ▸ hb0)
  have HN0 := Lib.hid h
  have HZ := Lib.hid hz
  obtain ⟨b, hb⟩ : ∃ b, treeB ns next = b := ⟨_, rfl⟩
  have CT := Lib.hid (show Calls Tryz.prog 16 #[.agg #[.slice a1 ns.length k1, .int .i64 next]] wa fun e w' => e = .returned (.bool b) ∧ Below wa.heap.size wa w' from hb ▸ implTreeOk wa _ ns next (h.on HB0.out) hz)
  have HV := Lib.hid (show globV ns next p = if b then fitsP p ns else [] by unfold globV; rw [hb])
  have CM := Lib.hid (show ∀ (l : List UInt8) W, l.length ≤ 2000000 → Calls Tryz.prog 33 #[.string (strOf p), .string (strOf l)] W fun e w' => e = .returned (.bool (mpathV p l)) ∧ Below W.heap.size W w' from fun l W hl => by
    have := implMatchPath (strOf p) (strOf l) W (by rw [strOf_size]; exact hp) (by rw [strOf_size]; exact hl)
    rw [strOf_data, strOf_data] at this; exact this)
  have q0 := BK.out.cell 0
  have q1 := BK.out.cell 1
  simp at q0 q1
  clear h hz hb0 hb
  cases b with
  | false =>
    go_enter Tryz.func29, Tryz.ntmps29
    go_wp2_with fail
    refine CT.out.mono ?_
    rintro e W2 ⟨rfl, hb2⟩
    have HB2 := Lib.hid (HB0.out.trans (hb2.mono (by omega)))
    clear hb2
    go_wp2
    go_ret
    exact ⟨_, rfl, by rw [HV.out]; exact Strs.nil _ _, HB2.out⟩
  | true =>
    go_enter Tryz.func29, Tryz.ntmps29
    go_wp2_with fail
    refine CT.out.mono ?_
    rintro e W2 ⟨rfl, hb2⟩
    have c0 := (BK.out.on hb2).cell 0
    have HB2 := Lib.hid (hb2.mono (show w.heap.size + 1 ≤ wa.heap.size by omega))
    simp at c0
    have hs2 := hb2.size
    clear hb2
    go_wp2
    go_loopw [5, 7, 14] (fun out _ i W => ∃ (k : Nat) (acc : List (List UInt8)), k ≤ ns.length ∧ i = .int .i64 k ∧ Strs W (w.heap.size + 1) out acc ∧ Hid (acc = fitsP p (ns.take k)) ∧ acc.length ≤ k ∧ Below (w.heap.size + 1) wa W) (fun _ _ i _ => ns.length - (intOf i).toNat)
    case atStart => exact ⟨0, [], Nat.zero_le _, rfl, Strs.nil _ _, Lib.hid (by simp [fitsP]), Nat.le_refl _, HB2.out⟩
    case round =>
      obtain ⟨k, acc, hk, rfl, hS, HA, hal, hb⟩ := hrel
      have HB := Lib.hid hb
      have HS := Lib.hid hS
      have hsz := hb.size
      have HBW := Lib.hid (HB0.out.trans (hb.mono (Nat.le_succ _)))
      have BKW := Lib.hid (BK.out.below hb (by omega))
      have b0 := BKW.out.cell 0
      simp at b0
      clear hb hS
      by_cases hlt : k < ns.length
      rotate_left
      · have hki : ¬ (k : Int) < (ns.length : Int) := by omega
        go_wp2
        go_ret
        refine ⟨_, rfl, ?_, HBW.out⟩
        have he : acc = globV ns next p := by
          rw [HV.out, HA.out, List.take_of_length_le (by omega)]; rfl
        rw [← he]; exact strs_baseG HS.out (Nat.le_succ _)
      have hki : (k : Int) < (ns.length : Int) := by omega
      obtain ⟨hz1, _⟩ := HZ.out ns[k] (List.getElem_mem hlt)
      obtain ⟨g, cap, hs, hg, hlc, hcm, hc⟩ := HN0.out.at (by intro e; subst e; simp at hlt)
      simp only [Value.slice.injEq] at hs
      obtain ⟨rfl, _, rfl⟩ := hs
      unfold maxLen at hcm
      have hck := (hc k hlt).on hg HBW.out
      have HCK := Lib.hid (hc k hlt)
      have HIN := Lib.hid (fitsP_in (p := p) hlt)
      have HOUT := Lib.hid (fitsP_out (p := p) hlt)
      obtain ⟨nd, hnd⟩ : ∃ nd, ns[k] = nd := ⟨_, rfl⟩
      rw [hnd] at hz1 hck HIN HOUT HCK
      obtain ⟨d0, d1, d2, d3, d4, d5⟩ := hck
      have HND := Lib.hid hnd
      clear hc hnd
      obtain ⟨W, hW⟩ : ∃ W, wr.alloc (.cells #[.string (strOf nd.path), .bool nd.dir, .int .i64 nd.mode, .int .i64 nd.time, .int .i64 nd.id, .string (strOf nd.data)] 37) = W := ⟨_, rfl⟩
      have hal2 : Below wr.heap.size wr W := by rw [← hW]; exact (Below.refl _ _).alloc (Nat.le_refl _) _
      have BKN := Lib.hid (show Blk W wr.heap.size #[.string (strOf nd.path), .bool nd.dir, .int .i64 nd.mode, .int .i64 nd.time, .int .i64 nd.id, .string (strOf nd.data)] 37 by rw [← hW]; exact Blk.new _ _ _)
      have n0 := BKN.out.cell 0
      simp at n0
      have HS1 := Lib.hid (HS.out.on hal2)
      have HB1 := Lib.hid (HB.out.trans (hal2.mono (by omega)))
      have hs1 := hal2.size
      clear hal2
      cases hd : mpathV p nd.path with
      | true =>
        have HI := Lib.hid (HIN.out hd)
        go_wp2_with fail
        refine (CM.out _ _ hz1).mono ?_
        rintro e W3 ⟨rfl, hb3⟩
        rw [hd]
        have HS3 := Lib.hid (HS1.out.on hb3)
        have HB3 := Lib.hid (HB1.out.trans (hb3.mono (by omega)))
        have hs3 := hb3.size
        have m0 := (BKN.out.on hb3).cell 0
        simp at m0
        clear hb3 hd
        go_wp2_with (at_builtin; refine wpList_append_own _ rfl _ _ 45 rfl (w.heap.size + 1) 9 i0 (.string ⟨#[]⟩) 1 16 Tryz.underlying45 hi hz0 hzz hz2 rfl (by decide) _ _ _ rfl (HS3.out.own.alloc _) ⟨W3.heap.size, 0, none⟩ 1 1 [.string (strOf nd.path)] rfl rfl (cell_one_new _ _ _) (by simp [Value.oneCell']) (by unfold maxLen; omega) (by omega) (by simp; omega) ?_; intro v' w1 hown' hgrow _)
        go_roundw
        case rel => exact ⟨k + 1, acc ++ [nd.path], by omega, by go_num, Strs.snoc rfl hown', Lib.hid (by rw [HI.out, HA.out]), by simp; omega, HS3.out.grown HB3.out (by omega) hgrow⟩
        case measure => simp [intOf]; omega
      | false =>
        have HI := Lib.hid (HOUT.out hd)
        go_wp2_with fail
        refine (CM.out _ _ hz1).mono ?_
        rintro e W3 ⟨rfl, hb3⟩
        rw [hd]
        have HS3 := Lib.hid (HS1.out.on hb3)
        have HB3 := Lib.hid (HB1.out.trans (hb3.mono (by omega)))
        have hs3 := hb3.size
        clear hb3 hd
        go_wp2
        go_roundw
        case rel => exact ⟨k + 1, acc, by omega, by go_num, HS3.out, Lib.hid (by rw [HI.out, HA.out]), by omega, HB3.out⟩
        case measure => simp [intOf]; omega
end Go.Proofs.YtipepbnmllbonaaGreatDoor
