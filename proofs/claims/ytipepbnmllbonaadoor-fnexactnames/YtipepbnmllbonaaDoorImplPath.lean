/- Contracts of impl.namesFit, strings.Split at a stroke, impl.namesOf, pathOf, firstNames, DepthOf, PathOk. -/
import Derived.Test.YtipepbnmllbonaaDoorShelf
import Derived.Test.YtipepbnmllbonaaDoorImplName
import Derived.Test.YtipepbnmllbonaaDoorSpecPath
import Derived.Lib.SplitLaws
import Derived.Lib.Join
namespace Go.Proofs.YtipepbnmllbonaaDoor
open Go.RowKit

set_option maxHeartbeats 1000000 in
theorem implFit (w : World) (v : Value) (ls : List (List UInt8)) (h : Rd w v ls) :
    Calls Tryd.prog 48 #[v] w fun e w' => e = .returned (.bool (fit ls)) ∧ Below w.heap.size w w' := by
  have HFIT := Lib.hid (show fit ls = (decide (ls.length ≤ 6) && ls.all nameB) from rfl)
  by_cases hn : ls = []
  · subst hn
    obtain ⟨a, cap, rfl, _⟩ := h
    go_enter Tryd.func48, Tryd.ntmps48
    go_wp2
    go_loop [10] (fun i => i = .int .i64 0) (fun _ => 0)
    case atStart => rfl
    case round =>
      subst hrel
      go_wp2
      go_ret
      exact ⟨rfl, Below.refl _ _⟩
  obtain ⟨g, cap, rfl, hg, hcap, hm, hcell⟩ := h.at hn
  unfold maxLen at hm
  have HC := Lib.hid hcell
  clear hcell h hn
  by_cases h6 : 6 < ls.length
  · have h6i : 6 < (ls.length : Int) := by omega
    go_enter Tryd.func48, Tryd.ntmps48
    go_wp2
    go_ret
    exact ⟨ret_bool (by rw [HFIT.out, decide_eq_false (by omega)]; rfl), Below.refl _ _⟩
  have h6i : ¬ 6 < (ls.length : Int) := by omega
  go_enter Tryd.func48, Tryd.ntmps48
  go_wp2
  go_loopw [10] (fun i W => ∃ k : Nat, k ≤ ls.length ∧ i = .int .i64 k ∧ (ls.take k).all nameB = true ∧ Below w.heap.size w W) (fun i _ => ls.length - (intOf i).toNat)
  case atStart => exact ⟨0, Nat.zero_le _, rfl, rfl, Below.refl _ _⟩
  case round =>
    obtain ⟨k, hk, rfl, hd, hb⟩ := hrel
    have HA := Lib.hid hd
    have HB := Lib.hid hb
    clear hd
    by_cases h1 : k < ls.length
    · have hck := (hb.cell (p := ⟨g, k, none⟩) hg).trans (HC.out k h1)
      have hki : (k : Int) < (ls.length : Int) := by omega
      have HT := Lib.hid (show (ls.take (k + 1)).all nameB = ((ls.take k).all nameB && nameB ls[k]) by rw [List.take_succ_eq_append_getElem h1, List.all_append]; simp)
      have CN := implNameOk (strOf ls[k]) wr
      rw [strOf_data] at CN
      generalize strOf ls[k] = pk at CN hck
      clear hb
      cases hn : nameB ls[k] with
      | true =>
        rw [hn] at CN HT
        go_wp2_with (go_at_call 54; refine CN.mono ?_; rintro e w1 ⟨rfl, hb1⟩)
        go_roundw
        case rel => exact ⟨k + 1, by omega, by go_num, by rw [HT.out, HA.out]; rfl, HB.out.trans (hb1.mono HB.out.size)⟩
        case measure => simp [intOf]; omega
      | false =>
        rw [hn] at CN HT
        go_wp2_with (go_at_call 54; refine CN.mono ?_; rintro e w1 ⟨rfl, hb1⟩)
        go_ret
        have hall : ls.all nameB = false := by rw [← List.take_append_drop (k + 1) ls, List.all_append, HT.out]; simp
        exact ⟨ret_bool (by rw [HFIT.out, hall]; simp), HB.out.trans (hb1.mono HB.out.size)⟩
    · have hke : k = ls.length := by omega
      have hki : ¬ (k : Int) < (ls.length : Int) := by omega
      have hall := HA.out
      rw [hke, List.take_length] at hall
      have HALL := Lib.hid hall
      clear hall hke hb
      go_wp2
      go_ret
      exact ⟨ret_bool (by rw [HFIT.out, decide_eq_true (by omega), HALL.out]; rfl), HB.out⟩

/-! strings.Split at a stroke -/
theorem first_stroke : ∀ (l : List UInt8), 47 ∈ l → ∃ a t, l = a ++ 47 :: t ∧ 47 ∉ a
  | [], h => by simp at h
  | c :: l, h => by
    by_cases hc : c = 47
    · subst hc; exact ⟨[], l, rfl, by simp⟩
    · obtain ⟨a, t, e, ha⟩ := first_stroke l (by
        rcases List.mem_cons.1 h with h | h
        · exact absurd h.symm hc
        · exact h)
      exact ⟨c :: a, t, by rw [e]; rfl, by simp [ha]; exact fun e => hc e.symm⟩
theorem indexByte_at : ∀ (a t : List UInt8), 47 ∉ a → Lib.indexByte (a ++ 47 :: t) 47 = a.length
  | [], t, _ => by simp [Lib.indexByte]
  | c :: a, t, h => by
    simp only [List.mem_cons, not_or] at h
    have h1 : (c == 47) = false := by simp; exact fun e => h.1 e.symm
    rw [List.cons_append, Lib.indexByte, h1, indexByte_at a t h.2]
    have : ((a.length : Int) == -1) = false := by rw [beq_eq_false_iff_ne]; omega
    simp [this]
theorem indexByte_no : ∀ (l : List UInt8), 47 ∉ l → Lib.indexByte l 47 = -1
  | [], _ => rfl
  | c :: l, h => by
    simp only [List.mem_cons, not_or] at h
    have h1 : (c == 47) = false := by simp; exact fun e => h.1 e.symm
    rw [Lib.indexByte, h1, indexByte_no l h.2]; rfl
theorem splitK_parts : ∀ (k : Nat) (l : List UInt8), l.count 47 = k → Lib.splitK [47] 0 k l = partsL l
  | 0, l, h => by
    rw [parts_one (List.count_eq_zero.1 h)]; rfl
  | k + 1, l, h => by
    obtain ⟨a, t, rfl, ha⟩ := first_stroke l (List.count_pos_iff.1 (by omega))
    have h0 : a.count 47 = 0 := List.count_eq_zero.2 ha
    have h1 : t.count 47 = k := by rw [List.count_append, h0] at h; simp at h; omega
    rw [Lib.splitK, Lib.index_one, indexByte_at a t ha, parts_cut, parts_one ha]
    have : ((a.length : Int) == -1) = false := by rw [beq_eq_false_iff_ne]; omega
    rw [this]
    have e1 : (a ++ 47 :: t).take ((a.length : Int).toNat + 0) = a := by simp
    have e2 : (a ++ 47 :: t).drop ((a.length : Int).toNat + ([47] : List UInt8).length) = t := by
      rw [show (a.length : Int).toNat + ([47] : List UInt8).length = a.length + 1 by simp, List.drop_append]; simp
    simp only [Bool.false_eq_true, if_false]
    rw [e1, e2, splitK_parts k t h1]; rfl
theorem split_parts (s : ByteArray) : Lib.splitB ⟨#[47]⟩ 0 (Lib.countB s ⟨#[47]⟩) s = (partsL s.data.toList).map strOf := by
  have h := Lib.splitB_data ⟨#[47]⟩ 0 (Lib.countB s ⟨#[47]⟩) s
  rw [show (⟨#[47]⟩ : ByteArray).data.toList = [47] from rfl, splitK_parts _ _ (Lib.count_one 47 s.data.toList).symm] at h
  rw [← h, List.map_map]
  conv => lhs; rw [← List.map_id (Lib.splitB ⟨#[47]⟩ 0 (Lib.countB s ⟨#[47]⟩) s)]
  apply List.map_congr_left
  intro x _
  show x = strOf x.data.toList
  cases x; simp [strOf]

theorem genSplit47 (s : ByteArray) (w : World) (hs : s.size < 4294967281) :
    Calls Tryd.prog 53 #[.string s, .string ⟨#[47]⟩, .int .i64 0, .int .i64 (-1)] w fun e w' =>
      e = .returned (.slice (some ⟨w.heap.size, 0, none⟩) (Lib.splitB ⟨#[47]⟩ 0 (Lib.countB s ⟨#[47]⟩ + 1 - 1) s).length (Lib.countB s ⟨#[47]⟩ + 1)) ∧ w' = w.alloc (.cells (Lib.cellsOf (Lib.splitB ⟨#[47]⟩ 0 (Lib.countB s ⟨#[47]⟩ + 1 - 1) s) (Lib.countB s ⟨#[47]⟩ + 1)) 9) := by
  have hle := Lib.countB_le ⟨#[47]⟩ (by decide) s.size s (Nat.le_refl _)
  refine Any.strings_genSplit_core Tryd.lays221 (by kernel_rfl) s ⟨#[47]⟩ 0 (-1) (Lib.countB s ⟨#[47]⟩ + 1) w hs (by decide) (Nat.zero_le _) (fun x c hx => ?_) ?_ (by decide) (by decide) (by rw [if_pos (by decide)]; omega)
  · refine (Tryd.strings_Index_one x 47 _).mono fun e w' ⟨he, hw⟩ => ⟨?_, hw⟩
    rw [he]
    show _ = Ending.returned (.int .i64 (Lib.index x.data.toList [47]))
    rw [Lib.index_one]
  · refine (Tryd.strings_Count_one s 47 _).mono fun e w' ⟨he, hw⟩ => ⟨?_, hw⟩
    rw [he]
    show _ = Ending.returned (.int .i64 ((Lib.count s.data.toList [47] : Nat) : Int))
    rw [Lib.count_one]; rfl
theorem parts_len (l : List UInt8) : (partsL l).length ≤ l.length + 1 := by
  have := len_wt (partsL l); rw [wt_parts] at this; exact this

set_option maxHeartbeats 1000000 in
theorem implSplit (s : ByteArray) (w : World) (hs : s.size ≤ 2000000) :
    Calls Tryd.prog 47 #[.string s, .string ⟨#[47]⟩] w fun e w' => ∃ v, e = .returned v ∧ Strs w' w.heap.size v (partsL s.data.toList) ∧ Below w.heap.size w w' := by
  have CG := genSplit47 s w (by omega)
  rw [Nat.add_sub_cancel, split_parts] at CG
  have hlen : ((partsL s.data.toList).map strOf).length = Lib.countB s ⟨#[47]⟩ + 1 := by
    rw [← split_parts]; exact Lib.splitB_all ⟨#[47]⟩ (by decide) 0 _ s rfl
  have e2 : Lib.cellsOf ((partsL s.data.toList).map strOf) (Lib.countB s ⟨#[47]⟩ + 1) = (((partsL s.data.toList).map strOf).map Value.string).toArray := by rw [← hlen]; exact Lib.cellsOf_full _
  rw [e2, ← hlen] at CG
  have hpl := parts_len s.data.toList
  have hsz : s.data.toList.length = s.size := by simp
  rw [hsz] at hpl
  have HS := Lib.hid (show Strs (w.alloc (.cells (((partsL s.data.toList).map strOf).map Value.string).toArray 9)) w.heap.size (.slice (some ⟨w.heap.size, 0, none⟩) (partsL s.data.toList).length (partsL s.data.toList).length) (partsL s.data.toList) by
    have h := World.ownsRow_lit (base := w.heap.size) (e := 9) (size := 1) w (((partsL s.data.toList).map strOf).map Value.string).toArray (partsL s.data.toList).length (Nat.le_refl _) (by unfold maxLen; omega) (by simp)
    have e3 : (((partsL s.data.toList).map strOf).map Value.string).toArray.toList = (partsL s.data.toList).map fun l => Value.string (strOf l) := by simp
    rw [e3] at h
    exact h)
  rw [List.length_map] at CG
  generalize partsL s.data.toList = ps at CG HS
  clear hlen e2 hpl
  generalize ((ps.map strOf).map Value.string).toArray = arr at CG HS
  go_enter Tryd.func47, Tryd.ntmps47
  go_wp2_with (go_at_call 53; refine CG.mono ?_; rintro e w' ⟨rfl, hw⟩; rw [hw])
  go_ret
  exact ⟨_, rfl, HS.out, (Below.refl _ _).alloc (Nat.le_refl _) _⟩

/-! impl.namesOf -/
theorem head_text (s : ByteArray) : Lib.hasPrefix s.data.toList [47] = decide (s.data.toList.head? = some 47) := by
  unfold Lib.hasPrefix
  cases s.data.toList with
  | nil => rfl
  | cons c r =>
    simp only [List.isPrefixOf, Bool.and_true, List.head?_cons, Option.some.injEq]
    by_cases h : c = 47
    · subst h; rfl
    · rw [decide_eq_false h, beq_eq_false_iff_ne]; exact fun e => h e.symm
theorem trim_text (s : ByteArray) (r : List UInt8) (h : s.data.toList = 47 :: r) : (⟨(Lib.trimPrefix s.data.toList [47]).toArray⟩ : ByteArray) = strOf r := by
  unfold Lib.trimPrefix
  rw [head_text, h]; simp [strOf]

set_option maxHeartbeats 1000000 in
theorem implNamesOf (s : ByteArray) (w : World) (hs : s.size ≤ 2000000) :
    Calls Tryd.prog 40 #[.string s] w fun e w' => ∃ v, e = .returned (.tuple #[v, .bool (namesO s.data.toList).isSome]) ∧ Strs w' w.heap.size v ((namesO s.data.toList).getD []) ∧ Below w.heap.size w w' := by
  have hsz : s.data.toList.length = s.size := by simp
  cases hr : (s.data.toList == [47]) with
  | true =>
    have hr' : (s.toList == [47]) = true := by rw [lit_eq]; exact hr
    rw [beq_iff_eq.1 hr, show namesO [47] = some [] from rfl]
    clear hr
    go_enter Tryd.func40, Tryd.ntmps40
    go_wp2
    go_ret2
    exact ⟨_, rfl, Strs.nil _ _, Below.refl _ _⟩
  | false =>
    have hr' : (s.toList == [47]) = false := by rw [lit_eq]; exact hr
    have CP := Tryd.strings_CutPrefix s ⟨#[47]⟩ w
    rw [show (⟨#[47]⟩ : ByteArray).data.toList = [47] from rfl, head_text] at CP
    by_cases hh : s.data.toList.head? = some 47
    rotate_left
    · rw [decide_eq_false hh] at CP
      have hnone : namesO s.data.toList = none := by
        cases hl : s.data.toList with
        | nil => rfl
        | cons c r => rw [namesO, if_neg (by intro e; subst e; rw [hl] at hh; exact hh rfl)]
      rw [hnone]
      generalize (⟨(Lib.trimPrefix s.data.toList [47]).toArray⟩ : ByteArray) = q at CP
      clear hr hh hnone
      go_enter Tryd.func40, Tryd.ntmps40
      go_wp2_with (go_at_call 46; refine CP.mono ?_; rintro e w' ⟨rfl, hw⟩; rw [hw])
      go_ret2
      exact ⟨_, rfl, Strs.nil _ _, Below.refl _ _⟩
    rw [decide_eq_true hh] at CP
    obtain ⟨r, hr2⟩ : ∃ r, s.data.toList = 47 :: r := by
      cases hl : s.data.toList with
      | nil => rw [hl] at hh; cases hh
      | cons c r => rw [hl] at hh; have e : c = 47 := by simpa using hh
                    exact ⟨r, by rw [e]⟩
    rw [trim_text s r hr2] at CP
    have hrn : r ≠ [] := by intro e; subst e; rw [hr2] at hr; simp at hr
    have hrl : r.length + 1 = s.size := by rw [← hsz, hr2]; simp
    have HN := Lib.hid (show namesO s.data.toList = if fit (partsL r) then some (partsL r) else none by rw [hr2, namesO, if_pos rfl, if_neg hrn])
    have CS := implSplit (strOf r) w (by rw [strOf_size]; omega)
    rw [strOf_data] at CS
    generalize namesO s.data.toList = no at HN
    generalize partsL r = ps at CS HN
    generalize strOf r = rs at CP CS
    clear hr hh hr2 hrn hrl
    cases hf : fit ps with
    | false =>
      obtain rfl : no = none := by rw [HN.out, hf]; rfl
      go_enter Tryd.func40, Tryd.ntmps40
      go_wp2_with (first
        | (go_at_call 46; refine CP.mono ?_; rintro e w' ⟨rfl, hw⟩; rw [hw])
        | (go_at_call 47; refine CS.mono ?_; rintro e W1 ⟨v, rfl, hS, hb1⟩; have CF := implFit _ _ _ hS.rd)
        | (go_at_call 48; refine CF.mono ?_; rintro e W2 ⟨rfl, hb2⟩; rw [hf]))
      go_ret2
      exact ⟨_, rfl, Strs.nil _ _, hb1.trans (hb2.mono hb1.size)⟩
    | true =>
      obtain rfl : no = some ps := by rw [HN.out, hf]; rfl
      go_enter Tryd.func40, Tryd.ntmps40
      go_wp2_with (first
        | (go_at_call 46; refine CP.mono ?_; rintro e w' ⟨rfl, hw⟩; rw [hw])
        | (go_at_call 47; refine CS.mono ?_; rintro e W1 ⟨v, rfl, hS, hb1⟩; have CF := implFit _ _ _ hS.rd)
        | (go_at_call 48; refine CF.mono ?_; rintro e W2 ⟨rfl, hb2⟩; rw [hf]))
      go_ret2
      exact ⟨_, rfl, hS.on hb2, hb1.trans (hb2.mono hb1.size)⟩

theorem implDepthOf (s : ByteArray) (w : World) (hs : s.size ≤ 2000000) :
    Calls Tryd.prog 45 #[.string s] w fun e w' => e = .returned (.int .i64 (depthV s.data.toList)) ∧ Below w.heap.size w w' := by
  have CN := implNamesOf s w hs
  have HD := Lib.hid (show depthV s.data.toList = match namesO s.data.toList with | none => -1 | some ns => ns.length from rfl)
  generalize namesO s.data.toList = no at CN HD
  cases no with
  | none =>
    go_enter Tryd.func45, Tryd.ntmps45
    go_wp2_with (go_at_call 40; refine CN.mono ?_; rintro e w' ⟨v, rfl, hS, hb⟩)
    go_ret
    exact ⟨ret_int HD.out.symm, hb⟩
  | some ns =>
    go_enter Tryd.func45, Tryd.ntmps45
    go_wp2_with (go_at_call 40; refine CN.mono ?_; rintro e w' ⟨v, rfl, hS, hb⟩; obtain ⟨av, cv, rfl, _⟩ := hS.rd)
    go_ret
    exact ⟨ret_int HD.out.symm, hb⟩
theorem implPathOk (s : ByteArray) (w : World) (hs : s.size ≤ 2000000) :
    Calls Tryd.prog 37 #[.string s] w fun e w' => e = .returned (.bool (decide (0 < depthV s.data.toList))) ∧ Below w.heap.size w w' := by
  have CD := implDepthOf s w hs
  generalize depthV s.data.toList = d at CD
  go_enter Tryd.func37, Tryd.ntmps37
  go_wp2_with (go_at_call 45; refine CD.mono ?_; rintro e w' ⟨rfl, hb⟩)
  go_ret
  exact ⟨rfl, hb⟩
end Go.Proofs.YtipepbnmllbonaaDoor
