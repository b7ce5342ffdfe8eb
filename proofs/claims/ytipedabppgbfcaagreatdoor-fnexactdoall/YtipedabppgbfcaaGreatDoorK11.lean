/- The lines of a text, and the contract of spec.Lines. Contracts of spec.l04Parts, DepthOf, PathOk, l04Last, DirOf, BaseOf, Join, Under. -/
import Derived.Test.YtipedabppgbfcaaGreatDoorK10
set_option linter.all false
namespace Go.Proofs.YtipedabppgbfcaaGreatDoor
open Go.RowKit

/-- The lines of what is left, where cur has been gathered of the first one. -/
def linesGo : List UInt8 → List UInt8 → List (List UInt8)
  | cur, [] => if cur = [] then [] else [cur]
  | cur, c :: r => if c = 10 then cur :: linesGo [] r else linesGo (cur ++ [c]) r
def linesL (l : List UInt8) : List (List UInt8) := linesGo [] l

theorem linesGo_len : ∀ (r cur : List UInt8), (linesGo cur r).length ≤ r.length + 1
  | [], cur => by unfold linesGo; split <;> simp
  | c :: r, cur => by
    unfold linesGo
    split
    · have := linesGo_len r []; simp; omega
    · have := linesGo_len r (cur ++ [c]); simp; omega

theorem extract_str (s : ByteArray) (a b : Nat) : s.extract a b = strOf ((s.data.toList.drop a).take (b - a)) := Lib.extract_eq s a b

/-- The part of s between two places. -/
def cutL (s : ByteArray) (a b : Nat) : List UInt8 := (s.data.toList.drop a).take (b - a)
theorem cutL_snoc (s : ByteArray) (a k : Nat) (ha : a ≤ k) (h : k < s.size) : cutL s a (k + 1) = cutL s a k ++ [s[k]] := by
  unfold cutL
  rw [show k + 1 - a = (k - a) + 1 by omega, List.take_succ_eq_append_getElem (by simp; omega)]
  congr 1
  simp only [List.getElem_drop, List.cons.injEq, and_true]
  rw [show s[k] = s.data.toList[k]'(by simpa using h) from rfl]
  congr 1; omega
theorem cutL_self (s : ByteArray) (a : Nat) : cutL s a a = [] := by unfold cutL; simp
theorem cutL_all (s : ByteArray) (a : Nat) : cutL s a s.size = s.data.toList.drop a := by
  unfold cutL; exact List.take_of_length_le (by simp)
theorem drop_at (s : ByteArray) (k : Nat) (h : k < s.size) : s.data.toList.drop k = s[k] :: s.data.toList.drop (k + 1) := by
  rw [List.drop_eq_getElem_cons (by simpa using h)]; rfl

theorem lines_nl (s : ByteArray) (a k : Nat) (h : k < s.size) (hc : s[k].toNat = 10) :
    linesGo (cutL s a k) (s.data.toList.drop k) = cutL s a k :: linesGo (cutL s (k + 1) (k + 1)) (s.data.toList.drop (k + 1)) := by
  rw [drop_at s k h, linesGo, if_pos (UInt8.toNat_inj.mp (by simpa using hc)), cutL_self]
theorem lines_go (s : ByteArray) (a k : Nat) (ha : a ≤ k) (h : k < s.size) (hc : ¬ s[k].toNat = 10) :
    linesGo (cutL s a k) (s.data.toList.drop k) = linesGo (cutL s a (k + 1)) (s.data.toList.drop (k + 1)) := by
  rw [drop_at s k h, linesGo, if_neg (by intro e; apply hc; rw [e]; rfl), cutL_snoc s a k ha h]
theorem lines_end (s : ByteArray) (a k : Nat) (h : s.size ≤ k) (ha : a ≤ k) : linesGo (cutL s a k) (s.data.toList.drop k) = if a < s.size then [s.data.toList.drop a] else [] := by
  have e : s.data.toList.drop k = [] := List.drop_eq_nil_of_le (by simpa using h)
  have e2 : cutL s a k = s.data.toList.drop a := by unfold cutL; exact List.take_of_length_le (by simp; omega)
  rw [e, linesGo, e2]
  by_cases h2 : a < s.size
  · rw [if_pos h2, if_neg (by intro e3; have := congrArg List.length e3; simp at this; omega)]
  · rw [if_neg h2, if_pos (List.drop_eq_nil_of_le (by simp; omega))]

end Go.Proofs.YtipedabppgbfcaaGreatDoor
namespace Go.Proofs.YtipedabppgbfcaaGreatDoor
open Go.RowKit

/-- The slice v reads as the texts ls. -/
def Rd (w : World) (v : Value) (ls : List (List UInt8)) : Prop :=
  ∃ a cap, v = .slice a ls.length cap ∧ ls.length ≤ cap ∧ cap ≤ maxLen ∧ (ls = [] ∨ ∃ g, a = some ⟨g, 0, none⟩ ∧ g < w.heap.size ∧ ∀ j (hj : j < ls.length), w.cell? ⟨g, j, none⟩ = some (.string (strOf ls[j])))
theorem Strs.rd {w : World} {B : Nat} {v : Value} {ls : List (List UInt8)} (h : Strs w B v ls) : Rd w v ls := by
  rcases h.form with ⟨rfl, rfl⟩ | ⟨g, cap, rfl, _, hg, hc, _, hl, hm⟩
  · exact ⟨none, 0, rfl, Nat.le_refl _, Nat.zero_le _, .inl rfl⟩
  · exact ⟨_, cap, rfl, hl, hm, .inr ⟨g, rfl, hg, hc⟩⟩
theorem Rd.on {w w' : World} {v : Value} {ls : List (List UInt8)} (h : Rd w v ls) (hb : Below w.heap.size w w') : Rd w' v ls := by
  obtain ⟨a, cap, hv, hl, hm, h⟩ := h
  refine ⟨a, cap, hv, hl, hm, ?_⟩
  rcases h with h | ⟨g, ha, hg, hc⟩
  · exact .inl h
  · exact .inr ⟨g, ha, Nat.lt_of_lt_of_le hg hb.size, fun j hj => (hb.cell (p := ⟨g, j, none⟩) hg).trans (hc j hj)⟩
theorem Rd.at {w : World} {v : Value} {ls : List (List UInt8)} (h : Rd w v ls) (hn : ls ≠ []) : ∃ g cap, v = .slice (some ⟨g, 0, none⟩) ls.length cap ∧ g < w.heap.size ∧ ls.length ≤ cap ∧ cap ≤ maxLen ∧ ∀ j (hj : j < ls.length), w.cell? ⟨g, j, none⟩ = some (.string (strOf ls[j])) := by
  obtain ⟨a, cap, hv, hl, hm, h⟩ := h
  rcases h with h | ⟨g, rfl, hg, hc⟩
  · exact absurd h hn
  · exact ⟨g, cap, hv, hg, hl, hm, hc⟩

theorem infoSt : (Tryz.prog.info? 9).map (fun i => (i.zero, i.size, i.bytes)) = some (some (.string ⟨#[]⟩), 1, 16) := by kernel_rfl
theorem parts_nl (s : ByteArray) (a k : Nat) (h : k < s.size) (hc : s[k].toNat = 47) :
    partsGo (cutL s a k) (s.data.toList.drop k) = cutL s a k :: partsGo (cutL s (k + 1) (k + 1)) (s.data.toList.drop (k + 1)) := by
  rw [drop_at s k h, partsGo, if_pos (UInt8.toNat_inj.mp (by simpa using hc)), cutL_self]
theorem parts_go (s : ByteArray) (a k : Nat) (ha : a ≤ k) (h : k < s.size) (hc : ¬ s[k].toNat = 47) :
    partsGo (cutL s a k) (s.data.toList.drop k) = partsGo (cutL s a (k + 1)) (s.data.toList.drop (k + 1)) := by
  rw [drop_at s k h, partsGo, if_neg (by intro e; apply hc; rw [e]; rfl), cutL_snoc s a k ha h]
theorem parts_end (s : ByteArray) (a : Nat) : partsGo (cutL s a s.size) (s.data.toList.drop s.size) = [cutL s a s.size] := by
  rw [List.drop_eq_nil_of_le (by simp), partsGo]

set_option maxHeartbeats 1000000 in
theorem specParts (s : ByteArray) (w : World) (hs : s.size ≤ 2000000) :
    Calls Tryz.prog 166 #[.string s] w fun e w' => ∃ v, e = .returned v ∧ Strs w' w.heap.size v (partsL s.data.toList) ∧ Below w.heap.size w w' := by
  obtain ⟨i0, hi, hz0, hz1, hz2⟩ := info_parts infoSt
  go_enter Tryz.func166, Tryz.ntmps166
  go_wp2
  go_loopw [3, 4, 5] (fun out fr i W => ∃ (k a : Nat) (acc : List (List UInt8)), k ≤ s.size + 1 ∧ a ≤ k ∧ i = .int .i64 k ∧ fr = .int .i64 a ∧ Strs W w.heap.size out acc ∧ Below w.heap.size w W ∧ acc.length ≤ k ∧ (k ≤ s.size → partsL s.data.toList = acc ++ partsGo (cutL s a k) (s.data.toList.drop k)) ∧ (k = s.size + 1 → acc = partsL s.data.toList)) (fun _ _ i _ => s.size + 1 - (intOf i).toNat)
  case atStart => exact ⟨0, 0, [], Nat.zero_le _, Nat.zero_le _, rfl, rfl, World.ownsRow_lit w #[] 0 (Nat.le_refl _) (by simp [maxLen]) (by simp), (Below.refl _ _).alloc (Nat.le_refl _) _, Nat.le_refl _, fun _ => by simp [partsL, cutL_self], fun h => by omega⟩
  case round =>
    obtain ⟨k, a, acc, hk, hak, rfl, rfl, hS, hb, hacc, hl, hfin⟩ := hrel
    have HL := Lib.hid hl
    have HF := Lib.hid hfin
    have HB := Lib.hid hb
    have hsz := hb.size
    clear hl hfin
    by_cases h1 : k < s.size
    · have h0 : ((k : Int) == (s.size : Int)) = false := by simp; omega
      have hki : (k : Int) ≤ (s.size : Int) := by omega
      by_cases h2 : s[k].toNat = 47
      · have h3 : ((s[k].toNat : Int) == 47) = true := by simp [h2]
        have HN := Lib.hid (parts_nl s a k h1 h2)
        clear h2
        go_wp2_with (at_builtin; refine wpList_append_own _ rfl _ _ 124 rfl w.heap.size 9 i0 (.string ⟨#[]⟩) 1 16 Tryz.underlying124 hi hz0 hz1 hz2 rfl (by decide) _ _ _ rfl (hS.own.alloc _) ⟨wr.heap.size, 0, none⟩ 1 1 [.string (s.extract a k)] rfl rfl (cell_one_new _ _ _) (by simp [Value.oneCell']) (by unfold maxLen; omega) (by omega) (by simp; omega) ?_; intro v' w1 hown' hgrow _)
        go_roundw
        case rel => exact ⟨k + 1, k + 1, acc ++ [cutL s a k], by omega, Nat.le_refl _, by go_num, by go_num, Strs.snoc (extract_str s a k) hown', hS.grown HB.out hsz hgrow, by simp; omega, fun _ => by rw [HL.out (by omega), HN.out]; simp, fun h => by omega⟩
        case measure => simp [intOf]; omega
      · have h3 : ((s[k].toNat : Int) == 47) = false := by simp; omega
        have HN := Lib.hid (parts_go s a k hak h1 h2)
        clear h2
        go_wp2
        go_roundw
        case rel => exact ⟨k + 1, a, acc, by omega, by omega, by go_num, rfl, hS, HB.out, by omega, fun _ => by rw [HL.out (by omega), HN.out], fun h => by omega⟩
        case measure => simp [intOf]; omega
    · by_cases h2 : k = s.size
      · have h0 : ((k : Int) == (s.size : Int)) = true := by simp [h2]
        have hki : (k : Int) ≤ (s.size : Int) := by omega
        have hki2 : (a : Int) ≤ (k : Int) := by omega
        have HK := Lib.hid h2
        clear h2
        go_wp2_with (at_builtin; refine wpList_append_own _ rfl _ _ 124 rfl w.heap.size 9 i0 (.string ⟨#[]⟩) 1 16 Tryz.underlying124 hi hz0 hz1 hz2 rfl (by decide) _ _ _ rfl (hS.own.alloc _) ⟨wr.heap.size, 0, none⟩ 1 1 [.string (s.extract a k)] rfl rfl (cell_one_new _ _ _) (by simp [Value.oneCell']) (by unfold maxLen; omega) (by omega) (by simp; omega) ?_; intro v' w1 hown' hgrow _)
        go_roundw
        case rel => exact ⟨k + 1, k + 1, acc ++ [cutL s a k], by omega, Nat.le_refl _, by go_num, by go_num, Strs.snoc (extract_str s a k) hown', hS.grown HB.out hsz hgrow, by simp; omega, fun h => by omega, fun _ => by rw [HL.out (by omega), HK.out, parts_end]⟩
        case measure => simp [intOf]; omega
      · have h3 : ¬ (k : Int) ≤ (s.size : Int) := by omega
        go_wp2
        go_ret
        exact ⟨_, rfl, by rw [← HF.out (by omega)]; exact hS, HB.out⟩

theorem depth_long {l : List UInt8} (h : 250 < l.length) : depthV l = -1 := by
  rcases path_or l with ⟨ns, h1, rfl⟩ | h1
  · have := pathL_len h1; omega
  · unfold depthV; rw [h1]
theorem depth_nil : depthV [] = -1 := rfl
theorem depth_root : depthV [47] = 0 := rfl
theorem depth_other {l : List UInt8} (h : l.head? ≠ some 47) : depthV l = -1 := by
  unfold depthV
  cases l with
  | nil => rfl
  | cons c r => rw [namesO, if_neg (by intro e; subst e; exact h rfl)]
theorem depth_cons {r : List UInt8} (h : r ≠ []) : depthV (47 :: r) = if fit (partsL r) then ((partsL r).length : Int) else -1 := by
  unfold depthV
  rw [namesO, if_pos rfl, if_neg h]
  by_cases hf : fit (partsL r) = true
  · rw [if_pos hf, if_pos hf]
  · rw [if_neg hf, if_neg hf]
theorem tail_text (s : ByteArray) (r : List UInt8) (h : s.data.toList = 47 :: r) : s.extract 1 s.size = strOf r := by
  rw [extract_str, h]
  have : s.size = r.length + 1 := by have := congrArg List.length h; simpa using this
  rw [this]; simp
theorem head_ne (s : ByteArray) (h : 0 < s.size) : s.data.toList.head? = some s[0] := by
  have hsz : s.data.toList.length = s.size := by simp
  have e : s.data.toList[0]? = some s[0] := by rw [List.getElem?_eq_getElem (by omega)]; rfl
  cases hl : s.data.toList with
  | nil => rw [hl] at hsz; simp only [List.length_nil] at hsz; omega
  | cons c r => rw [hl] at e; simpa using e

set_option maxHeartbeats 1000000 in
theorem specDepthOf (s : ByteArray) (w : World) (hs : s.size ≤ maxLen) :
    Calls Tryz.prog 143 #[.string s] w fun e w' => e = .returned (.int .i64 (depthV s.data.toList)) ∧ Below w.heap.size w w' := by
  unfold maxLen at hs
  have hsz : s.data.toList.length = s.size := by simp
  cases hr : (s.data.toList == [47]) with
  | true =>
    have hr' : (s.toList == [47]) = true := by rw [lit_eq]; exact hr
    have HD := Lib.hid (show depthV s.data.toList = 0 by rw [beq_iff_eq.1 hr]; rfl)
    clear hr
    go_enter Tryz.func143, Tryz.ntmps143
    go_wp2
    go_ret
    exact ⟨ret_int (by rw [HD.out]), Below.refl _ _⟩
  | false =>
    have hr' : (s.toList == [47]) = false := by rw [lit_eq]; exact hr
    by_cases hlong : 250 < s.size
    · have HD := Lib.hid (depth_long (l := s.data.toList) (by omega))
      have hli : 250 < (s.size : Int) := by omega
      clear hr
      go_enter Tryz.func143, Tryz.ntmps143
      go_wp2
      go_ret
      exact ⟨ret_int (by rw [HD.out]), Below.refl _ _⟩
    have hli : ¬ 250 < (s.size : Int) := by omega
    by_cases h0 : s.size = 0
    · have hnil : s.data.toList = [] := List.eq_nil_of_length_eq_zero (by omega)
      have he : s.toList.isEmpty = true := by rw [Lib.toList_data, hnil]; rfl
      have HD := Lib.hid (show depthV s.data.toList = -1 by rw [hnil]; rfl)
      clear hr h0 hnil
      go_enter Tryz.func143, Tryz.ntmps143
      go_wp2
      go_ret
      exact ⟨ret_int (by rw [HD.out]), Below.refl _ _⟩
    have hpos : 0 < s.size := by omega
    have hposi : (0 : Int) < (s.size : Int) := by omega
    have he : s.toList.isEmpty = false := by
      rw [Lib.toList_data]
      cases h : s.data.toList with
      | nil => rw [h] at hsz; simp only [List.length_nil] at hsz; omega
      | cons => rfl
    have hhd := head_ne s hpos
    by_cases hc : s[0].toNat = 47
    rotate_left
    · have hcn : ((s[0].toNat : Int) != 47) = true := by simp; omega
      have HD := Lib.hid (depth_other (l := s.data.toList) (by rw [hhd]; intro e; have := Option.some.inj e; rw [this] at hc; exact hc rfl))
      clear hr h0 hhd hc
      go_enter Tryz.func143, Tryz.ntmps143
      go_wp2
      go_ret
      exact ⟨ret_int (by rw [HD.out]), Below.refl _ _⟩
    have hcn : ((s[0].toNat : Int) != 47) = false := by simp; omega
    obtain ⟨r, hr2⟩ : ∃ r, s.data.toList = 47 :: r := by
      cases hl : s.data.toList with
      | nil => rw [hl] at hhd; cases hhd
      | cons c r =>
        rw [hl] at hhd
        have e : c = s[0] := by simpa using hhd
        exact ⟨r, by rw [e, show s[0] = 47 from UInt8.toNat_inj.mp (by simpa using hc)]⟩
    have hrn : r ≠ [] := by intro e; subst e; rw [hr2] at hr; simp at hr
    have hrl : r.length + 1 = s.size := by rw [← hsz, hr2]; simp
    have hsl : ∀ W, (Instr.slice 9 (.string s) (some (.int .i64 1)) none none).run Tryz.prog W = .ok (.string (strOf r)) W := fun W => by
      rw [run_slice_string_l (w := W) (t := 9) (s := s) (kl := .i64) (l := 1) (ht := Tryz.underlying9) (h0 := by omega) (h1 := by omega)]
      rw [← tail_text s r hr2]; rfl
    have HD := Lib.hid (show depthV s.data.toList = if fit (partsL r) then ((partsL r).length : Int) else -1 by rw [hr2]; exact depth_cons hrn)
    have CP := Lib.hid (specParts (strOf r) w (by rw [strOf_size]; omega))
    rw [strOf_data] at CP
    have hpn := parts_ne r
    have hfit : fit (partsL r) = (decide ((partsL r).length ≤ 6) && (partsL r).all nameB) := rfl
    generalize partsL r = ps at CP HD hpn hfit
    have HFIT := Lib.hid hfit
    clear hr h0 hhd hc hr2 hrn hfit
    go_enter Tryz.func143, Tryz.ntmps143
    go_wp2_with fail
    refine CP.out.mono ?_
    rintro e W1 ⟨v, rfl, hS, hb⟩
    obtain ⟨g, cap, rfl, hg, hcap, hm, hcell⟩ := hS.rd.at hpn
    unfold maxLen at hm
    have HC := Lib.hid hcell
    clear hcell hS CP hpn
    go_wp2
    go_loop [4] (fun i => ∃ k : Nat, k ≤ ps.length ∧ i = .int .i64 k ∧ (ps.take k).all nameB = true) (fun i => ps.length - (intOf i).toNat)
    case atStart => exact ⟨0, Nat.zero_le _, rfl, rfl⟩
    case round =>
      obtain ⟨k, hk, rfl, hd⟩ := hrel
      have HA := Lib.hid hd
      clear hd
      by_cases h1 : k < ps.length
      · have hck := HC.out k h1
        have hki : (k : Int) < (ps.length : Int) := by omega
        have HT := Lib.hid (show (ps.take (k + 1)).all nameB = ((ps.take k).all nameB && nameB ps[k]) by rw [List.take_succ_eq_append_getElem h1, List.all_append]; simp)
        have CN := specNameOk (strOf ps[k]) W1
        rw [strOf_data] at CN
        generalize strOf ps[k] = pk at CN hck
        cases hn : nameB ps[k] with
        | true =>
          rw [hn] at CN HT
          go_wp2_with (go_at_call 170; refine CN.mono ?_; rintro e w' ⟨rfl, rfl⟩)
          go_round
          case rel => exact ⟨k + 1, by omega, by go_num, by rw [HT.out, HA.out]; rfl⟩
          case measure => simp [intOf]; omega
        | false =>
          rw [hn] at CN HT
          go_wp2_with (go_at_call 170; refine CN.mono ?_; rintro e w' ⟨rfl, rfl⟩)
          go_ret
          have hall : ps.all nameB = false := by rw [← List.take_append_drop (k + 1) ps, List.all_append, HT.out]; simp
          exact ⟨ret_int (by rw [HD.out, HFIT.out, hall]; simp), hb⟩
      · have hke : k = ps.length := by omega
        have hki : ¬ (k : Int) < (ps.length : Int) := by omega
        have hall := HA.out
        rw [hke, List.take_length] at hall
        have HALL := Lib.hid hall
        clear hall hke
        by_cases h6 : 6 < ps.length
        · have h6i : 6 < (ps.length : Int) := by omega
          go_wp2
          go_ret
          exact ⟨ret_int (by rw [HD.out, HFIT.out, decide_eq_false (by omega)]; simp), hb⟩
        · have h6i : ¬ 6 < (ps.length : Int) := by omega
          go_wp2
          go_ret
          exact ⟨ret_int (by rw [HD.out, HFIT.out, decide_eq_true (by omega), HALL.out]; simp), hb⟩

theorem specPathOk (s : ByteArray) (w : World) (hs : s.size ≤ maxLen) :
    Calls Tryz.prog 103 #[.string s] w fun e w' => e = .returned (.bool (decide (0 < depthV s.data.toList))) ∧ Below w.heap.size w w' := by
  have CD := specDepthOf s w hs
  generalize depthV s.data.toList = d at CD
  go_enter Tryz.func103, Tryz.ntmps103
  go_wp2_with (go_at_call 143; refine CD.mono ?_; rintro e w' ⟨rfl, hb⟩)
  go_ret
  exact ⟨rfl, hb⟩
end Go.Proofs.YtipedabppgbfcaaGreatDoor
