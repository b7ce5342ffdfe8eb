/- Contracts of impl.Under and of spec's l04Last, DirOf, BaseOf, Join, Under. Contracts of impl.Before and spec.Before: both tell the byte order of two texts. -/
import Derived.Test.YtipedabppgbfcaaGreatDoorK14
import Derived.Test.YtipedabppgbfcaaGreatDoorK1
set_option linter.all false
namespace Go.Proofs.YtipedabppgbfcaaGreatDoor
open Go.RowKit

theorem strOf_inj {a b : List UInt8} (h : strOf a = strOf b) : a = b := by
  have := congrArg (fun x : ByteArray => x.data.toList) h
  simpa [strOf_data] using this
theorem map_strOf_inj {a b : List (List UInt8)} (h : a.map strOf = b.map strOf) : a = b := by
  have := congrArg (List.map fun x : ByteArray => x.data.toList) h
  rw [List.map_map, List.map_map, show ((fun x : ByteArray => x.data.toList) ∘ strOf) = id from funext fun l => strOf_data l, List.map_id, List.map_id] at this
  exact this
theorem getD_strOf (ls : List (List UInt8)) (j : Nat) (hj : j < ls.length) : (ls.map strOf).getD j ByteArray.empty = strOf ls[j] := by
  rw [List.getD_eq_getElem?_getD, List.getElem?_map, List.getElem?_eq_getElem hj]; rfl

theorem implEqual (W : World) (v1 v2 : Value) (ls ms : List (List UInt8)) (h1 : Rd W v1 ls) (h2 : Rd W v2 ms) (hl : ls.length ≤ 1000000) (hm : ms.length ≤ 1000000) :
    Calls Tryz.prog 177 #[v1, v2] W fun e w' => e = .returned (.bool (ls == ms)) ∧ Below W.heap.size W w' := by
  by_cases hn : ls = []
  · subst hn
    obtain ⟨a1, c1, rfl, _⟩ := h1
    obtain ⟨a2, c2, rfl, _⟩ := h2
    refine (Tryz.slices_Equal_string_empty a1 a2 c1 ms.length c2 W (by omega)).mono fun e w' ⟨he, hw⟩ => ⟨?_, by rw [hw]; exact Below.refl _ _⟩
    rw [he]
    refine ret_bool ?_
    cases ms <;> simp
  by_cases hn2 : ms = []
  · subst hn2
    obtain ⟨a1, c1, rfl, _⟩ := h1
    obtain ⟨a2, c2, rfl, _⟩ := h2
    have hne : ls.length ≠ 0 := fun e => hn (List.eq_nil_of_length_eq_zero e)
    refine (Tryz.slices_Equal_string_lens a1 a2 ls.length c1 0 c2 W hne).mono fun e w' ⟨he, hw⟩ => ⟨?_, by rw [hw]; exact Below.refl _ _⟩
    rw [he]
    refine ret_bool ?_
    cases ls with
    | nil => exact absurd rfl hn
    | cons => rfl
  · obtain ⟨g1, c1, rfl, hg1, _, _, hc1⟩ := h1.at hn
    obtain ⟨g2, c2, rfl, hg2, _, _, hc2⟩ := h2.at hn2
    refine (Tryz.slices_Equal_string g1 0 ls.length c1 g2 0 ms.length c2 (ls.map strOf) (ms.map strOf) W (by simp) (by simp) (by omega) (by omega) (fun j hj => ?_) (fun j hj => ?_)).mono fun e w' ⟨he, q, hw⟩ => ⟨?_, by rw [hw]; exact ⟨rfl, rfl, rfl, Nat.le_refl _, fun _ _ => rfl⟩⟩
    · rw [List.length_map] at hj
      rw [Nat.zero_add, getD_strOf ls j hj]; exact hc1 j hj
    · rw [List.length_map] at hj
      rw [Nat.zero_add, getD_strOf ms j hj]; exact hc2 j hj
    · rw [he]
      refine ret_bool ?_
      rw [List.take_of_length_le (by simp), List.take_of_length_le (by simp)]
      by_cases e2 : ls = ms
      · subst e2; simp
      · rw [decide_eq_false (fun e3 => e2 (map_strOf_inj e3))]
        symm; rw [beq_eq_false_iff_ne]; exact e2

set_option maxHeartbeats 2000000 in
theorem implUnder (s d : ByteArray) (w : World) (hs : s.size ≤ 2000000) (hd : d.size ≤ 2000000) :
    Calls Tryz.prog 149 #[.string s, .string d] w fun e w' => e = .returned (.bool (underV s.data.toList d.data.toList)) ∧ Below w.heap.size w w' := by
  have CN := implNamesOf s w hs
  have CD := Lib.hid (fun W => implNamesOf d W hd)
  have HJ := Lib.hid (show underV s.data.toList d.data.toList = match namesO s.data.toList, namesO d.data.toList with | some ns, some ms => decide (ms.length < ns.length) && (ns.take ms.length == ms) | _, _ => false from rfl)
  have HL := Lib.hid (show ∀ ns, namesO s.data.toList = some ns → ns.length ≤ 6 from fun ns h => (fit_mem (namesO_is h).1).1)
  have HM := Lib.hid (show ∀ ns, namesO d.data.toList = some ns → ns.length ≤ 6 from fun ns h => (fit_mem (namesO_is h).1).1)
  generalize namesO s.data.toList = no at CN HJ HL
  generalize namesO d.data.toList = nd at CD HJ HM
  cases no with
  | none =>
    go_enter Tryz.func149, Tryz.ntmps149
    go_wp2_with fail
    refine CN.mono ?_
    rintro e W1 ⟨v1, rfl, hS1, hb1⟩
    go_wp2_with fail
    refine (CD.out _).mono ?_
    rintro e W2 ⟨v2, rfl, hS2, hb2⟩
    go_wp2
    go_ret
    exact ⟨ret_bool (by rw [HJ.out]), hb1.trans (hb2.mono hb1.size)⟩
  | some ns =>
    cases nd with
    | none =>
      go_enter Tryz.func149, Tryz.ntmps149
      go_wp2_with fail
      refine CN.mono ?_
      rintro e W1 ⟨v1, rfl, hS1, hb1⟩
      go_wp2_with fail
      refine (CD.out _).mono ?_
      rintro e W2 ⟨v2, rfl, hS2, hb2⟩
      go_wp2
      go_ret
      exact ⟨ret_bool (by rw [HJ.out]), hb1.trans (hb2.mono hb1.size)⟩
    | some ms =>
      have hln := HL.out ns rfl
      have hlm := HM.out ms rfl
      clear HL HM
      by_cases hlt : ms.length < ns.length
      · have hlti : (ms.length : Int) < (ns.length : Int) := by omega
        have hnn : ns ≠ [] := fun e => by subst e; simp at hlt
        have HN := Lib.hid hnn
        clear hnn
        go_enter Tryz.func149, Tryz.ntmps149
        go_wp2_with fail
        refine CN.mono ?_
        rintro e W1 ⟨v1, rfl, hS1, hb1⟩
        go_wp2_with fail
        refine (CD.out _).mono ?_
        rintro e W2 ⟨v2, rfl, hS2, hb2⟩
        have hR1 : Rd W2 v1 ns := (show Rd W1 v1 ns from hS1.rd).on hb2
        have hR2 : Rd W2 v2 ms := hS2.rd
        have CF := Lib.hid (implFirst W2 v1 ns ms.length hR1 HN.out (by omega))
        have CE := Lib.hid (fun v h => implEqual W2 v v2 (ns.take ms.length) ms h hR2 (by simp; omega) (by omega))
        obtain ⟨a1, c1, rfl, _⟩ := hR1
        obtain ⟨a2, c2, rfl, _⟩ := hR2
        clear hS1 hS2
        go_wp2_with (first
          | (go_at_call 111; refine CF.out.mono ?_; rintro e w3 ⟨g, rfl, hR3, hw3⟩; have CE1 := CE.out _ hR3; rw [hw3])
          | (go_at_call 177; refine CE1.mono ?_; rintro e w4 ⟨rfl, hb4⟩))
        go_ret
        exact ⟨ret_bool (by rw [HJ.out, decide_eq_true hlt, Bool.true_and]), (hb1.trans (hb2.mono hb1.size)).trans (hb4.mono (Nat.le_trans hb1.size hb2.size))⟩
      · have hlti : ¬ (ms.length : Int) < (ns.length : Int) := by omega
        go_enter Tryz.func149, Tryz.ntmps149
        go_wp2_with fail
        refine CN.mono ?_
        rintro e W1 ⟨v1, rfl, hS1, hb1⟩
        go_wp2_with fail
        refine (CD.out _).mono ?_
        rintro e W2 ⟨v2, rfl, hS2, hb2⟩
        have hR1 : Rd W2 v1 ns := (show Rd W1 v1 ns from hS1.rd).on hb2
        have hR2 : Rd W2 v2 ms := hS2.rd
        obtain ⟨a1, c1, rfl, _⟩ := hR1
        obtain ⟨a2, c2, rfl, _⟩ := hR2
        clear hS1 hS2
        go_wp2
        go_ret
        exact ⟨ret_bool (by rw [HJ.out, decide_eq_false hlt, Bool.false_and]), hb1.trans (hb2.mono hb1.size)⟩

/-! The model's. -/
theorem last_at (s : ByteArray) (p n : List UInt8) (e : s.data.toList = p ++ 47 :: n) : ∃ h : p.length < s.size, (s[p.length]'h).toNat = 47 := by
  have hl : s.size = p.length + 1 + n.length := by have := congrArg List.length e; simp at this; omega
  refine ⟨by omega, ?_⟩
  have : s.data.toList[p.length]? = some 47 := by rw [e]; simp
  rw [List.getElem?_eq_getElem (by simp; omega)] at this
  have h2 := Option.some.inj this
  show (s.data.toList[p.length]'(by simp; omega)).toNat = 47
  rw [h2]; rfl
theorem last_not (s : ByteArray) (p n : List UInt8) (e : s.data.toList = p ++ 47 :: n) (hn : 47 ∉ n) (k : Nat) (h1 : p.length < k) (h2 : k < s.size) : ¬ (s[k]'h2).toNat = 47 := by
  intro h
  apply hn
  have h3 : s.data.toList[k]? = some s[k] := by rw [List.getElem?_eq_getElem (by simpa using h2)]; rfl
  rw [e, List.getElem?_append_right (by omega), show k - p.length = (k - p.length - 1) + 1 by omega, List.getElem?_cons_succ] at h3
  have h4 := List.mem_of_getElem? h3
  rw [show s[k] = 47 from UInt8.toNat_inj.mp (by simpa using h)] at h4
  exact h4

theorem specLast (s : ByteArray) (w : World) (p n : List UInt8) (e : s.data.toList = p ++ 47 :: n) (hn : 47 ∉ n) (hs : s.size ≤ maxLen) :
    Calls Tryz.prog 105 #[.string s] w fun e w' => e = .returned (.int .i64 ((p.length : Int) + 1)) ∧ w = w' := by
  have hl : s.size = p.length + 1 + n.length := by have := congrArg List.length e; simp at this; omega
  unfold maxLen at hs
  have HE := Lib.hid e
  have hl2 : p.length + 1 ≤ s.size := by omega
  clear e hl
  go_enter Tryz.func105, Tryz.ntmps105
  go_wp2
  go_loop [3] (fun i => ∃ k : Nat, p.length + 1 ≤ k ∧ k ≤ s.size ∧ i = .int .i64 k) (fun i => (intOf i).toNat)
  case atStart => exact ⟨s.size, hl2, Nat.le_refl _, rfl⟩
  case round =>
    obtain ⟨k, hk1, hk2, rfl⟩ := hrel
    obtain ⟨j, rfl⟩ : ∃ j, k = j + 1 := ⟨k - 1, by omega⟩
    have hj : j < s.size := by omega
    have hji : (((j + 1 : Nat) : Int)) - 1 = (j : Int) := by omega
    have hjs : (j : Int) < (s.size : Int) := by omega
    by_cases h1 : j = p.length
    · obtain ⟨hq, h47⟩ := last_at s p n HE.out
      have hc : ((s[j].toNat : Int) != 47) = false := by
        have : s[j].toNat = 47 := by rw [← h47]; congr 2
        simp [this]
      have H1 := Lib.hid h1
      clear h47 h1
      go_wp2
      go_ret
      exact ⟨ret_int (by rw [← H1.out]), rfl⟩
    · have hc : ((s[j].toNat : Int) != 47) = true := by
        have := last_not s p n HE.out hn j (by omega) hj
        simp; omega
      go_wp2
      go_round
      case rel => exact ⟨j, by omega, by omega, by go_num⟩
      case measure => simp [intOf]

theorem depth_pos {l : List UInt8} (h : 0 < depthV l) : ∃ ms n, fit (ms ++ [n]) = true ∧ l = pathL (ms ++ [n]) := by
  rcases path_or l with ⟨ns, h1, rfl⟩ | h1
  · rw [depthV_of h1] at h
    have hn : ns ≠ [] := fun e => by subst e; simp at h
    exact ⟨ns.dropLast, ns.getLast hn, by rw [List.dropLast_concat_getLast hn]; exact h1, by rw [List.dropLast_concat_getLast hn]⟩
  · unfold depthV at h; rw [h1] at h; simp at h
theorem depth_not {l : List UInt8} (h : ¬ 0 < depthV l) : dirV l = [] ∧ baseV l = [] := by
  unfold dirV baseV
  cases hn : namesO l with
  | none => exact ⟨rfl, rfl⟩
  | some ns =>
    unfold depthV at h; rw [hn] at h
    have : ns = [] := List.eq_nil_of_length_eq_zero (by have h2 : ¬ (0 : Int) < (ns.length : Int) := h; omega)
    subst this; exact ⟨rfl, rfl⟩
theorem dir_of {ms : List (List UInt8)} {n : List UInt8} (h : fit (ms ++ [n]) = true) : dirV (pathL (ms ++ [n])) = pathL ms := by
  unfold dirV; rw [namesO_of h]; simp
theorem base_of {ms : List (List UInt8)} {n : List UInt8} (h : fit (ms ++ [n]) = true) : baseV (pathL (ms ++ [n])) = n := by
  unfold baseV; rw [namesO_of h]; simp
theorem extract_pre (s : ByteArray) (p q : List UInt8) (e : s.data.toList = p ++ q) : s.extract 0 p.length = strOf p := by
  rw [extract_str, e]; simp
theorem extract_suf (s : ByteArray) (p q : List UInt8) (e : s.data.toList = p ++ q) : s.extract p.length s.size = strOf q := by
  have hl : s.size = p.length + q.length := by have := congrArg List.length e; simp at this; omega
  rw [extract_str, e, hl]; simp
theorem cutPre (s : ByteArray) (k : Nat) (h : k ≤ s.size) (W : World) (x : Int) (hx : x = k) : (Instr.slice 9 (.string s) none (some (.int .i64 x)) none).run Tryz.prog W = .ok (.string (s.extract 0 k)) W := by
  subst hx
  rw [run_slice_string_h (w := W) (t := 9) (s := s) (kh := .i64) (h := k) (ht := Tryz.underlying9) (h0 := by omega) (h2 := by omega)]
  rfl
theorem cutFrom (s : ByteArray) (k : Nat) (h : k ≤ s.size) (W : World) (x : Int) (hx : x = k) : (Instr.slice 9 (.string s) (some (.int .i64 x)) none none).run Tryz.prog W = .ok (.string (s.extract k s.size)) W := by
  subst hx
  rw [run_slice_string_l (w := W) (t := 9) (s := s) (kl := .i64) (l := k) (ht := Tryz.underlying9) (h0 := by omega) (h1 := by omega)]
  rfl

set_option maxHeartbeats 1000000 in
theorem specDirOf (s : ByteArray) (w : World) (hs : s.size ≤ maxLen) :
    Calls Tryz.prog 64 #[.string s] w fun e w' => e = .returned (.string (strOf (dirV s.data.toList))) ∧ Below w.heap.size w w' := by
  have CP := specPathOk s w hs
  by_cases hd : 0 < depthV s.data.toList
  rotate_left
  · rw [decide_eq_false hd] at CP
    have HD := Lib.hid (depth_not hd).1
    clear hd
    go_enter Tryz.func64, Tryz.ntmps64
    go_wp2_with (go_at_call 103; refine CP.mono ?_; rintro e w' ⟨rfl, hb⟩)
    go_ret
    exact ⟨ret_str (by rw [HD.out]; rfl), hb⟩
  rw [decide_eq_true hd] at CP
  obtain ⟨ms, n, hf, he⟩ := depth_pos hd
  have HD := Lib.hid (show dirV s.data.toList = pathL ms by rw [he]; exact dir_of hf)
  have he2 := he
  rw [pathL_snoc] at he2
  have CL := Lib.hid (fun W => specLast s W _ n he2 (nameB_free (fit_snoc.1 hf).2.2) hs)
  have hpre := extract_pre s _ _ he2
  have hple : (if ms = [] then [] else pathL ms).length ≤ s.size := by have := congrArg List.length he2; simp at this; omega
  by_cases hm : ms = []
  · rw [if_pos hm] at CL
    have HM := Lib.hid hm
    clear hd he he2 hm hpre hple
    go_enter Tryz.func64, Tryz.ntmps64
    go_wp2_with (first
      | (go_at_call 103; refine CP.mono ?_; rintro e w1 ⟨rfl, hb⟩)
      | (go_at_call 105; refine (CL.out _).mono ?_; rintro e w2 ⟨rfl, rfl⟩))
    go_ret
    exact ⟨ret_str (by rw [HD.out, HM.out]; rfl), hb⟩
  · rw [if_neg hm] at CL hpre hple
    have hsl := fun W => cutPre s (pathL ms).length hple W (((pathL ms).length : Int) + 1 - 1) (by omega)
    have hsl2 := fun W => cutPre s (pathL ms).length hple W ((pathL ms).length : Int) rfl
    rw [hpre] at hsl hsl2
    have hpos : 1 ≤ (pathL ms).length := by obtain ⟨r, hr⟩ := pathL_head ms; rw [hr]; simp
    have hle : (pathL ms).length ≤ 250 := by have := pathL_len (fit_sub hf).1; omega
    generalize (pathL ms).length = k at CL hsl hsl2 hpos hle
    have hne : (((k : Int) + 1) == 1) = false := by rw [beq_eq_false_iff_ne]; omega
    clear hd he he2 hm hpre hple
    go_enter Tryz.func64, Tryz.ntmps64
    go_wp2_with (first
      | (go_at_call 103; refine CP.mono ?_; rintro e w1 ⟨rfl, hb⟩)
      | (go_at_call 105; refine (CL.out _).mono ?_; rintro e w2 ⟨rfl, rfl⟩))
    go_ret
    exact ⟨ret_str (by rw [HD.out]), hb⟩

set_option maxHeartbeats 1000000 in
theorem specBaseOf (s : ByteArray) (w : World) (hs : s.size ≤ maxLen) :
    Calls Tryz.prog 137 #[.string s] w fun e w' => e = .returned (.string (strOf (baseV s.data.toList))) ∧ Below w.heap.size w w' := by
  have CP := specPathOk s w hs
  by_cases hd : 0 < depthV s.data.toList
  rotate_left
  · rw [decide_eq_false hd] at CP
    have HD := Lib.hid (depth_not hd).2
    clear hd
    go_enter Tryz.func137, Tryz.ntmps137
    go_wp2_with (go_at_call 103; refine CP.mono ?_; rintro e w' ⟨rfl, hb⟩)
    go_ret
    exact ⟨ret_str (by rw [HD.out]; rfl), hb⟩
  rw [decide_eq_true hd] at CP
  obtain ⟨ms, n, hf, he⟩ := depth_pos hd
  have HD := Lib.hid (show baseV s.data.toList = n by rw [he]; exact base_of hf)
  have he2 := he
  rw [pathL_snoc] at he2
  have CL := Lib.hid (fun W => specLast s W _ n he2 (nameB_free (fit_snoc.1 hf).2.2) hs)
  generalize (if ms = [] then [] else pathL ms) = p at CL he2
  have hple : p.length + 1 ≤ s.size := by have := congrArg List.length he2; simp at this; omega
  have hsl := fun W => cutFrom s (p.length + 1) hple W ((p.length : Int) + 1) (by omega)
  have hsuf : s.extract (p.length + 1) s.size = strOf n := by
    have := extract_suf s (p ++ [47]) n (by rw [he2]; simp)
    rwa [List.length_append] at this
  rw [hsuf] at hsl
  clear hd he he2 hsuf hple
  go_enter Tryz.func137, Tryz.ntmps137
  go_wp2_with (first
    | (go_at_call 103; refine CP.mono ?_; rintro e w1 ⟨rfl, hb⟩)
    | (go_at_call 105; refine (CL.out _).mono ?_; rintro e w2 ⟨rfl, rfl⟩))
  go_ret
  exact ⟨ret_str (by rw [HD.out]), hb⟩
end Go.Proofs.YtipedabppgbfcaaGreatDoor
namespace Go.Proofs.YtipedabppgbfcaaGreatDoor
open Go.RowKit

theorem implBefore (a b : ByteArray) (w : World) :
    Calls Tryz.prog 67 #[.string a, .string b] w fun e w' => e = .returned (.bool (Op.bytesLess a.toList b.toList)) ∧ w = w' := by
  go_enter Tryz.func67, Tryz.ntmps67
  go_wp2
  go_ret
  exact ⟨rfl, rfl⟩

theorem less_step (a b : ByteArray) (k : Nat) (ha : k < a.size) (hb : k < b.size) :
    Op.bytesLess (a.data.toList.drop k) (b.data.toList.drop k) = (decide (a[k] < b[k]) || (a[k] == b[k] && Op.bytesLess (a.data.toList.drop (k+1)) (b.data.toList.drop (k+1)))) := by
  rw [List.drop_eq_getElem_cons (by simpa using ha), List.drop_eq_getElem_cons (i := k) (l := b.data.toList) (by simpa using hb)]
  rfl

theorem less_end (a b : ByteArray) (k : Nat) (h : ¬ (k < a.size ∧ k < b.size)) (ha : k ≤ a.size) (hb : k ≤ b.size) :
    Op.bytesLess (a.data.toList.drop k) (b.data.toList.drop k) = decide (a.size < b.size) := by
  by_cases h2 : k < b.size
  · have e : a.data.toList.drop k = [] := List.drop_eq_nil_of_le (by simp; omega)
    rw [e, List.drop_eq_getElem_cons (i := k) (l := b.data.toList) (by simpa using h2)]
    simp [Op.bytesLess]; omega
  · have e : b.data.toList.drop k = [] := List.drop_eq_nil_of_le (by simp; omega)
    rw [e]
    cases hq : a.data.toList.drop k <;> simp [Op.bytesLess] <;> omega

set_option maxHeartbeats 400000 in
theorem specBefore (a b : ByteArray) (w : World) (ha : a.size ≤ maxLen) (hb : b.size ≤ maxLen) :
    Calls Tryz.prog 65 #[.string a, .string b] w fun e w' => e = .returned (.bool (Op.bytesLess a.toList b.toList)) ∧ ∃ n, w' = w.drewN n := by
  unfold maxLen at ha hb
  rw [Lib.toList_data, Lib.toList_data]
  go_enter Tryz.func65, Tryz.ntmps65
  go_wp2
  go_loopw [5] (fun i W => ∃ k n : Nat, k ≤ a.size ∧ k ≤ b.size ∧ i = .int .i64 k ∧ W = w.drewN n ∧ Op.bytesLess a.data.toList b.data.toList = Op.bytesLess (a.data.toList.drop k) (b.data.toList.drop k)) (fun i _ => a.size - (intOf i).toNat)
  case atStart => exact ⟨0, 0, Nat.zero_le _, Nat.zero_le _, rfl, rfl, rfl⟩
  case round =>
    obtain ⟨k, n, hka, hkb, rfl, rfl, hl⟩ := hrel
    have HL := Lib.hid hl
    clear hl
    by_cases h1 : k < a.size
    · by_cases h2 : k < b.size
      · have hst := less_step a b k h1 h2
        have HS := Lib.hid hst
        clear hst
        by_cases he : ((a[k].toNat : Int) != (b[k].toNat : Int)) = true
        · go_wp2
          go_quiet (fail)
          go_wp2
          go_quiet (fail)
          go_wp2
          go_ret
          exact ⟨ret_bool (by rw [HL.out, HS.out, byte_ne he]; simp [UInt8.lt_iff_toNat_lt]), ⟨_, by rw [World.drewN_drewN, World.drewN_drewN]⟩⟩
        · go_wp2
          go_quiet (fail)
          go_wp2
          go_roundw
          case rel => exact ⟨k + 1, _, by omega, by omega, by go_num, rfl, by rw [HL.out, HS.out, byte_eq he]; simp⟩
          case measure => simp [intOf]; omega
      · go_wp2
        go_ret
        exact ⟨ret_bool (by rw [HL.out, less_end a b k (by omega) hka hkb]), ⟨_, rfl⟩⟩
    · go_wp2
      go_ret
      exact ⟨ret_bool (by rw [HL.out, less_end a b k (by omega) hka hkb]), ⟨_, rfl⟩⟩
end Go.Proofs.YtipedabppgbfcaaGreatDoor
