/- Contracts of impl.Under and of spec's l04Last, DirOf, BaseOf, Join, Under. -/
import Derived.Test.YtipepbnmllbonaaDoorPathFns
namespace Go.Proofs.YtipepbnmllbonaaDoor
open Go.RowKit

theorem strOf_inj {a b : List UInt8} (h : strOf a = strOf b) : a = b := by
  have := congrArg (fun x : ByteArray => x.data.toList) h
  simpa [strOf_data] using this
theorem map_strOf_inj {a b : List (List UInt8)} (h : a.map strOf = b.map strOf) : a = b := by
  have := congrArg (List.map fun x : ByteArray => x.data.toList) h
  rw [List.map_map, List.map_map, show ((fun x : ByteArray => x.data.toList) ∘ strOf) = id from funext fun l => strOf_data l, List.map_id, List.map_id] at this
  exact this
theorem getD_strOf (ls : List (List UInt8)) (j : Nat) (hj : j < ls.length) : (ls.map strOf).getD j ByteArray.empty = strOf ls[j] := by
  rw [List.getD_eq_getElem?_getD, List.getElem?_map, List.getElem?_eq_getElem hj]; rfl

theorem last_at (s : ByteArray) (p n : List UInt8) (e : s.data.toList = p ++ 47 :: n) : ∃ h : p.length < s.size, (s[p.length]'h).toNat = 47 := by
  have hl : s.size = p.length + 1 + n.length := by have := congrArg List.length e; simp at this; omega
  refine ⟨by omega, ?_⟩
  have : s.data.toList[p.length]? = some 47 := by rw [e]; simp
  rw [List.getElem?_eq_getElem (by simp; omega)] at this
  have h2 := Option.some.inj this
  show (s.data.toList[p.length]'(by simp; omega)).toNat = 47
  rw [h2]; rfl
theorem last_not (s : ByteArray) (p n : List UInt8) (e : s.data.toList = p ++ 47 :: n) (hn : 47 ∉ n) (k : Nat) (h1 : p.length < k) (h2 : k < s.size) : ¬ (s[k]'h2).toNat = 47 := by
  intro h
  apply hn
  have h3 : s.data.toList[k]? = some s[k] := by rw [List.getElem?_eq_getElem (by simpa using h2)]; rfl
  rw [e, List.getElem?_append_right (by omega), show k - p.length = (k - p.length - 1) + 1 by omega, List.getElem?_cons_succ] at h3
  have h4 := List.mem_of_getElem? h3
  rw [show s[k] = 47 from UInt8.toNat_inj.mp (by simpa using h)] at h4
  exact h4

theorem specLast (s : ByteArray) (w : World) (p n : List UInt8) (e : s.data.toList = p ++ 47 :: n) (hn : 47 ∉ n) (hs : s.size ≤ maxLen) :
    Calls Tryd.prog 35 #[.string s] w fun e w' => e = .returned (.int .i64 ((p.length : Int) + 1)) ∧ w = w' := by
  have hl : s.size = p.length + 1 + n.length := by have := congrArg List.length e; simp at this; omega
  unfold maxLen at hs
  have HE := Lib.hid e
  have hl2 : p.length + 1 ≤ s.size := by omega
  clear e hl
  go_enter Tryd.func35, Tryd.ntmps35
  go_wp2
  go_loop [3] (fun i => ∃ k : Nat, p.length + 1 ≤ k ∧ k ≤ s.size ∧ i = .int .i64 k) (fun i => (intOf i).toNat)
  case atStart => exact ⟨s.size, hl2, Nat.le_refl _, rfl⟩
  case round =>
    obtain ⟨k, hk1, hk2, rfl⟩ := hrel
    obtain ⟨j, rfl⟩ : ∃ j, k = j + 1 := ⟨k - 1, by omega⟩
    have hj : j < s.size := by omega
    have hji : (((j + 1 : Nat) : Int)) - 1 = (j : Int) := by omega
    have hjs : (j : Int) < (s.size : Int) := by omega
    by_cases h1 : j = p.length
    · obtain ⟨hq, h47⟩ := last_at s p n HE.out
      have hc : ((s[j].toNat : Int) != 47) = false := by
        have : s[j].toNat = 47 := by rw [← h47]; congr 2
        simp [this]
      have H1 := Lib.hid h1
      clear h47 h1
      go_wp2
      go_ret
      exact ⟨ret_int (by rw [← H1.out]), rfl⟩
    · have hc : ((s[j].toNat : Int) != 47) = true := by
        have := last_not s p n HE.out hn j (by omega) hj
        simp; omega
      go_wp2
      go_round
      case rel => exact ⟨j, by omega, by omega, by go_num⟩
      case measure => simp [intOf]

theorem depth_pos {l : List UInt8} (h : 0 < depthV l) : ∃ ms n, fit (ms ++ [n]) = true ∧ l = pathL (ms ++ [n]) := by
  rcases path_or l with ⟨ns, h1, rfl⟩ | h1
  · rw [depthV_of h1] at h
    have hn : ns ≠ [] := fun e => by subst e; simp at h
    exact ⟨ns.dropLast, ns.getLast hn, by rw [List.dropLast_concat_getLast hn]; exact h1, by rw [List.dropLast_concat_getLast hn]⟩
  · unfold depthV at h; rw [h1] at h; simp at h
theorem depth_not {l : List UInt8} (h : ¬ 0 < depthV l) : dirV l = [] ∧ baseV l = [] := by
  unfold dirV baseV
  cases hn : namesO l with
  | none => exact ⟨rfl, rfl⟩
  | some ns =>
    unfold depthV at h; rw [hn] at h
    have : ns = [] := List.eq_nil_of_length_eq_zero (by have h2 : ¬ (0 : Int) < (ns.length : Int) := h; omega)
    subst this; exact ⟨rfl, rfl⟩
theorem dir_of {ms : List (List UInt8)} {n : List UInt8} (h : fit (ms ++ [n]) = true) : dirV (pathL (ms ++ [n])) = pathL ms := by
  unfold dirV; rw [namesO_of h]; simp
theorem base_of {ms : List (List UInt8)} {n : List UInt8} (h : fit (ms ++ [n]) = true) : baseV (pathL (ms ++ [n])) = n := by
  unfold baseV; rw [namesO_of h]; simp
theorem extract_pre (s : ByteArray) (p q : List UInt8) (e : s.data.toList = p ++ q) : s.extract 0 p.length = strOf p := by
  rw [extract_str, e]; simp
theorem extract_suf (s : ByteArray) (p q : List UInt8) (e : s.data.toList = p ++ q) : s.extract p.length s.size = strOf q := by
  have hl : s.size = p.length + q.length := by have := congrArg List.length e; simp at this; omega
  rw [extract_str, e, hl]; simp
theorem cutTo (s : ByteArray) (k : Nat) (h : k ≤ s.size) (W : World) (x : Int) (hx : x = k) : (Instr.slice 9 (.string s) none (some (.int .i64 x)) none).run Tryd.prog W = .ok (.string (s.extract 0 k)) W := by
  subst hx
  rw [run_slice_string_h (w := W) (t := 9) (s := s) (kh := .i64) (h := k) (ht := Tryd.underlying9) (h0 := by omega) (h2 := by omega)]
  rfl
theorem cutFrom (s : ByteArray) (k : Nat) (h : k ≤ s.size) (W : World) (x : Int) (hx : x = k) : (Instr.slice 9 (.string s) (some (.int .i64 x)) none none).run Tryd.prog W = .ok (.string (s.extract k s.size)) W := by
  subst hx
  rw [run_slice_string_l (w := W) (t := 9) (s := s) (kl := .i64) (l := k) (ht := Tryd.underlying9) (h0 := by omega) (h1 := by omega)]
  rfl

set_option maxHeartbeats 1000000 in
theorem specDirOf (s : ByteArray) (w : World) (hs : s.size ≤ maxLen) :
    Calls Tryd.prog 20 #[.string s] w fun e w' => e = .returned (.string (strOf (dirV s.data.toList))) ∧ Below w.heap.size w w' := by
  have CP := specPathOk s w hs
  by_cases hd : 0 < depthV s.data.toList
  rotate_left
  · rw [decide_eq_false hd] at CP
    have HD := Lib.hid (depth_not hd).1
    clear hd
    go_enter Tryd.func20, Tryd.ntmps20
    go_wp2_with (go_at_call 32; refine CP.mono ?_; rintro e w' ⟨rfl, hb⟩)
    go_ret
    exact ⟨ret_str (by rw [HD.out]; rfl), hb⟩
  rw [decide_eq_true hd] at CP
  obtain ⟨ms, n, hf, he⟩ := depth_pos hd
  have HD := Lib.hid (show dirV s.data.toList = pathL ms by rw [he]; exact dir_of hf)
  have he2 := he
  rw [pathL_snoc] at he2
  have CL := Lib.hid (fun W => specLast s W _ n he2 (nameB_free (fit_snoc.1 hf).2.2) hs)
  have hpre := extract_pre s _ _ he2
  have hple : (if ms = [] then [] else pathL ms).length ≤ s.size := by have := congrArg List.length he2; simp at this; omega
  by_cases hm : ms = []
  · rw [if_pos hm] at CL
    have HM := Lib.hid hm
    clear hd he he2 hm hpre hple
    go_enter Tryd.func20, Tryd.ntmps20
    go_wp2_with (first
      | (go_at_call 32; refine CP.mono ?_; rintro e w1 ⟨rfl, hb⟩)
      | (go_at_call 35; refine (CL.out _).mono ?_; rintro e w2 ⟨rfl, rfl⟩))
    go_ret
    exact ⟨ret_str (by rw [HD.out, HM.out]; rfl), hb⟩
  · rw [if_neg hm] at CL hpre hple
    have hsl := fun W => cutTo s (pathL ms).length hple W (((pathL ms).length : Int) + 1 - 1) (by omega)
    have hsl2 := fun W => cutTo s (pathL ms).length hple W ((pathL ms).length : Int) rfl
    rw [hpre] at hsl hsl2
    have hpos : 1 ≤ (pathL ms).length := by obtain ⟨r, hr⟩ := pathL_head ms; rw [hr]; simp
    have hle : (pathL ms).length ≤ 250 := by have := pathL_len (fit_sub hf).1; omega
    generalize (pathL ms).length = k at CL hsl hsl2 hpos hle
    have hne : (((k : Int) + 1) == 1) = false := by rw [beq_eq_false_iff_ne]; omega
    clear hd he he2 hm hpre hple
    go_enter Tryd.func20, Tryd.ntmps20
    go_wp2_with (first
      | (go_at_call 32; refine CP.mono ?_; rintro e w1 ⟨rfl, hb⟩)
      | (go_at_call 35; refine (CL.out _).mono ?_; rintro e w2 ⟨rfl, rfl⟩))
    go_ret
    exact ⟨ret_str (by rw [HD.out]), hb⟩

set_option maxHeartbeats 1000000 in
theorem specBaseOf (s : ByteArray) (w : World) (hs : s.size ≤ maxLen) :
    Calls Tryd.prog 27 #[.string s] w fun e w' => e = .returned (.string (strOf (baseV s.data.toList))) ∧ Below w.heap.size w w' := by
  have CP := specPathOk s w hs
  by_cases hd : 0 < depthV s.data.toList
  rotate_left
  · rw [decide_eq_false hd] at CP
    have HD := Lib.hid (depth_not hd).2
    clear hd
    go_enter Tryd.func27, Tryd.ntmps27
    go_wp2_with (go_at_call 32; refine CP.mono ?_; rintro e w' ⟨rfl, hb⟩)
    go_ret
    exact ⟨ret_str (by rw [HD.out]; rfl), hb⟩
  rw [decide_eq_true hd] at CP
  obtain ⟨ms, n, hf, he⟩ := depth_pos hd
  have HD := Lib.hid (show baseV s.data.toList = n by rw [he]; exact base_of hf)
  have he2 := he
  rw [pathL_snoc] at he2
  have CL := Lib.hid (fun W => specLast s W _ n he2 (nameB_free (fit_snoc.1 hf).2.2) hs)
  generalize (if ms = [] then [] else pathL ms) = p at CL he2
  have hple : p.length + 1 ≤ s.size := by have := congrArg List.length he2; simp at this; omega
  have hsl := fun W => cutFrom s (p.length + 1) hple W ((p.length : Int) + 1) (by omega)
  have hsuf : s.extract (p.length + 1) s.size = strOf n := by
    have := extract_suf s (p ++ [47]) n (by rw [he2]; simp)
    rwa [List.length_append] at this
  rw [hsuf] at hsl
  clear hd he he2 hsuf hple
  go_enter Tryd.func27, Tryd.ntmps27
  go_wp2_with (first
    | (go_at_call 32; refine CP.mono ?_; rintro e w1 ⟨rfl, hb⟩)
    | (go_at_call 35; refine (CL.out _).mono ?_; rintro e w2 ⟨rfl, rfl⟩))
  go_ret
  exact ⟨ret_str (by rw [HD.out]), hb⟩
end Go.Proofs.YtipepbnmllbonaaDoor
