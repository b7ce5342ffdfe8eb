/- Contracts of spec.Join and spec.Under. -/
import Derived.Test.YtcknohalbamjfaaDoorPathFns2
namespace Go.Proofs.YtcknohalbamjfaaDoor
open Go.RowKit

theorem strOf_self (s : ByteArray) : s = strOf s.data.toList := by cases s; simp [strOf]
theorem addB (a b : ByteArray) (h : a.size + b.size ≤ 9223372036854775807) (w : World) : (Op.stringOp .add a b).run Tryd.prog w = .ok (.string (strOf (a.data.toList ++ b.data.toList))) w := by
  have := run_add a.data.toList b.data.toList (by simpa using h) w
  rw [← strOf_self, ← strOf_self] at this
  exact this
theorem join_none {d : List UInt8} (n : List UInt8) (h : namesO d = none) : joinV d n = [] := by unfold joinV; rw [h]
theorem depth_none {d : List UInt8} (h : namesO d = none) : depthV d = -1 := by unfold depthV; rw [h]

set_option maxHeartbeats 2000000 in
theorem specJoin (d n : ByteArray) (w : World) (hd : d.size ≤ 2000000) (hn : n.size ≤ 2000000) :
    Calls Tryd.prog 27 #[.string d, .string n] w fun e w' => e = .returned (.string (strOf (joinV d.data.toList n.data.toList))) ∧ Below w.heap.size w w' := by
  have ha1 := addB d ⟨#[47]⟩ (by have h1 : (⟨#[47]⟩ : ByteArray).size = 1 := rfl; omega)
  have ha2 := addB (strOf (d.data.toList ++ [47])) n (by rw [strOf_size]; simp; omega)
  have ha3 := addB ⟨#[47]⟩ n (by have h1 : (⟨#[47]⟩ : ByteArray).size = 1 := rfl; omega)
  rw [show (⟨#[47]⟩ : ByteArray).data.toList = [47] from rfl] at ha1 ha3
  rw [strOf_data, List.append_assoc] at ha2
  have CD := specDepthOf d w (by unfold maxLen; omega)
  have CN := Lib.hid (fun W => specNameOk n W)
  have hdl : d.data.toList.length = d.size := by simp
  have hnl : n.data.toList.length = n.size := by simp
  cases hr : (d.data.toList == [47]) with
  | true =>
    have hr' : (d.toList == [47]) = true := by rw [lit_eq]; exact hr
    have hroot : d.data.toList = pathL [] := beq_iff_eq.1 hr
    have CP := Lib.hid (fun W => specPathOk (strOf ([47] ++ n.data.toList)) W (by rw [strOf_size]; unfold maxLen; simp; omega))
    have HJ := Lib.hid (join_is [] rfl n.data.toList)
    rw [strOf_data] at CP
    rw [hroot, show depthV (pathL []) = 0 from rfl] at CD
    rw [hroot]
    rw [show pathL ([] ++ [n.data.toList]) = [47] ++ n.data.toList from by rw [pathL_snoc]; rfl] at HJ
    generalize joinV (pathL []) n.data.toList = jv at HJ
    generalize [47] ++ n.data.toList = out at ha3 CP HJ
    generalize nameB n.data.toList = nb at CN HJ
    generalize depthV out = dep at CP HJ
    clear hr hroot
    cases nb with
    | false =>
      go_enter Tryd.func27, Tryd.ntmps27
      go_wp2_with (first
        | (go_at_call 31; refine CD.mono ?_; rintro e w1 ⟨rfl, hb1⟩)
        | (go_at_call 45; refine (CN.out _).mono ?_; rintro e w2 ⟨rfl, rfl⟩))
      go_ret
      exact ⟨ret_str (by rw [HJ.out, if_neg (by simp)]; rfl), hb1⟩
    | true =>
      by_cases hp : 0 < dep
      · rw [decide_eq_true hp] at CP
        have HR := Lib.hid (show jv = out by rw [HJ.out, if_pos ⟨rfl, hp⟩])
        clear HJ
        go_enter Tryd.func27, Tryd.ntmps27
        go_wp2_with (first
          | (go_at_call 31; refine CD.mono ?_; rintro e w1 ⟨rfl, hb1⟩)
          | (go_at_call 45; refine (CN.out _).mono ?_; rintro e w2 ⟨rfl, rfl⟩)
          | (go_at_call 21; refine (CP.out _).mono ?_; rintro e w3 ⟨rfl, hb3⟩))
        go_ret
        exact ⟨ret_str (by rw [HR.out]), hb1.trans (hb3.mono hb1.size)⟩
      · rw [decide_eq_false hp] at CP
        have HR := Lib.hid (show jv = [] by rw [HJ.out, if_neg (fun h => hp h.2)])
        clear HJ
        go_enter Tryd.func27, Tryd.ntmps27
        go_wp2_with (first
          | (go_at_call 31; refine CD.mono ?_; rintro e w1 ⟨rfl, hb1⟩)
          | (go_at_call 45; refine (CN.out _).mono ?_; rintro e w2 ⟨rfl, rfl⟩)
          | (go_at_call 21; refine (CP.out _).mono ?_; rintro e w3 ⟨rfl, hb3⟩))
        go_ret
        exact ⟨ret_str (by rw [HR.out]; rfl), hb1.trans (hb3.mono hb1.size)⟩
  | false =>
    have hr' : (d.toList == [47]) = false := by rw [lit_eq]; exact hr
    rcases path_or d.data.toList with ⟨ns, hf, hns⟩ | hno
    · have hne : ns ≠ [] := fun e => by subst e; rw [hns] at hr; exact absurd hr (by decide)
      have CP := Lib.hid (fun W => specPathOk (strOf (d.data.toList ++ ([47] ++ n.data.toList))) W (by rw [strOf_size]; unfold maxLen; simp; omega))
      have HJ := Lib.hid (join_is ns hf n.data.toList)
      rw [strOf_data] at CP
      rw [show depthV d.data.toList = ns.length by rw [hns]; exact depthV_of hf] at CD
      have hjn : joinV d.data.toList n.data.toList = joinV (pathL ns) n.data.toList := by rw [hns]
      rw [hjn]
      rw [show pathL (ns ++ [n.data.toList]) = d.data.toList ++ ([47] ++ n.data.toList) from by rw [pathL_snoc, if_neg hne, hns]; rfl] at HJ
      generalize joinV (pathL ns) n.data.toList = jv at HJ
      generalize d.data.toList ++ ([47] ++ n.data.toList) = out at ha2 CP HJ
      generalize strOf (d.data.toList ++ [47]) = d1 at ha1 ha2
      generalize nameB n.data.toList = nb at CN HJ
      generalize depthV out = dep at CP HJ
      clear hr hns hjn
      cases nb with
      | false =>
        go_enter Tryd.func27, Tryd.ntmps27
        go_wp2_with (first
          | (go_at_call 31; refine CD.mono ?_; rintro e w1 ⟨rfl, hb1⟩)
          | (go_at_call 45; refine (CN.out _).mono ?_; rintro e w2 ⟨rfl, rfl⟩))
        go_ret
        exact ⟨ret_str (by rw [HJ.out, if_neg (by simp)]; rfl), hb1⟩
      | true =>
        by_cases hp : 0 < dep
        · rw [decide_eq_true hp] at CP
          have HR := Lib.hid (show jv = out by rw [HJ.out, if_pos ⟨rfl, hp⟩])
          clear HJ
          go_enter Tryd.func27, Tryd.ntmps27
          go_wp2_with (first
            | (go_at_call 31; refine CD.mono ?_; rintro e w1 ⟨rfl, hb1⟩)
            | (go_at_call 45; refine (CN.out _).mono ?_; rintro e w2 ⟨rfl, rfl⟩)
            | (go_at_call 21; refine (CP.out _).mono ?_; rintro e w3 ⟨rfl, hb3⟩))
          go_ret
          exact ⟨ret_str (by rw [HR.out]), hb1.trans (hb3.mono hb1.size)⟩
        · rw [decide_eq_false hp] at CP
          have HR := Lib.hid (show jv = [] by rw [HJ.out, if_neg (fun h => hp h.2)])
          clear HJ
          go_enter Tryd.func27, Tryd.ntmps27
          go_wp2_with (first
            | (go_at_call 31; refine CD.mono ?_; rintro e w1 ⟨rfl, hb1⟩)
            | (go_at_call 45; refine (CN.out _).mono ?_; rintro e w2 ⟨rfl, rfl⟩)
            | (go_at_call 21; refine (CP.out _).mono ?_; rintro e w3 ⟨rfl, hb3⟩))
          go_ret
          exact ⟨ret_str (by rw [HR.out]; rfl), hb1.trans (hb3.mono hb1.size)⟩
    · have HJ := Lib.hid (join_none n.data.toList hno)
      rw [depth_none hno] at CD
      clear hr hno
      generalize d.data.toList ++ ([47] ++ n.data.toList) = out at ha2
      generalize strOf (d.data.toList ++ [47]) = d1 at ha1 ha2
      go_enter Tryd.func27, Tryd.ntmps27
      go_wp2_with (go_at_call 31; refine CD.mono ?_; rintro e w1 ⟨rfl, hb1⟩)
      go_ret
      exact ⟨ret_str (by rw [HJ.out]; rfl), hb1⟩

theorem under_none_l {l d : List UInt8} (h : ¬ 0 < depthV l) : underV l d = false := by
  unfold underV
  cases hn : namesO l with
  | none => rfl
  | some ns =>
    unfold depthV at h; rw [hn] at h
    have : ns = [] := List.eq_nil_of_length_eq_zero (by have h2 : ¬ (0 : Int) < (ns.length : Int) := h; omega)
    subst this
    cases namesO d with
    | none => rfl
    | some ms => simp
theorem under_none_d {l d : List UInt8} (h : namesO d = none) : underV l d = false := by
  unfold underV
  rw [h]
  cases namesO l <;> rfl
theorem under_root {l : List UInt8} (h : 0 < depthV l) : underV l [47] = true := by
  unfold underV
  cases hn : namesO l with
  | none => unfold depthV at h; rw [hn] at h; simp at h
  | some ns =>
    unfold depthV at h; rw [hn] at h
    have h2 : (0 : Int) < (ns.length : Int) := h
    show (decide (([] : List (List UInt8)).length < ns.length) && (ns.take 0 == [])) = true
    simp; omega

set_option maxHeartbeats 2000000 in
theorem specUnder (s d : ByteArray) (w : World) (hs : s.size ≤ 2000000) (hd : d.size ≤ 2000000) :
    Calls Tryd.prog 30 #[.string s, .string d] w fun e w' => e = .returned (.bool (underV s.data.toList d.data.toList)) ∧ Below w.heap.size w w' := by
  have CP := specPathOk s w (by unfold maxLen; omega)
  have CD := Lib.hid (fun W => specDepthOf d W (by unfold maxLen; omega))
  have hsl : s.data.toList.length = s.size := by simp
  have hdl : d.data.toList.length = d.size := by simp
  by_cases hp : 0 < depthV s.data.toList
  rotate_left
  · rw [decide_eq_false hp] at CP
    have HU := Lib.hid (under_none_l (d := d.data.toList) hp)
    clear hp
    go_enter Tryd.func30, Tryd.ntmps30
    go_wp2_with (go_at_call 21; refine CP.mono ?_; rintro e w1 ⟨rfl, hb1⟩)
    go_ret
    exact ⟨ret_bool (by rw [HU.out]), hb1⟩
  rw [decide_eq_true hp] at CP
  rcases path_or d.data.toList with ⟨ms, hf, hms⟩ | hno
  rotate_left
  · rw [depth_none hno] at CD
    have HU := Lib.hid (under_none_d (l := s.data.toList) hno)
    clear hp hno
    go_enter Tryd.func30, Tryd.ntmps30
    go_wp2_with (first
      | (go_at_call 21; refine CP.mono ?_; rintro e w1 ⟨rfl, hb1⟩)
      | (go_at_call 31; refine (CD.out _).mono ?_; rintro e w2 ⟨rfl, hb2⟩))
    go_ret
    exact ⟨ret_bool (by rw [HU.out]), hb1.trans (hb2.mono hb1.size)⟩
  have hdep : depthV d.data.toList = ms.length := by rw [hms]; exact depthV_of hf
  rw [hdep] at CD
  cases hr : (d.data.toList == [47]) with
  | true =>
    have hr' : (d.toList == [47]) = true := by rw [lit_eq]; exact hr
    have HU := Lib.hid (under_root hp)
    have HR := Lib.hid (beq_iff_eq.1 hr)
    clear hp hms hr hdep
    go_enter Tryd.func30, Tryd.ntmps30
    go_wp2_with (first
      | (go_at_call 21; refine CP.mono ?_; rintro e w1 ⟨rfl, hb1⟩)
      | (go_at_call 31; refine (CD.out _).mono ?_; rintro e w2 ⟨rfl, hb2⟩))
    go_ret
    exact ⟨ret_bool (by rw [HR.out, HU.out]), hb1.trans (hb2.mono hb1.size)⟩
  | false =>
    have hr' : (d.toList == [47]) = false := by rw [lit_eq]; exact hr
    have hm0 : ms ≠ [] := fun e => by subst e; rw [hms] at hr; exact absurd hr (by decide)
    obtain ⟨av, n, hfs, hss⟩ := depth_pos hp
    have HU := Lib.hid (show underV s.data.toList d.data.toList = (decide (d.size + 1 < s.size) && decide (s.data.toList.take (d.size + 1) = d.data.toList ++ [47])) by
      rw [← hsl, ← hdl, hms, hss]; exact under_is hfs hf (by simp) hm0)
    have hadd := addB d ⟨#[47]⟩ (by have h1 : (⟨#[47]⟩ : ByteArray).size = 1 := rfl; omega)
    rw [show (⟨#[47]⟩ : ByteArray).data.toList = [47] from rfl] at hadd
    clear hp hms hr hdep hss
    by_cases hlt : d.size + 1 < s.size
    · have hlti : (d.size : Int) + 1 < (s.size : Int) := by omega
      have hcut := fun W => cutTo s (d.size + 1) (by omega) W ((d.size : Int) + 1) (by omega)
      have hex : s.extract 0 (d.size + 1) = strOf (s.data.toList.take (d.size + 1)) := by rw [extract_str]; simp
      rw [hex] at hcut
      generalize s.data.toList.take (d.size + 1) = p at hcut HU
      generalize d.data.toList ++ [47] = q at hadd HU
      have hcmp : ((strOf p).toList == (strOf q).toList) = decide (p = q) := by
        rw [Lib.toList_data, Lib.toList_data, strOf_data, strOf_data]
        by_cases e : p = q
        · subst e; simp
        · rw [decide_eq_false e, beq_eq_false_iff_ne]; exact e
      go_enter Tryd.func30, Tryd.ntmps30
      go_wp2_with (first
        | (go_at_call 21; refine CP.mono ?_; rintro e w1 ⟨rfl, hb1⟩)
        | (go_at_call 31; refine (CD.out _).mono ?_; rintro e w2 ⟨rfl, hb2⟩))
      go_ret
      exact ⟨ret_bool (by rw [HU.out, decide_eq_true hlt, Bool.true_and]), hb1.trans (hb2.mono hb1.size)⟩
    · have hlti : ¬ (d.size : Int) + 1 < (s.size : Int) := by omega
      go_enter Tryd.func30, Tryd.ntmps30
      go_wp2_with (first
        | (go_at_call 21; refine CP.mono ?_; rintro e w1 ⟨rfl, hb1⟩)
        | (go_at_call 31; refine (CD.out _).mono ?_; rintro e w2 ⟨rfl, hb2⟩))
      go_ret
      exact ⟨ret_bool (by rw [HU.out, decide_eq_false hlt, Bool.false_and]), hb1.trans (hb2.mono hb1.size)⟩
end Go.Proofs.YtcknohalbamjfaaDoor
