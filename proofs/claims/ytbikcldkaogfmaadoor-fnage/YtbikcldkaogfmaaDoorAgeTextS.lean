/- The contract of spec.AgeText. -/
import Derived.Test.YtbikcldkaogfmaaDoorAgeText
namespace Go.Proofs.YtbikcldkaogfmaaDoor
open Go.RowKit

theorem specTimeA (t : Int) (w : World) :
    Calls Tryd.prog 47 #[.int .i64 t] w fun e w' => e = .returned (.bool (inB t 0 253402300799)) ∧ w = w' := by
  go_enter Tryd.func47, Tryd.ntmps47
  go_wp2_with (first | (go_at_call 65; refine (specIn _ _ _ _).mono ?_; rintro e w' ⟨rfl, rfl⟩))
  go_ret
  exact ⟨rfl, rfl⟩
set_option maxRecDepth 100000 in
set_option maxHeartbeats 8000000 in
theorem specAgeText (n : Int) (w : World) :
    Calls Tryd.prog 17 #[.int .i64 n] w fun e w' => e = .returned (.string (strOf (ageTextV n))) ∧ Below w.heap.size w w' := by
  have CT := Lib.hid (show ∀ t W, Calls Tryd.prog 47 #[.int .i64 t] W fun e w' => e = .returned (.bool (inB t 0 253402300799)) ∧ W = w' from specTimeA)
  by_cases h : 0 ≤ n ∧ n ≤ 253402300799
  rotate_left
  · have hf : inB n 0 253402300799 = false := inB_f h
    rw [show ageTextV n = [] from if_pos hf]
    clear h
    go_enter Tryd.func17, Tryd.ntmps17
    go_wp2_with (go_at_call 47; refine (CT.out _ _).mono ?_; rintro e w' ⟨rfl, rfl⟩)
    go_ret
    exact ⟨rfl, Below.refl _ _⟩
  have ht : inB n 0 253402300799 = true := inB_t h.1 h.2
  obtain ⟨h0, h1⟩ := h
  by_cases hz : n = 0
  · subst hz
    rw [show ageTextV 0 = [48, 115] by unfold ageTextV; rw [ht]; rfl]
    go_enter Tryd.func17, Tryd.ntmps17
    go_wp2_with (go_at_call 47; refine (CT.out _ _).mono ?_; rintro e w' ⟨rfl, rfl⟩)
    go_ret
    exact ⟨rfl, Below.refl _ _⟩
  obtain ⟨T, hT⟩ : ∃ T, ageT unitsL n = T := ⟨_, rfl⟩
  rw [show ageTextV n = T by unfold ageTextV; rw [ht, if_neg hz, hT]; rfl]
  have HT := Lib.hid hT
  have hz' : (n == 0) = false := by simpa using hz
  clear hT hz
  go_enter Tryd.func17, Tryd.ntmps17
  go_wp2_with (go_at_call 47; refine (CT.out _ _).mono ?_; rintro e w' ⟨rfl, rfl⟩)
  go_loopw [0, 3, 5, 6] (fun nv ov iv _ wr => ∃ (m : Int) (o : List UInt8) (k : Nat), nv = .int .i64 m ∧ ov = .string (strOf o) ∧ iv = .int .i64 k ∧ k ≤ 5 ∧ 0 ≤ m ∧ m ≤ 253402300799 ∧ o.length ≤ 200 * k ∧ Hid (o ++ ageT (unitsL.drop k) m = T) ∧ Below w.heap.size w wr) (fun _ _ iv _ _ => 5 - (intOf iv).toNat)
  case atStart => exact ⟨n, [], 0, rfl, rfl, rfl, by omega, h0, h1, by simp, Lib.hid (by rw [List.nil_append, List.drop_zero]; exact HT.out), Below.refl _ _⟩
  case round =>
    clear hz' ht h0 h1
    obtain ⟨m, o, k, rfl, rfl, rfl, hk, hm0, hm1, ho, HA, hb⟩ := hrel
    rcases (by omega : k = 0 ∨ k = 1 ∨ k = 2 ∨ k = 3 ∨ k = 4 ∨ k = 5) with rfl | rfl | rfl | rfl | rfl | rfl
    rotate_right
    · go_wp2
      go_ret
      exact ⟨ret_str (by rw [← HA.out]; simp [unitsL, ageT]), hb⟩
    · have hat := wd_at0
      have hcut := wd_cut0
      have CU := Lib.hid specUnit0
      by_cases hu : 604800 ≤ m
      · have HH := Lib.hid (ageT_hit (show unitsL.drop 0 = (119, 604800) :: unitsL.drop 1 from rfl) hu o)
        have hlen := itoa_short (m / 604800) (by omega) (by omega)
        have CD := Lib.hid (show ∀ W j, Calls Tryd.prog 20 #[.int .i64 (m / 604800)] (World.drewN W j) fun e w'' => e = .returned (.string (strOf (Lib.itoa (m / 604800)))) ∧ ∃ i, w'' = W.drewN i from
          fun W j => (specDecText (m / 604800) _ (by omega) (by omega)).mono fun _ _ ⟨he, hw⟩ => ⟨he, j, hw.symm⟩)
        have ha1 := run_add o (Lib.itoa (m / 604800)) (by omega)
        have ha2 : ∀ W : World, (Op.stringOp .add (strOf (o ++ Lib.itoa (m / 604800))) ⟨#[119]⟩).run Tryd.prog W = .ok (.string (strOf (o ++ Lib.itoa (m / 604800) ++ [119]))) W := fun W => run_add _ [119] (by simp; omega) W
        have hlen2 : (o ++ Lib.itoa (m / 604800) ++ [119]).length ≤ 200 * 1 := by simp; omega
        clear hlen
        generalize Lib.itoa (m / 604800) = q at HH CD ha1 ha2 hlen2
        go_wp2_with (go_at_call 48; refine (CU.out _).mono ?_; rintro e w' ⟨rfl, rfl⟩)
        go_quiet (exact CD.out _ _)
        go_wp2
        go_roundw
        case rel => exact ⟨m % 604800, o ++ q ++ [119], 1, by go_num, by rw [List.append_assoc], rfl, by omega, by omega, by omega, hlen2, Lib.hid (by rw [← HA.out, HH.out]), below_drewN hb _⟩
        case measure => simp [intOf]
      · have HH := Lib.hid (ageT_miss (show unitsL.drop 0 = (119, 604800) :: unitsL.drop 1 from rfl) hu hm0 o)
        go_wp2_with (go_at_call 48; refine (CU.out _).mono ?_; rintro e w' ⟨rfl, rfl⟩)
        go_roundw
        case rel => exact ⟨m, o, 1, rfl, rfl, rfl, by omega, hm0, hm1, by omega, Lib.hid (by rw [← HA.out, HH.out]), hb⟩
        case measure => simp [intOf]
    · have hat := wd_at1
      have hcut := wd_cut1
      have CU := Lib.hid specUnit1
      by_cases hu : 86400 ≤ m
      · have HH := Lib.hid (ageT_hit (show unitsL.drop 1 = (100, 86400) :: unitsL.drop 2 from rfl) hu o)
        have hlen := itoa_short (m / 86400) (by omega) (by omega)
        have CD := Lib.hid (show ∀ W j, Calls Tryd.prog 20 #[.int .i64 (m / 86400)] (World.drewN W j) fun e w'' => e = .returned (.string (strOf (Lib.itoa (m / 86400)))) ∧ ∃ i, w'' = W.drewN i from
          fun W j => (specDecText (m / 86400) _ (by omega) (by omega)).mono fun _ _ ⟨he, hw⟩ => ⟨he, j, hw.symm⟩)
        have ha1 := run_add o (Lib.itoa (m / 86400)) (by omega)
        have ha2 : ∀ W : World, (Op.stringOp .add (strOf (o ++ Lib.itoa (m / 86400))) ⟨#[100]⟩).run Tryd.prog W = .ok (.string (strOf (o ++ Lib.itoa (m / 86400) ++ [100]))) W := fun W => run_add _ [100] (by simp; omega) W
        have hlen2 : (o ++ Lib.itoa (m / 86400) ++ [100]).length ≤ 200 * 2 := by simp; omega
        clear hlen
        generalize Lib.itoa (m / 86400) = q at HH CD ha1 ha2 hlen2
        go_wp2_with (go_at_call 48; refine (CU.out _).mono ?_; rintro e w' ⟨rfl, rfl⟩)
        go_quiet (exact CD.out _ _)
        go_wp2
        go_roundw
        case rel => exact ⟨m % 86400, o ++ q ++ [100], 2, by go_num, by rw [List.append_assoc], rfl, by omega, by omega, by omega, hlen2, Lib.hid (by rw [← HA.out, HH.out]), below_drewN hb _⟩
        case measure => simp [intOf]
      · have HH := Lib.hid (ageT_miss (show unitsL.drop 1 = (100, 86400) :: unitsL.drop 2 from rfl) hu hm0 o)
        go_wp2_with (go_at_call 48; refine (CU.out _).mono ?_; rintro e w' ⟨rfl, rfl⟩)
        go_roundw
        case rel => exact ⟨m, o, 2, rfl, rfl, rfl, by omega, hm0, hm1, by omega, Lib.hid (by rw [← HA.out, HH.out]), hb⟩
        case measure => simp [intOf]
    · have hat := wd_at2
      have hcut := wd_cut2
      have CU := Lib.hid specUnit2
      by_cases hu : 3600 ≤ m
      · have HH := Lib.hid (ageT_hit (show unitsL.drop 2 = (104, 3600) :: unitsL.drop 3 from rfl) hu o)
        have hlen := itoa_short (m / 3600) (by omega) (by omega)
        have CD := Lib.hid (show ∀ W j, Calls Tryd.prog 20 #[.int .i64 (m / 3600)] (World.drewN W j) fun e w'' => e = .returned (.string (strOf (Lib.itoa (m / 3600)))) ∧ ∃ i, w'' = W.drewN i from
          fun W j => (specDecText (m / 3600) _ (by omega) (by omega)).mono fun _ _ ⟨he, hw⟩ => ⟨he, j, hw.symm⟩)
        have ha1 := run_add o (Lib.itoa (m / 3600)) (by omega)
        have ha2 : ∀ W : World, (Op.stringOp .add (strOf (o ++ Lib.itoa (m / 3600))) ⟨#[104]⟩).run Tryd.prog W = .ok (.string (strOf (o ++ Lib.itoa (m / 3600) ++ [104]))) W := fun W => run_add _ [104] (by simp; omega) W
        have hlen2 : (o ++ Lib.itoa (m / 3600) ++ [104]).length ≤ 200 * 3 := by simp; omega
        clear hlen
        generalize Lib.itoa (m / 3600) = q at HH CD ha1 ha2 hlen2
        go_wp2_with (go_at_call 48; refine (CU.out _).mono ?_; rintro e w' ⟨rfl, rfl⟩)
        go_quiet (exact CD.out _ _)
        go_wp2
        go_roundw
        case rel => exact ⟨m % 3600, o ++ q ++ [104], 3, by go_num, by rw [List.append_assoc], rfl, by omega, by omega, by omega, hlen2, Lib.hid (by rw [← HA.out, HH.out]), below_drewN hb _⟩
        case measure => simp [intOf]
      · have HH := Lib.hid (ageT_miss (show unitsL.drop 2 = (104, 3600) :: unitsL.drop 3 from rfl) hu hm0 o)
        go_wp2_with (go_at_call 48; refine (CU.out _).mono ?_; rintro e w' ⟨rfl, rfl⟩)
        go_roundw
        case rel => exact ⟨m, o, 3, rfl, rfl, rfl, by omega, hm0, hm1, by omega, Lib.hid (by rw [← HA.out, HH.out]), hb⟩
        case measure => simp [intOf]
    · have hat := wd_at3
      have hcut := wd_cut3
      have CU := Lib.hid specUnit3
      by_cases hu : 60 ≤ m
      · have HH := Lib.hid (ageT_hit (show unitsL.drop 3 = (109, 60) :: unitsL.drop 4 from rfl) hu o)
        have hlen := itoa_short (m / 60) (by omega) (by omega)
        have CD := Lib.hid (show ∀ W j, Calls Tryd.prog 20 #[.int .i64 (m / 60)] (World.drewN W j) fun e w'' => e = .returned (.string (strOf (Lib.itoa (m / 60)))) ∧ ∃ i, w'' = W.drewN i from
          fun W j => (specDecText (m / 60) _ (by omega) (by omega)).mono fun _ _ ⟨he, hw⟩ => ⟨he, j, hw.symm⟩)
        have ha1 := run_add o (Lib.itoa (m / 60)) (by omega)
        have ha2 : ∀ W : World, (Op.stringOp .add (strOf (o ++ Lib.itoa (m / 60))) ⟨#[109]⟩).run Tryd.prog W = .ok (.string (strOf (o ++ Lib.itoa (m / 60) ++ [109]))) W := fun W => run_add _ [109] (by simp; omega) W
        have hlen2 : (o ++ Lib.itoa (m / 60) ++ [109]).length ≤ 200 * 4 := by simp; omega
        clear hlen
        generalize Lib.itoa (m / 60) = q at HH CD ha1 ha2 hlen2
        go_wp2_with (go_at_call 48; refine (CU.out _).mono ?_; rintro e w' ⟨rfl, rfl⟩)
        go_quiet (exact CD.out _ _)
        go_wp2
        go_roundw
        case rel => exact ⟨m % 60, o ++ q ++ [109], 4, by go_num, by rw [List.append_assoc], rfl, by omega, by omega, by omega, hlen2, Lib.hid (by rw [← HA.out, HH.out]), below_drewN hb _⟩
        case measure => simp [intOf]
      · have HH := Lib.hid (ageT_miss (show unitsL.drop 3 = (109, 60) :: unitsL.drop 4 from rfl) hu hm0 o)
        go_wp2_with (go_at_call 48; refine (CU.out _).mono ?_; rintro e w' ⟨rfl, rfl⟩)
        go_roundw
        case rel => exact ⟨m, o, 4, rfl, rfl, rfl, by omega, hm0, hm1, by omega, Lib.hid (by rw [← HA.out, HH.out]), hb⟩
        case measure => simp [intOf]
    · have hat := wd_at4
      have hcut := wd_cut4
      have CU := Lib.hid specUnit4
      by_cases hu : 1 ≤ m
      · have HH := Lib.hid (ageT_hit1 (show unitsL.drop 4 = (115, 1) :: unitsL.drop 5 from rfl) hu o)
        have hlen := itoa_short m (by omega) (by omega)
        have CD := Lib.hid (show ∀ W j, Calls Tryd.prog 20 #[.int .i64 m] (World.drewN W j) fun e w'' => e = .returned (.string (strOf (Lib.itoa m))) ∧ ∃ i, w'' = W.drewN i from
          fun W j => (specDecText m _ (by omega) (by omega)).mono fun _ _ ⟨he, hw⟩ => ⟨he, j, hw.symm⟩)
        have ha1 := run_add o (Lib.itoa m) (by omega)
        have ha2 : ∀ W : World, (Op.stringOp .add (strOf (o ++ Lib.itoa m)) ⟨#[115]⟩).run Tryd.prog W = .ok (.string (strOf (o ++ Lib.itoa m ++ [115]))) W := fun W => run_add _ [115] (by simp; omega) W
        have hlen2 : (o ++ Lib.itoa m ++ [115]).length ≤ 200 * 5 := by simp; omega
        clear hlen
        generalize Lib.itoa m = q at HH CD ha1 ha2 hlen2
        go_wp2_with (go_at_call 48; refine (CU.out _).mono ?_; rintro e w' ⟨rfl, rfl⟩)
        go_quiet (exact CD.out _ _)
        go_wp2
        go_roundw
        case rel => exact ⟨0, o ++ q ++ [115], 5, by go_num, by rw [List.append_assoc], rfl, by omega, by omega, by omega, hlen2, Lib.hid (by rw [← HA.out, HH.out]), below_drewN hb _⟩
        case measure => simp [intOf]
      · have HH := Lib.hid (ageT_miss (show unitsL.drop 4 = (115, 1) :: unitsL.drop 5 from rfl) hu hm0 o)
        go_wp2_with (go_at_call 48; refine (CU.out _).mono ?_; rintro e w' ⟨rfl, rfl⟩)
        go_roundw
        case rel => exact ⟨m, o, 5, rfl, rfl, rfl, by omega, hm0, hm1, by omega, Lib.hid (by rw [← HA.out, HH.out]), hb⟩
        case measure => simp [intOf]
end Go.Proofs.YtbikcldkaogfmaaDoor
