/- Proved: laws.FnPath answers true at every code: of a text that is drawn and is a path impl.Join of its impl.DirOf and impl.BaseOf is that text, which is one deeper than its folder, under that and not under itself, nor is the folder under it, and its last part is a name; of another text both are empty; the argument reads as before. The listed tables of the standard library are tied to the program's text, and are not read; the card speaks of the pruned copy of the project that the seat holds. -/
import Derived.Test.YtcknohalbamjfaaDoorPathFacts
import Derived.Test.YtcknohalbamjfaaDoorLaid4
namespace Go.Proofs.YtcknohalbamjfaaDoor
open Go.RowKit

set_option maxRecDepth 100000 in
set_option maxHeartbeats 8000000 in
theorem walkFnPath (a : Option Addr) (len cap : Nat) (zs : List Int) (w : World) (hr : IsRow .u8 w a len cap zs) :
    Calls Tryd.prog 4 #[.slice a len cap] w fun e w' => e = .returned (.bool true) ∧ Below w.heap.size w w' := by
  by_cases hlen : len ≤ 1048576
  rotate_left
  · clear hr
    go_enter Tryd.func4, Tryd.ntmps4
    go_wp2_with fail
    refine (bigT _ _ _ _ hlen).mono ?_
    rintro e w' ⟨rfl, rfl⟩
    go_wp2
    go_ret
    exact ⟨rfl, Below.refl _ _⟩
  have HR := Lib.hid hr
  clear hr
  go_enter Tryd.func4, Tryd.ntmps4
  go_wp2_with fail
  refine (bigF _ _ _ _ hlen).mono ?_
  rintro e w' ⟨rfl, rfl⟩
  go_wp2_with fail
  refine (specDrawDirOf w _ a len cap zs HR.out (Below.refl _ _) hlen).mono ?_
  rintro e W1 ⟨⟨s, hs, rfl⟩, hB1⟩
  obtain ⟨l, rfl⟩ : ∃ l, s = strOf l := ⟨_, strOf_self s⟩
  rw [strOf_size] at hs
  have CD := Lib.hid (fun W => implDirOf (strOf l) W (by rw [strOf_size]; omega))
  have CB := Lib.hid (fun W => implBaseOf (strOf l) W (by rw [strOf_size]; omega))
  have CS := Lib.hid (fun W => specPathOk (strOf l) W (by rw [strOf_size]; unfold maxLen; omega))
  have CP := Lib.hid (fun W => implPathOk (strOf l) W (by rw [strOf_size]; omega))
  rw [strOf_data] at CD CB CS CP
  by_cases hd : 0 < depthV l
  rotate_left
  · rw [decide_eq_false hd] at CS CP
    rw [(depth_not hd).1] at CD
    rw [(depth_not hd).2] at CB
    have he : (strOf []).toList.isEmpty = true := by rw [strOf_isEmpty]; rfl
    generalize strOf [] = y at CD CB he
    generalize strOf l = x at CD CB CS CP
    clear hd hs
    go_wp2_with fail
    refine (CD.out _).mono ?_
    rintro e W2 ⟨rfl, hb2⟩
    have hB2 := hB1.trans (hb2.mono hB1.size)
    go_wp2_with fail
    refine (CB.out _).mono ?_
    rintro e W3 ⟨rfl, hb3⟩
    have hB3 := hB2.trans (hb3.mono hB2.size)
    go_wp2_with fail
    refine (CS.out _).mono ?_
    rintro e W4 ⟨rfl, hb4⟩
    have hB4 := hB3.trans (hb4.mono hB3.size)
    go_wp2_with fail
    refine (CP.out _).mono ?_
    rintro e W5 ⟨rfl, hb5⟩
    have hB5 := hB4.trans (hb5.mono hB4.size)
    go_wp2
    go_ret
    exact ⟨rfl, hB5⟩
  · rw [decide_eq_true hd] at CS
    obtain ⟨ms, n, hf, rfl⟩ := depth_pos hd
    have hfm := (fit_sub hf).1
    have hpm := pathL_len hfm
    have hnn := (fit_snoc.1 hf).2.2
    have hn40 := (nameB_len hnn).2
    have hm6 := (fit_mem hf).1
    rw [dir_of hf] at CD
    rw [base_of hf] at CB
    have CJ := Lib.hid (fun W => implJoin (strOf (pathL ms)) (strOf n) W (by rw [strOf_size]; omega))
    have D1 := Lib.hid (fun W => implDepthOf (strOf (pathL (ms ++ [n]))) W (by rw [strOf_size]; omega))
    have D2 := Lib.hid (fun W => implDepthOf (strOf (pathL ms)) W (by rw [strOf_size]; omega))
    have U1 := Lib.hid (fun W => implUnder (strOf (pathL (ms ++ [n]))) (strOf (pathL ms)) W (by rw [strOf_size]; omega) (by rw [strOf_size]; omega))
    have U2 := Lib.hid (fun W => implUnder (strOf (pathL (ms ++ [n]))) (strOf (pathL (ms ++ [n]))) W (by rw [strOf_size]; omega) (by rw [strOf_size]; omega))
    have U3 := Lib.hid (fun W => implUnder (strOf (pathL ms)) (strOf (pathL (ms ++ [n]))) W (by rw [strOf_size]; omega) (by rw [strOf_size]; omega))
    have CN := Lib.hid (fun W => implNameOk (strOf n) W)
    rw [strOf_data, strOf_data, join_snoc hf] at CJ
    rw [strOf_data, depthV_of hf, List.length_append, List.length_singleton] at D1
    rw [strOf_data, depthV_of hfm] at D2
    rw [strOf_data, strOf_data, under_snoc hf] at U1
    rw [strOf_data, under_self hf] at U2
    rw [strOf_data, strOf_data, under_up hf] at U3
    rw [strOf_data, hnn] at CN
    have hsm := same_text (strOf (pathL (ms ++ [n])))
    have hk : ms.length ≤ 6 := by rw [List.length_append] at hm6; omega
    have heq : (((ms.length + 1 : Nat) : Int) == (ms.length : Int) + 1) = true := by rw [beq_iff_eq]; omega
    generalize strOf (pathL (ms ++ [n])) = x at CD CB CS CP CJ D1 U1 U2 U3 hsm
    generalize strOf (pathL ms) = y at CD CJ D2 U1 U3
    generalize strOf n = z at CB CJ CN
    generalize ms.length = k at D1 D2 hk heq
    clear hd hs hf hfm hpm hnn hn40 hm6 CP
    go_wp2_with fail
    refine (CD.out _).mono ?_
    rintro e W2 ⟨rfl, hb2⟩
    have hB2 := hB1.trans (hb2.mono hB1.size)
    go_wp2_with fail
    refine (CB.out _).mono ?_
    rintro e W3 ⟨rfl, hb3⟩
    have hB3 := hB2.trans (hb3.mono hB2.size)
    go_wp2_with fail
    refine (CS.out _).mono ?_
    rintro e W4 ⟨rfl, hb4⟩
    have hB4 := hB3.trans (hb4.mono hB3.size)
    go_wp2_with fail
    refine (CJ.out _).mono ?_
    rintro e W5 ⟨rfl, hb5⟩
    have hB5 := hB4.trans (hb5.mono hB4.size)
    go_wp2_with fail
    refine (D1.out _).mono ?_
    rintro e W6 ⟨rfl, hb6⟩
    have hB6 := hB5.trans (hb6.mono hB5.size)
    go_wp2_with fail
    refine (D2.out _).mono ?_
    rintro e W7 ⟨rfl, hb7⟩
    have hB7 := hB6.trans (hb7.mono hB6.size)
    go_wp2_with fail
    refine (U1.out _).mono ?_
    rintro e W8 ⟨rfl, hb8⟩
    have hB8 := hB7.trans (hb8.mono hB7.size)
    go_wp2_with fail
    refine (U2.out _).mono ?_
    rintro e W9 ⟨rfl, hb9⟩
    have hB9 := hB8.trans (hb9.mono hB8.size)
    go_wp2_with fail
    refine (U3.out _).mono ?_
    rintro e W10 ⟨rfl, hb10⟩
    have hB10 := hB9.trans (hb10.mono hB9.size)
    go_wp2_with fail
    refine (CN.out _).mono ?_
    rintro e W11 ⟨rfl, hb11⟩
    have hB11 := hB10.trans (hb11.mono hB10.size)
    go_wp2
    go_ret
    exact ⟨rfl, hB11⟩
end Go.Proofs.YtcknohalbamjfaaDoor
