/- Proved: laws.FnJoin answers true at every code: of a text and a name that are drawn impl.Join tells what spec.Join tells, and where that isn't empty, it is a path with that folder and that name, clean, and under the folder; the argument reads as before. The listed tables of the standard library are tied to the program's text, and are not read; the card speaks of the pruned copy of the project that the seat holds. -/
import Derived.Test.YtcknohalbamjfaaDoorPathFacts
import Derived.Test.YtcknohalbamjfaaDoorLaid4
namespace Go.Proofs.YtcknohalbamjfaaDoor
open Go.RowKit

set_option maxRecDepth 100000 in
set_option maxHeartbeats 8000000 in
theorem walkFnJoin (a : Option Addr) (len cap : Nat) (zs : List Int) (w : World) (hr : IsRow .u8 w a len cap zs) :
    Calls Tryd.prog 5 #[.slice a len cap] w fun e w' => e = .returned (.bool true) ∧ Below w.heap.size w w' := by
  by_cases hlen : len ≤ 1048576
  rotate_left
  · clear hr
    go_enter Tryd.func5, Tryd.ntmps5
    go_wp2_with fail
    refine (bigT _ _ _ _ hlen).mono ?_
    rintro e w' ⟨rfl, rfl⟩
    go_wp2
    go_ret
    exact ⟨rfl, Below.refl _ _⟩
  have HR := Lib.hid hr
  clear hr
  go_enter Tryd.func5, Tryd.ntmps5
  go_wp2_with fail
  refine (bigF _ _ _ _ hlen).mono ?_
  rintro e w' ⟨rfl, rfl⟩
  go_wp2_with fail
  refine (specDrawJoin w _ a len cap zs HR.out (Below.refl _ _) hlen).mono ?_
  rintro e W1 ⟨⟨s, t, ⟨hs, ht⟩, rfl⟩, hB1⟩
  obtain ⟨d, rfl⟩ : ∃ l, s = strOf l := ⟨_, strOf_self s⟩
  obtain ⟨n, rfl⟩ : ∃ l, t = strOf l := ⟨_, strOf_self t⟩
  rw [strOf_size] at hs ht
  have CI := Lib.hid (fun W => implJoin (strOf d) (strOf n) W (by rw [strOf_size]; omega))
  have CS := Lib.hid (fun W => specJoin (strOf d) (strOf n) W (by rw [strOf_size]; omega) (by rw [strOf_size]; omega))
  rw [strOf_data, strOf_data] at CI CS
  rcases join_or d n with hj | ⟨ns, hf, rfl, hj⟩
  · rw [hj] at CI CS
    have he : (strOf []).toList.isEmpty = true := by rw [strOf_isEmpty]; rfl
    have hsm := same_text (strOf [])
    generalize strOf [] = y at CI CS he hsm
    generalize strOf d = x at CI CS
    generalize strOf n = z at CI CS
    clear hj hs ht
    go_wp2_with fail
    refine (CI.out _).mono ?_
    rintro e W2 ⟨rfl, hb2⟩
    have hB2 := hB1.trans (hb2.mono hB1.size)
    go_wp2_with fail
    refine (CS.out _).mono ?_
    rintro e W3 ⟨rfl, hb3⟩
    have hB3 := hB2.trans (hb3.mono hB2.size)
    go_wp2
    go_ret
    exact ⟨rfl, hB3⟩
  · rw [hj] at CI CS
    have hpl := pathL_len hf
    have CP := Lib.hid (fun W => implPathOk (strOf (pathL (ns ++ [n]))) W (by rw [strOf_size]; omega))
    have CD := Lib.hid (fun W => implDirOf (strOf (pathL (ns ++ [n]))) W (by rw [strOf_size]; omega))
    have CB := Lib.hid (fun W => implBaseOf (strOf (pathL (ns ++ [n]))) W (by rw [strOf_size]; omega))
    have CC := Lib.hid (fun W => implClean (strOf (pathL (ns ++ [n]))) W (by rw [strOf_size]; omega))
    have CU := Lib.hid (fun W => implUnder (strOf (pathL (ns ++ [n]))) (strOf (pathL ns)) W (by rw [strOf_size]; omega) (by rw [strOf_size]; omega))
    rw [strOf_data, depthV_of hf, decide_eq_true (by rw [List.length_append]; simp)] at CP
    rw [strOf_data, dir_of hf] at CD
    rw [strOf_data, base_of hf] at CB
    rw [strOf_data, clean_of hf] at CC
    rw [strOf_data, strOf_data, under_snoc hf] at CU
    have he := strOf_empty_f (pathL_some (ns ++ [n]))
    have hsm := same_text (strOf (pathL (ns ++ [n])))
    have hsm2 := same_text (strOf (pathL ns))
    have hsm3 := same_text (strOf n)
    generalize strOf (pathL (ns ++ [n])) = p at CI CS CP CD CB CC CU he hsm
    generalize strOf (pathL ns) = x at CI CS CD CU hsm2
    generalize strOf n = z at CI CS CB hsm3
    clear hj hs ht hf hpl
    go_wp2_with fail
    refine (CI.out _).mono ?_
    rintro e W2 ⟨rfl, hb2⟩
    have hB2 := hB1.trans (hb2.mono hB1.size)
    go_wp2_with fail
    refine (CS.out _).mono ?_
    rintro e W3 ⟨rfl, hb3⟩
    have hB3 := hB2.trans (hb3.mono hB2.size)
    go_wp2_with fail
    refine (CP.out _).mono ?_
    rintro e W4 ⟨rfl, hb4⟩
    have hB4 := hB3.trans (hb4.mono hB3.size)
    go_wp2_with fail
    refine (CD.out _).mono ?_
    rintro e W5 ⟨rfl, hb5⟩
    have hB5 := hB4.trans (hb5.mono hB4.size)
    go_wp2_with fail
    refine (CB.out _).mono ?_
    rintro e W6 ⟨rfl, hb6⟩
    have hB6 := hB5.trans (hb6.mono hB5.size)
    go_wp2_with fail
    refine (CC.out _).mono ?_
    rintro e W7 ⟨rfl, hb7⟩
    have hB7 := hB6.trans (hb7.mono hB6.size)
    go_wp2_with fail
    refine (CU.out _).mono ?_
    rintro e W8 ⟨rfl, hb8⟩
    have hB8 := hB7.trans (hb8.mono hB7.size)
    go_wp2
    go_ret
    exact ⟨rfl, hB8⟩
end Go.Proofs.YtcknohalbamjfaaDoor
