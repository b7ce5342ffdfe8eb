/- Proved: laws.FnClean answers true at every code: of a text that is drawn impl.Clean tells what spec.Clean tells; nothing, where it is no path; else what is clean stays so, also with a stroke and a dot behind, and is the root or a path; a path is clean; the argument reads as before. The listed tables of the standard library are tied to the program's text, and are not read; the card speaks of the pruned copy of the project that the seat holds. -/
import Derived.Test.YtcknohalbamjfaaDoorPathFacts
import Derived.Test.YtcknohalbamjfaaDoorLaid4
namespace Go.Proofs.YtcknohalbamjfaaDoor
open Go.RowKit

set_option maxRecDepth 100000 in
set_option maxHeartbeats 8000000 in
theorem walkFnClean (a : Option Addr) (len cap : Nat) (zs : List Int) (w : World) (hr : IsRow .u8 w a len cap zs) :
    Calls Tryd.prog 3 #[.slice a len cap] w fun e w' => e = .returned (.bool true) ∧ Below w.heap.size w w' := by
  by_cases hlen : len ≤ 1048576
  rotate_left
  · clear hr
    go_enter Tryd.func3, Tryd.ntmps3
    go_wp2_with fail
    refine (bigT _ _ _ _ hlen).mono ?_
    rintro e w' ⟨rfl, rfl⟩
    go_wp2
    go_ret
    exact ⟨rfl, Below.refl _ _⟩
  have HR := Lib.hid hr
  clear hr
  go_enter Tryd.func3, Tryd.ntmps3
  go_wp2_with fail
  refine (bigF _ _ _ _ hlen).mono ?_
  rintro e w' ⟨rfl, rfl⟩
  go_wp2_with fail
  refine (specDrawClean w _ a len cap zs HR.out (Below.refl _ _) hlen).mono ?_
  rintro e W1 ⟨⟨s, hs, rfl⟩, hB1⟩
  obtain ⟨l, rfl⟩ : ∃ l, s = strOf l := ⟨_, strOf_self s⟩
  rw [strOf_size] at hs
  have CI := Lib.hid (fun W => implClean (strOf l) W (by rw [strOf_size]; omega))
  have CS := Lib.hid (fun W => specClean (strOf l) W (by rw [strOf_size]; omega))
  have CP := Lib.hid (fun W => implPathOk (strOf l) W (by rw [strOf_size]; omega))
  rw [strOf_data] at CI CS CP
  rcases clean_is l with hc | ⟨ns, hf, hc⟩
  · have hd : ¬ 0 < depthV l := fun h => (clean_path h).2 ((clean_path h).1.symm.trans hc)
    rw [decide_eq_false hd] at CP
    rw [hc] at CI CS
    have he : (strOf []).toList.isEmpty = true := by rw [strOf_isEmpty]; rfl
    have hsm := same_text (strOf [])
    generalize strOf [] = y at CI CS he hsm
    generalize strOf l = x at CI CS CP
    clear hd hc hs
    go_wp2_with fail
    refine (CI.out _).mono ?_
    rintro e W2 ⟨rfl, hb2⟩
    have hB2 := hB1.trans (hb2.mono hB1.size)
    go_wp2_with fail
    refine (CS.out _).mono ?_
    rintro e W3 ⟨rfl, hb3⟩
    have hB3 := hB2.trans (hb3.mono hB2.size)
    go_wp2_with fail
    refine (CP.out _).mono ?_
    rintro e W4 ⟨rfl, hb4⟩
    have hB4 := hB3.trans (hb4.mono hB3.size)
    go_wp2
    go_ret
    exact ⟨rfl, hB4⟩
  · have hpl := pathL_len hf
    have C2 := Lib.hid (fun W => implClean (strOf (pathL ns)) W (by rw [strOf_size]; omega))
    have C3 := Lib.hid (fun W => implClean (strOf (pathL ns ++ [47, 46])) W (by rw [strOf_size]; simp; omega))
    have P2 := Lib.hid (fun W => implPathOk (strOf (pathL ns)) W (by rw [strOf_size]; omega))
    have hadd := run_add (pathL ns) [47, 46] (by simp; omega)
    rw [strOf_data, clean_of hf] at C2
    rw [strOf_data, clean_dot hf] at C3
    rw [strOf_data, depthV_of hf] at P2
    rw [hc] at CI CS
    rw [show strOf [47, 46] = (⟨#[47, 46]⟩ : ByteArray) from rfl] at hadd
    have he := strOf_empty_f (pathL_some ns)
    have hsm := same_text (strOf (pathL ns))
    have hroot : ((strOf (pathL ns)).toList == [47]) = decide (ns = []) := by
      rw [strOf_is]
      by_cases h : ns = []
      · subst h; rfl
      · rw [decide_eq_false h, beq_eq_false_iff_ne]; exact fun e => h ((pathL_root hf).1 e)
    have hdp : decide (0 < (ns.length : Int)) = !decide (ns = []) := by
      cases ns <;> simp
    rw [hdp] at P2
    have hxy : 0 < depthV l → strOf l = strOf (pathL ns) := fun h => by rw [← hc, (clean_path h).1]
    clear hc hs hpl hdp
    generalize strOf (pathL ns ++ [47, 46]) = z at hadd C3
    generalize strOf (pathL ns) = y at CI CS he hsm hroot C2 C3 P2 hadd hxy
    generalize strOf l = x at CI CS CP hxy
    generalize decide (ns = []) = rt at hroot P2
    by_cases hd : 0 < depthV l
    · obtain rfl := hxy hd
      rw [decide_eq_true hd] at CP
      clear hd hxy
      cases rt with
      | true =>
        go_wp2_with fail
        refine (CI.out _).mono ?_
        rintro e W2 ⟨rfl, hb2⟩
        have hB2 := hB1.trans (hb2.mono hB1.size)
        go_wp2_with fail
        refine (CS.out _).mono ?_
        rintro e W3 ⟨rfl, hb3⟩
        have hB3 := hB2.trans (hb3.mono hB2.size)
        go_wp2_with fail
        refine (C2.out _).mono ?_
        rintro e W4 ⟨rfl, hb4⟩
        have hB4 := hB3.trans (hb4.mono hB3.size)
        go_wp2_with fail
        refine (C3.out _).mono ?_
        rintro e W5 ⟨rfl, hb5⟩
        have hB5 := hB4.trans (hb5.mono hB4.size)
        go_wp2_with fail
        refine (CP.out _).mono ?_
        rintro e W6 ⟨rfl, hb6⟩
        have hB6 := hB5.trans (hb6.mono hB5.size)
        go_wp2
        go_ret
        exact ⟨rfl, hB6⟩
      | false =>
        go_wp2_with fail
        refine (CI.out _).mono ?_
        rintro e W2 ⟨rfl, hb2⟩
        have hB2 := hB1.trans (hb2.mono hB1.size)
        go_wp2_with fail
        refine (CS.out _).mono ?_
        rintro e W3 ⟨rfl, hb3⟩
        have hB3 := hB2.trans (hb3.mono hB2.size)
        go_wp2_with fail
        refine (C2.out _).mono ?_
        rintro e W4 ⟨rfl, hb4⟩
        have hB4 := hB3.trans (hb4.mono hB3.size)
        go_wp2_with fail
        refine (C3.out _).mono ?_
        rintro e W5 ⟨rfl, hb5⟩
        have hB5 := hB4.trans (hb5.mono hB4.size)
        go_wp2_with fail
        refine (P2.out _).mono ?_
        rintro e W6 ⟨rfl, hb6⟩
        have hB6 := hB5.trans (hb6.mono hB5.size)
        go_wp2_with fail
        refine (CP.out _).mono ?_
        rintro e W7 ⟨rfl, hb7⟩
        have hB7 := hB6.trans (hb7.mono hB6.size)
        go_wp2
        go_ret
        exact ⟨rfl, hB7⟩
    · rw [decide_eq_false hd] at CP
      clear hd hxy
      cases rt with
      | true =>
        go_wp2_with fail
        refine (CI.out _).mono ?_
        rintro e W2 ⟨rfl, hb2⟩
        have hB2 := hB1.trans (hb2.mono hB1.size)
        go_wp2_with fail
        refine (CS.out _).mono ?_
        rintro e W3 ⟨rfl, hb3⟩
        have hB3 := hB2.trans (hb3.mono hB2.size)
        go_wp2_with fail
        refine (C2.out _).mono ?_
        rintro e W4 ⟨rfl, hb4⟩
        have hB4 := hB3.trans (hb4.mono hB3.size)
        go_wp2_with fail
        refine (C3.out _).mono ?_
        rintro e W5 ⟨rfl, hb5⟩
        have hB5 := hB4.trans (hb5.mono hB4.size)
        go_wp2_with fail
        refine (CP.out _).mono ?_
        rintro e W6 ⟨rfl, hb6⟩
        have hB6 := hB5.trans (hb6.mono hB5.size)
        go_wp2
        go_ret
        exact ⟨rfl, hB6⟩
      | false =>
        go_wp2_with fail
        refine (CI.out _).mono ?_
        rintro e W2 ⟨rfl, hb2⟩
        have hB2 := hB1.trans (hb2.mono hB1.size)
        go_wp2_with fail
        refine (CS.out _).mono ?_
        rintro e W3 ⟨rfl, hb3⟩
        have hB3 := hB2.trans (hb3.mono hB2.size)
        go_wp2_with fail
        refine (C2.out _).mono ?_
        rintro e W4 ⟨rfl, hb4⟩
        have hB4 := hB3.trans (hb4.mono hB3.size)
        go_wp2_with fail
        refine (C3.out _).mono ?_
        rintro e W5 ⟨rfl, hb5⟩
        have hB5 := hB4.trans (hb5.mono hB4.size)
        go_wp2_with fail
        refine (P2.out _).mono ?_
        rintro e W6 ⟨rfl, hb6⟩
        have hB6 := hB5.trans (hb6.mono hB5.size)
        go_wp2_with fail
        refine (CP.out _).mono ?_
        rintro e W7 ⟨rfl, hb7⟩
        have hB7 := hB6.trans (hb7.mono hB6.size)
        go_wp2
        go_ret
        exact ⟨rfl, hB7⟩
end Go.Proofs.YtcknohalbamjfaaDoor
