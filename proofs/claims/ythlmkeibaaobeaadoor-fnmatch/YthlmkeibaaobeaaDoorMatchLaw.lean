/- Proved: laws.FnMatch answers true at every code: of a pattern and a name that are drawn impl.Match and impl.PatternOk tell what spec's tell, and where the pattern stands for the name, it does so with a star ahead or behind; of a pattern and a path that are drawn impl.MatchPath tells what spec.MatchPath tells; a path of one name fits just where the pattern stands for that name, and y doesn't fit where x is asked; the argument reads as before. The listed tables of the standard library are tied to the program's text, and are not read; the card speaks of the pruned copy of the project that the seat holds. -/
import Derived.Test.YthlmkeibaaobeaaDoorMatchPath
import Derived.Test.YthlmkeibaaobeaaDoorStarFacts
import Derived.Test.YthlmkeibaaobeaaDoorDrawGlob
import Derived.Test.YthlmkeibaaobeaaDoorBig
import Derived.Test.YthlmkeibaaobeaaDoorLaid4
namespace Go.Proofs.YthlmkeibaaobeaaDoor
open Go.RowKit

theorem fitsL_last : ∀ (A B : List (List UInt8)) (x y : List UInt8), fitsL (A ++ [x]) (B ++ [y]) = true → matB x y = true
  | [], [], x, y, h => by simpa [fitsL] using h
  | [], b :: B, x, y, h => by
    have := fitsL_len h
    simp at this
  | a :: A, [], x, y, h => by
    have := fitsL_len h
    simp at this
  | a :: A, b :: B, x, y, h => by
    rw [List.cons_append, List.cons_append, fitsL, Bool.and_eq_true] at h
    exact fitsL_last A B x y h.2
theorem noStroke_free {n : List UInt8} (h : noStroke (strOf n) = true) : 47 ∉ n := by
  unfold noStroke at h
  rw [strOf_data, List.all_eq_true] at h
  intro hm
  have := h 47 hm
  simp at this
theorem free_partsGo : ∀ (r cur : List UInt8), 47 ∈ r → 2 ≤ (partsGo cur r).length
  | [], cur, h => by cases h
  | c :: r, cur, h => by
    rw [partsGo]
    split
    · have := partsGo_ne r []
      have h2 : (partsGo [] r).length ≠ 0 := fun e => this (List.eq_nil_of_length_eq_zero e)
      rw [List.length_cons]; omega
    · rename_i hc
      rcases List.mem_cons.1 h with e | h
      · exact absurd e.symm hc
      · exact free_partsGo r _ h
/-- A path of one name. -/
theorem mpath_one (p n : List UInt8) (hn : 47 ∉ n) : mpathV (47 :: p) (47 :: n) = matB p n := by
  cases hb : nameB n with
  | false =>
    have hm : matB p n = false := by unfold matB; rw [hb]; simp
    rw [hm]
    by_cases he : n = []
    · subst he
      rw [mpath_some (ns := []) rfl]
      exact fitsL_ne (by have := parts_ne p; intro e; exact this (List.eq_nil_of_length_eq_zero e))
    · refine mpath_no ?_
      rw [namesO, if_pos rfl, if_neg he, parts_one hn, if_neg]
      unfold fit
      simp [hb]
  | true =>
    have he : n ≠ [] := by intro e; rw [e] at hb; cases hb
    have hno : namesO (47 :: n) = some [n] := by
      rw [namesO, if_pos rfl, if_neg he, parts_one hn, if_pos]
      unfold fit
      simp [hb]
    rw [mpath_some hno]
    by_cases hp : 47 ∈ p
    · have h2 := free_partsGo p [] hp
      rw [fitsL_ne (by show (partsL p).length ≠ 1; unfold partsL; omega)]
      cases hm : matB p n with
      | false => rfl
      | true =>
        have h3 := (patB_parts.1 (matB_parts.1 hm).1).2.1
        have h4 := List.all_eq_true.1 h3 47 hp
        exact absurd h4 (by decide)
    · rw [parts_one hp]
      simp [fitsL]
theorem mpath_xy (p n : List UInt8) : mpathV (47 :: (p ++ [47, 120])) (47 :: (n ++ [47, 121])) = false := by
  cases hno : namesO (47 :: (n ++ [47, 121])) with
  | none => exact mpath_no hno
  | some ns =>
    have hns : ns ≠ [] := by
      intro e; subst e
      rw [namesO, if_pos rfl, if_neg (by simp)] at hno
      split at hno
      · exact parts_ne _ (Option.some.inj hno)
      · cases hno
    obtain ⟨t, h1, h2⟩ := names_tail hno hns
    have h3 : n ++ [47, 121] = t := (List.cons.inj h1).2
    rw [mpath_some hno, ← h2, ← h3, parts_cut p [120], parts_cut n [121], show partsL [120] = [[120]] from rfl, show partsL [121] = [[121]] from rfl]
    cases hf : fitsL (partsL p ++ [[120]]) (partsL n ++ [[121]]) with
    | false => rfl
    | true => exact absurd (fitsL_last _ _ _ _ hf) (by decide)

set_option maxRecDepth 100000 in
set_option maxHeartbeats 8000000 in
theorem walkFnMatch (a : Option Addr) (len cap : Nat) (zs : List Int) (w : World) (hr : IsRow .u8 w a len cap zs) :
    Calls Tryd.prog 3 #[.slice a len cap] w fun e w' => e = .returned (.bool true) ∧ Below w.heap.size w w' := by
  by_cases hlen : len ≤ 1048576
  rotate_left
  · clear hr
    go_enter Tryd.func3, Tryd.ntmps3
    go_wp2_with fail
    refine (bigT _ _ _ _ hlen).mono ?_
    rintro e w' ⟨rfl, rfl⟩
    go_wp2
    go_ret
    exact ⟨rfl, Below.refl _ _⟩
  have HR := Lib.hid hr
  clear hr
  go_enter Tryd.func3, Tryd.ntmps3
  go_wp2_with fail
  refine (bigF _ _ _ _ hlen).mono ?_
  rintro e w' ⟨rfl, rfl⟩
  go_wp2_with fail
  refine (specDrawMatch w _ a len cap zs HR.out (Below.refl _ _) hlen).mono ?_
  rintro e W1 ⟨⟨s, q, ⟨hs, hq, hqn⟩, rfl⟩, hB1⟩
  obtain ⟨p, rfl⟩ : ∃ l, s = strOf l := ⟨_, strOf_back s⟩
  obtain ⟨n, rfl⟩ : ∃ l, q = strOf l := ⟨_, strOf_back q⟩
  rw [strOf_size] at hs hq
  have hfree := noStroke_free hqn
  have CI := Lib.hid (fun W => implMatch (strOf p) (strOf n) (by rw [strOf_size]; unfold maxLen; omega) W)
  have CS := Lib.hid (fun W => specMatch (strOf p) (strOf n) (by rw [strOf_size]; unfold maxLen; omega) W)
  have PI := Lib.hid (fun W => implPatternOk (strOf p) (by rw [strOf_size]; unfold maxLen; omega) W)
  have PS := Lib.hid (fun W => specPatternOk (strOf p) (by rw [strOf_size]; unfold maxLen; omega) W)
  have M5 := Lib.hid (fun W => implMatch (strOf (p ++ [42])) (strOf n) (by rw [strOf_size]; unfold maxLen; simp; omega) W)
  have M6 := Lib.hid (fun W => implMatch (strOf (42 :: p)) (strOf n) (by rw [strOf_size]; unfold maxLen; simp; omega) W)
  have X1 := Lib.hid (fun W => implMatchPath (strOf (47 :: (p ++ [47, 120]))) (strOf (47 :: (n ++ [47, 121]))) W (by rw [strOf_size]; simp; omega) (by rw [strOf_size]; simp; omega))
  have X2 := Lib.hid (fun W => implMatchPath (strOf (47 :: p)) (strOf (47 :: n)) W (by rw [strOf_size]; simp; omega) (by rw [strOf_size]; simp; omega))
  have A5 : ∀ w, (Op.stringOp .add (strOf p) ⟨#[42]⟩).run Tryd.prog w = .ok (.string (strOf (p ++ [42]))) w := fun w => run_add p [42] (by simp; omega) w
  have A6 : ∀ w, (Op.stringOp .add ⟨#[42]⟩ (strOf p)).run Tryd.prog w = .ok (.string (strOf (42 :: p))) w := fun w => run_add [42] p (by simp; omega) w
  have B1 : ∀ w, (Op.stringOp .add ⟨#[47]⟩ (strOf p)).run Tryd.prog w = .ok (.string (strOf (47 :: p))) w := fun w => run_add [47] p (by simp; omega) w
  have B2 : ∀ w, (Op.stringOp .add (strOf (47 :: p)) ⟨#[47, 120]⟩).run Tryd.prog w = .ok (.string (strOf (47 :: (p ++ [47, 120])))) w := fun w => run_add (47 :: p) [47, 120] (by simp; omega) w
  have B3 : ∀ w, (Op.stringOp .add ⟨#[47]⟩ (strOf n)).run Tryd.prog w = .ok (.string (strOf (47 :: n))) w := fun w => run_add [47] n (by simp; omega) w
  have B4 : ∀ w, (Op.stringOp .add (strOf (47 :: n)) ⟨#[47, 121]⟩).run Tryd.prog w = .ok (.string (strOf (47 :: (n ++ [47, 121])))) w := fun w => run_add (47 :: n) [47, 121] (by simp; omega) w
  rw [strOf_data] at PI PS
  rw [strOf_data, strOf_data] at CI CS M5 M6 X1 X2
  rw [mpath_xy] at X1
  rw [mpath_one p n hfree] at X2
  have hsz : ((strOf p).size : Int) ≤ 20 := by rw [strOf_size]; omega
  have H5 := Lib.hid (fun h : matB p n = true => matB_behind h (by omega))
  have H6 := Lib.hid (fun h : matB p n = true => matB_ahead h (by omega))
  generalize strOf (47 :: (p ++ [47, 120])) = t1 at X1 B2
  generalize strOf (47 :: (n ++ [47, 121])) = t2 at X1 B4
  generalize strOf (47 :: p) = t3 at X2 B1 B2
  generalize strOf (47 :: n) = t4 at X2 B3 B4
  generalize strOf (p ++ [42]) = t5 at M5 A5
  generalize strOf (42 :: p) = t6 at M6 A6
  generalize strOf p = s at CI CS PI PS A5 A6 B1 hsz
  generalize strOf n = q at CI CS M5 M6 B3
  generalize matB (p ++ [42]) n = m5 at M5 H5
  generalize matB (42 :: p) n = m6 at M6 H6
  generalize patB p = b at PI PS
  generalize matB p n = m at CI CS X2 H5 H6
  have HB1 := Lib.hid hB1
  clear hB1 hs hq hqn hfree
  go_wp2_with fail
  refine (CI.out _).mono ?_
  rintro e W2 ⟨rfl, hb2⟩
  have HB2 := Lib.hid (HB1.out.trans (hb2.mono HB1.out.size))
  clear hb2 HB1 CI
  go_wp2_with fail
  refine (CS.out _).mono ?_
  rintro e W3 ⟨rfl, hb3⟩
  have HB3 := Lib.hid (HB2.out.trans (hb3.mono HB2.out.size))
  clear hb3 HB2 CS
  cases m with
  | true =>
    obtain rfl := H5.out rfl
    obtain rfl := H6.out rfl
    clear H5 H6
    go_wp2_with fail
    refine (PI.out _).mono ?_
    rintro e W4 ⟨rfl, hb4⟩
    have HB4 := Lib.hid (HB3.out.trans (hb4.mono HB3.out.size))
    clear hb4 HB3 PI
    go_wp2_with fail
    refine (PS.out _).mono ?_
    rintro e W5 ⟨rfl, rfl⟩
    clear PS
    cases b
    all_goals
      go_wp2_with fail
      refine (M5.out _).mono ?_
      rintro e W6 ⟨rfl, hb6⟩
      have HB6 := Lib.hid (HB4.out.trans (hb6.mono HB4.out.size))
      clear hb6 HB4 M5
      go_wp2_with fail
      refine (M6.out _).mono ?_
      rintro e W7 ⟨rfl, hb7⟩
      have HB7 := Lib.hid (HB6.out.trans (hb7.mono HB6.out.size))
      clear hb7 HB6 M6
      go_wp2_with fail
      refine (specDrawMatchPath w _ a len cap zs HR.out HB7.out hlen).mono ?_
      rintro e W8 ⟨⟨x, y, ⟨hx, hy⟩, rfl⟩, hb8⟩
      have HB8 := Lib.hid (HB7.out.trans (hb8.mono HB7.out.size))
      have D1 := Lib.hid (fun W => implMatchPath x y W (by omega) (by omega))
      have D2 := Lib.hid (fun W => specMatchPath x y W (by omega) (by omega))
      generalize mpathV x.data.toList y.data.toList = f at D1 D2
      clear hb8 HB7
      go_wp2_with fail
      refine (D1.out _).mono ?_
      rintro e W9 ⟨rfl, hb9⟩
      have HB9 := Lib.hid (HB8.out.trans (hb9.mono HB8.out.size))
      clear hb9 HB8 D1
      go_wp2_with fail
      refine (D2.out _).mono ?_
      rintro e W10 ⟨rfl, hb10⟩
      have HB10 := Lib.hid (HB9.out.trans (hb10.mono HB9.out.size))
      clear hb10 HB9 D2
      cases f
      all_goals
        go_wp2_with fail
        refine (X1.out _).mono ?_
        rintro e W11 ⟨rfl, hb11⟩
        have HB11 := Lib.hid (HB10.out.trans (hb11.mono HB10.out.size))
        clear hb11 HB10 X1
        go_wp2_with fail
        refine (X2.out _).mono ?_
        rintro e W12 ⟨rfl, hb12⟩
        have HB12 := Lib.hid (HB11.out.trans (hb12.mono HB11.out.size))
        clear hb12 HB11 X2
        go_wp2
        go_ret
        exact ⟨rfl, HB12.out⟩
  | false =>
    clear H5 H6 M5 M6
    go_wp2_with fail
    refine (PI.out _).mono ?_
    rintro e W4 ⟨rfl, hb4⟩
    have HB4 := Lib.hid (HB3.out.trans (hb4.mono HB3.out.size))
    clear hb4 HB3 PI
    go_wp2_with fail
    refine (PS.out _).mono ?_
    rintro e W5 ⟨rfl, rfl⟩
    clear PS
    cases b
    all_goals
      go_wp2_with fail
      refine (specDrawMatchPath w _ a len cap zs HR.out HB4.out hlen).mono ?_
      rintro e W8 ⟨⟨x, y, ⟨hx, hy⟩, rfl⟩, hb8⟩
      have HB8 := Lib.hid (HB4.out.trans (hb8.mono HB4.out.size))
      have D1 := Lib.hid (fun W => implMatchPath x y W (by omega) (by omega))
      have D2 := Lib.hid (fun W => specMatchPath x y W (by omega) (by omega))
      generalize mpathV x.data.toList y.data.toList = f at D1 D2
      clear hb8 HB4
      go_wp2_with fail
      refine (D1.out _).mono ?_
      rintro e W9 ⟨rfl, hb9⟩
      have HB9 := Lib.hid (HB8.out.trans (hb9.mono HB8.out.size))
      clear hb9 HB8 D1
      go_wp2_with fail
      refine (D2.out _).mono ?_
      rintro e W10 ⟨rfl, hb10⟩
      have HB10 := Lib.hid (HB9.out.trans (hb10.mono HB9.out.size))
      clear hb10 HB9 D2
      cases f
      all_goals
        go_wp2_with fail
        refine (X1.out _).mono ?_
        rintro e W11 ⟨rfl, hb11⟩
        have HB11 := Lib.hid (HB10.out.trans (hb11.mono HB10.out.size))
        clear hb11 HB10 X1
        go_wp2_with fail
        refine (X2.out _).mono ?_
        rintro e W12 ⟨rfl, hb12⟩
        have HB12 := Lib.hid (HB11.out.trans (hb12.mono HB11.out.size))
        clear hb12 HB11 X2
        go_wp2
        go_ret
        exact ⟨rfl, HB12.out⟩
end Go.Proofs.YthlmkeibaaobeaaDoor
