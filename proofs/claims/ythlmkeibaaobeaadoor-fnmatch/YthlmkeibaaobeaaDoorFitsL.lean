/- Paths and patterns, name by name, as plain lists; slices.EqualFunc with impl.Match. -/
import Derived.Test.YthlmkeibaaobeaaDoorImplMatch2
import Derived.Test.YthlmkeibaaobeaaDoorImplPath
namespace Go.Proofs.YthlmkeibaaobeaaDoor
open Go.RowKit

def fitsL : List (List UInt8) → List (List UInt8) → Bool
  | [], [] => true
  | a :: xs, b :: ys => matB a b && fitsL xs ys
  | _, _ => false
/-- What MatchPath tells. -/
def mpathV (p q : List UInt8) : Bool :=
  match namesO q with
  | none => false
  | some ns => if headIs 47 p then fitsL (partsL (p.drop 1)) ns else false
theorem fitsL_len : ∀ {xs ys : List (List UInt8)}, fitsL xs ys = true → xs.length = ys.length
  | [], [], _ => rfl
  | a :: xs, b :: ys, h => by
    rw [fitsL, Bool.and_eq_true] at h
    rw [List.length_cons, List.length_cons, fitsL_len h.2]
  | [], _ :: _, h => by cases h
  | _ :: _, [], h => by cases h
theorem fitsL_ne {xs ys : List (List UInt8)} (h : xs.length ≠ ys.length) : fitsL xs ys = false := by
  cases hf : fitsL xs ys with
  | false => rfl
  | true => exact absurd (fitsL_len hf) h
theorem fitsL_short : ∀ {xs ys : List (List UInt8)}, fitsL xs ys = true → ∀ a ∈ xs, a.length ≤ 60
  | [], [], _, a, h => by cases h
  | c :: xs, b :: ys, h, a, ha => by
    rw [fitsL, Bool.and_eq_true] at h
    rcases List.mem_cons.1 ha with rfl | ha
    · have h1 := h.1
      unfold matB at h1
      rw [Bool.and_eq_true, Bool.and_eq_true] at h1
      exact (patB_some h1.1.1).1
    · exact fitsL_short h.2 a ha
  | [], _ :: _, h, _, _ => by cases h
  | _ :: _, [], h, _, _ => by cases h
theorem fitsL_step {xs ys : List (List UInt8)} {k : Nat} (h1 : k < xs.length) (h2 : k < ys.length) : fitsL (xs.drop k) (ys.drop k) = (matB xs[k] ys[k] && fitsL (xs.drop (k + 1)) (ys.drop (k + 1))) := by
  rw [List.drop_eq_getElem_cons h1, List.drop_eq_getElem_cons h2, fitsL]
theorem fitsL_end {xs ys : List (List UInt8)} {k : Nat} (h1 : xs.length ≤ k) (h2 : ys.length ≤ k) : fitsL (xs.drop k) (ys.drop k) = true := by
  rw [List.drop_eq_nil_of_le h1, List.drop_eq_nil_of_le h2]; rfl
theorem wt_short : ∀ {xs : List (List UInt8)}, (∀ a ∈ xs, a.length ≤ 60) → wt xs ≤ 61 * xs.length
  | [], _ => by simp [wt]
  | a :: xs, h => by
    have h1 := h a (by simp)
    have h2 := wt_short (xs := xs) (fun x hx => h x (by simp [hx]))
    simp only [wt, List.map_cons, List.sum_cons, List.length_cons] at h2 ⊢
    omega
theorem partsGo_le : ∀ (r cur : List UInt8), ∀ p ∈ partsGo cur r, p.length ≤ cur.length + r.length
  | [], cur, p, h => by rw [partsGo] at h; simp at h; rw [h]; simp
  | c :: r, cur, p, h => by
    rw [partsGo] at h
    split at h
    · rcases List.mem_cons.1 h with rfl | h
      · omega
      · have := partsGo_le r [] p h; simp at this ⊢; omega
    · have := partsGo_le r (cur ++ [c]) p h; simp at this ⊢; omega
theorem parts_le (r : List UInt8) : ∀ p ∈ partsL r, p.length ≤ r.length := fun p h => by
  have := partsGo_le r [] p h; simpa using this
/-- A pattern that fits some path has no more than 366 bytes. -/
theorem mpath_long {p q : List UInt8} (h : 400 < p.length) : mpathV p q = false := by
  unfold mpathV
  cases hn : namesO q with
  | none => rfl
  | some ns =>
    simp only []
    split
    · cases hf : fitsL (partsL (p.drop 1)) ns with
      | false => rfl
      | true =>
        have h1 := wt_short (fitsL_short hf)
        have h2 := (fit_mem (namesO_is hn).1).1
        have h3 := fitsL_len hf
        rw [wt_parts, List.length_drop] at h1
        omega
    · rfl

set_option maxRecDepth 100000 in
set_option maxHeartbeats 4000000 in
theorem implEqualFunc (xs ys : List (List UInt8)) (va vb : Value) (w : World) (hA : Rd w va xs) (hB : Rd w vb ys) (ha : xs ≠ []) (hm : ∀ a ∈ xs, a.length ≤ 2000000) (hn : xs.length ≤ 2000001) (hbn : ys.length ≤ 6) :
    Calls Tryd.prog 31 #[va, vb, .func (.func 7) #[] #[]] w fun e w' => e = .returned (.bool (fitsL xs ys)) ∧ Below w.heap.size w w' := by
  by_cases hl : xs.length = ys.length
  rotate_left
  · have hli : (((xs.length : Int)) != (ys.length : Int)) = true := by simp; omega
    rw [fitsL_ne hl]
    obtain ⟨a, cap, rfl, -⟩ := hA
    obtain ⟨b, cap2, rfl, -⟩ := hB
    clear ha hm hl
    go_enter Tryd.func31, Tryd.ntmps31
    go_wp2
    go_ret
    exact ⟨rfl, Below.refl _ _⟩
  have hb : ys ≠ [] := by intro e; rw [e] at hl; exact ha (List.eq_nil_of_length_eq_zero hl)
  obtain ⟨g, cap, rfl, hg, hcap, hmx, hcell⟩ := hA.at ha
  obtain ⟨g2, cap2, rfl, hg2, hcap2, hmx2, hcell2⟩ := hB.at hb
  have hli : (((xs.length : Int)) != (ys.length : Int)) = false := by simp; omega
  have hab : (xs.length : Int) ≤ (ys.length : Int) := by omega
  obtain ⟨T, hT⟩ : ∃ T, fitsL xs ys = T := ⟨_, rfl⟩
  rw [hT]
  have HT := Lib.hid hT
  have HL := Lib.hid hl
  have HC := Lib.hid hcell
  have HC2 := Lib.hid hcell2
  have HM := Lib.hid hm
  clear hT hl hcell hcell2 hA hB ha hb hm hmx hmx2
  go_enter Tryd.func31, Tryd.ntmps31
  go_wp2
  go_loopw [7, 8, 9, 17] (fun _ _ _ iv wr => ∃ k : Nat, iv = .int .i64 k ∧ k ≤ xs.length ∧ Below w.heap.size w wr ∧ Hid (fitsL (xs.drop k) (ys.drop k) = T)) (fun _ _ _ iv _ => xs.length - (intOf iv).toNat)
  case atStart => exact ⟨0, rfl, Nat.zero_le _, Below.refl _ _, Lib.hid (by rw [List.drop_zero, List.drop_zero]; exact HT.out)⟩
  case round =>
    clear HT
    obtain ⟨k, rfl, hk, hbl, HR⟩ := hrel
    by_cases h1 : k < xs.length
    · have hl := HL.out
      have h2 : k < ys.length := by omega
      have h1i : (k : Int) < (xs.length : Int) := by omega
      have h2i : (k : Int) < (ys.length : Int) := by omega
      have hc1 := (hbl.cell (p := ⟨g, k, none⟩) hg).trans (HC.out k h1)
      have hc2 := (hbl.cell (p := ⟨g2, k, none⟩) hg2).trans (HC2.out k h2)
      have HS := Lib.hid (HR.out.symm.trans (fitsL_step h1 h2))
      have hmk := HM.out _ (List.getElem_mem h1)
      have CM := Lib.hid (fun W => implMatch (strOf xs[k]) (strOf ys[k]) (by rw [strOf_size]; unfold maxLen; omega) W)
      rw [strOf_data, strOf_data] at CM
      generalize strOf xs[k] = x at CM hc1
      generalize strOf ys[k] = y at CM hc2
      have HB := Lib.hid hbl
      cases hmb : matB xs[k] ys[k] with
      | true =>
        rw [hmb] at CM HS
        have HE := Lib.hid (show fitsL (xs.drop (k + 1)) (ys.drop (k + 1)) = T by rw [HS.out]; rfl)
        clear hbl HS hmb hmk hl
        go_wp2_with fail
        refine (CM.out _).mono ?_
        rintro e W1 ⟨rfl, hb1⟩
        have HB1 := Lib.hid (HB.out.trans (hb1.mono HB.out.size))
        clear hb1
        go_wp2
        go_roundw
        case rel => exact ⟨k + 1, by go_num, by omega, HB1.out, HE⟩
        case measure => simp [intOf]; omega
      | false =>
        rw [hmb] at CM HS
        have hTf : T = false := by rw [HS.out]; rfl
        clear hbl hmb hmk hl HS
        go_wp2_with fail
        refine (CM.out _).mono ?_
        rintro e W1 ⟨rfl, hb1⟩
        have HB1 := Lib.hid (HB.out.trans (hb1.mono HB.out.size))
        clear hb1
        go_wp2
        go_ret
        exact ⟨ret_bool hTf.symm, HB1.out⟩
    · have h1i : ¬ (k : Int) < (xs.length : Int) := by omega
      have hl := HL.out
      have hTt : T = true := by rw [← HR.out]; exact fitsL_end (by omega) (by omega)
      have HB := Lib.hid hbl
      clear hbl HR hl
      go_wp2
      go_ret
      exact ⟨rfl, HB.out⟩
end Go.Proofs.YthlmkeibaaobeaaDoor
