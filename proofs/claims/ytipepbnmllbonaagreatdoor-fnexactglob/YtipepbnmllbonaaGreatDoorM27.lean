/- impl.Match. Paths and patterns, name by name, as plain lists; slices.EqualFunc with impl.Match. -/
import Derived.Test.YtipepbnmllbonaaGreatDoorM26
import Derived.Test.YtipepbnmllbonaaGreatDoorM10
namespace Go.Proofs.YtipepbnmllbonaaGreatDoor
open Go.RowKit

theorem PRow.at {W : World} {B : Nat} {v : Value} {vs : List Value} (h : PRow W B v vs) : ∃ a cap, v = .slice a vs.length cap ∧ ∀ (j : Nat) (u : Value), vs[j]? = some u → ∃ g, a = some ⟨g, 0, none⟩ ∧ g < W.heap.size ∧ vs.length ≤ cap ∧ W.cell? ⟨g, j, none⟩ = some u := by
  rcases h.2 with ⟨hv, hn⟩ | ⟨g, cap, cur, hv, hb, hg, hle, rest⟩
  · refine ⟨none, 0, by rw [hv, hn], fun j u hu => ?_⟩
    rw [List.eq_nil_of_length_eq_zero hn] at hu
    simp at hu
  · refine ⟨some ⟨g, 0, none⟩, cap, hv, fun j u hu => ⟨g, rfl, (Array.getElem?_eq_some_iff.1 hg).1, hle, ?_⟩⟩
    have q1 := h.own.cells (g := g) (by rw [hv]; rfl) j u hu
    rw [Addr.add_lit] at q1
    simpa using q1
theorem psO_is {l : List UInt8} {ps : List Pc} (h : psO l = some ps) : l.length ≤ 60 ∧ piecesL l = some ps := by
  unfold psO at h
  split at h
  · rename_i h1; exact ⟨h1.1, h⟩
  · cases h

set_option maxRecDepth 100000 in
set_option maxHeartbeats 4000000 in
theorem implMatch (s q : ByteArray) (hm : s.size ≤ maxLen) (w : World) :
    Calls Tryz.prog 79 #[.string s, .string q] w fun e w' => e = .returned (.bool (matB s.data.toList q.data.toList)) ∧ Below w.heap.size w w' := by
  have CP := Lib.hid (fun W => implPiecesOf s hm W)
  have CN := Lib.hid (fun W => implNameOk q W)
  have HP := Lib.hid (psO_some s.data.toList)
  have HM := Lib.hid (show matB s.data.toList q.data.toList = (patB s.data.toList && nameB q.data.toList && matchV s.data.toList q.data.toList) from rfl)
  have HS := Lib.hid (fun ps (h : psO s.data.toList = some ps) => psO_is h)
  have HL := Lib.hid (fun h : nameB q.data.toList = true => nameB_len h)
  have hqz : q.data.toList.length = q.size := by simp
  generalize matB s.data.toList q.data.toList = T at HM
  generalize psO s.data.toList = O at CP HP HS
  generalize patB s.data.toList = bp at HP HM
  generalize nameB q.data.toList = bn at CN HM HL
  go_enter Tryz.func79, Tryz.ntmps79
  go_wp2_with fail
  refine (CP.out _).mono ?_
  rintro e W1 ⟨hres, hb1⟩
  clear CP
  have hw1 := hb1.size
  rcases hres with ⟨ht, v, rfl⟩ | ⟨ps, v, vs, ht, rfl, hPR, hPC, hvl⟩
  · have hT : T = false := by rw [HM.out, ← HP.out, ht]; rfl
    subst hT
    clear HM HP HS HL ht hqz
    go_wp2
    go_ret
    exact ⟨rfl, hb1⟩
  have hbp : bp = true := by rw [← HP.out, ht]; rfl
  obtain ⟨a, cap, rfl, hcell⟩ := hPR.at
  cases bn with
  | false =>
    have hT : T = false := by rw [HM.out, hbp]; rfl
    subst hT
    have HB := Lib.hid hb1
    clear HM HP HS HL ht hqz hbp hPR hPC hcell hb1
    go_wp2_with fail
    refine (CN.out _).mono ?_
    rintro e W2 ⟨rfl, hb2⟩
    go_wp2
    go_ret
    exact ⟨rfl, HB.out.trans (hb2.mono hw1)⟩
  | true =>
    obtain ⟨hl60, hps⟩ := HS.out ps ht
    have hlq := HL.out rfl
    have HT := Lib.hid (show runF q.data.toList (ps.drop 0) (fun k => k == 0) q.size = T by rw [HM.out, hbp, matchV_some hps, hqz]; rfl)
    have HSM := Lib.hid (piecesL_small _ _ _ (Nat.le_refl _) hl60 hps)
    have hq : q.size ≤ 900 := by omega
    have hqi : (q.size : Int) ≤ 900 := by omega
    have hvi : (vs.length : Int) ≤ 60 := by omega
    have HB := Lib.hid hb1
    have HPC := Lib.hid hPC
    have HC := Lib.hid hcell
    have hmk := fun W => makeBools q.size (by omega) W
    have hmc := fun W : World => (BRow.made W (q.size + 1) (fun _ => false)).cell (i := 0) (by omega)
    have hmf := fun W : World => (BRow.made W (q.size + 1) (fun _ => false)).frozen 0
    simp only [upto, Bool.and_false] at hmc
    clear HM HP HS HL ht hqz hbp hPR hPC hcell hb1 hl60 hps hlq
    go_wp2_with fail
    refine (CN.out _).mono ?_
    rintro e W2 ⟨rfl, hb2⟩
    have HB2 := Lib.hid (HB.out.trans (hb2.mono hw1))
    have HPC2 := Lib.hid (HPC.out.on hb2)
    have HC2 := Lib.hid (show ∀ (j : Nat) (u : Value), vs[j]? = some u → ∃ g, a = some ⟨g, 0, none⟩ ∧ g < W2.heap.size ∧ vs.length ≤ cap ∧ W2.cell? ⟨g, j, none⟩ = some u from fun j u hu => by
      obtain ⟨g, h1, h2, h3, h4⟩ := HC.out j u hu
      exact ⟨g, h1, Nat.lt_of_lt_of_le h2 hb2.size, h3, (hb2.cell (p := ⟨g, j, none⟩) h2).trans h4⟩)
    have hw2 := HB2.out.size
    clear hb2 HB HPC HC CN
    go_wp2_with fail
    go_loopw [7, 9, 30] (fun rv _ iv wr => ∃ gr k F, rv = .slice (some ⟨gr, 0, none⟩) (q.size + 1) (q.size + 1) ∧ iv = .int .i64 ((k : Nat) : Int) ∧ k ≤ vs.length ∧ BRow wr gr (q.size + 1) F ∧ Below W2.heap.size W2 wr ∧ Hid (runF q.data.toList (ps.drop k) F q.size = T)) (fun _ _ iv _ => vs.length - (intOf iv).toNat)
    case atStart => exact ⟨W2.heap.size, 0, fun k => k == 0, rfl, rfl, Nat.zero_le _, BRow.first W2 (q.size + 1), (Below.refl _ _).alloc (Nat.le_refl _) _, HT⟩
    case round =>
      clear HT hmk hmc hmf
      obtain ⟨gr, k, F, rfl, rfl, hk, hR, hb, HR⟩ := hrel
      have HRow := Lib.hid hR
      have HBr := Lib.hid hb
      have hwr := hb.size
      clear hR hb
      have hlen := HPC2.out.1
      by_cases h1 : k < vs.length
      · have h1i : (k : Int) < (vs.length : Int) := by omega
        obtain ⟨p, hp⟩ : ∃ p, ps[k]? = some p := ⟨_, List.getElem?_eq_getElem (by omega)⟩
        obtain ⟨u, hu, hpc⟩ := HPC2.out.2 k p hp
        obtain ⟨g, rfl, hg, hcap, hcl⟩ := HC2.out k u hu
        have hcl2 := (HBr.out.cell (p := ⟨g, k, none⟩) hg).trans hcl
        have hpc2 := hpc.on HBr.out
        have hsm := HSM.out p (List.mem_of_getElem? hp)
        have CR := Lib.hid (implReached u p w.heap.size q gr F wr hpc2 hsm HRow.out hq)
        have HN := Lib.hid (show runF q.data.toList (ps.drop (k + 1)) (stepF q.data.toList p F) q.size = T by
          have hlt : k < ps.length := (List.getElem?_eq_some_iff.1 hp).1
          rw [← HR.out, List.drop_eq_getElem_cons hlt, (List.getElem?_eq_some_iff.1 hp).2]; rfl)
        obtain ⟨t0, c0, rfl⟩ := hpc.shape
        clear hu hpc hpc2 hcl hp hsm HR HRow hlen
        go_wp2_with fail
        refine CR.out.mono ?_
        rintro e W3 ⟨rfl, hR3, hb3⟩
        have HB3 := Lib.hid (HBr.out.trans (hb3.mono hwr))
        have HR3 := Lib.hid hR3
        clear hb3 hR3 CR HBr
        go_wp2
        go_roundw
        case rel => exact ⟨wr.heap.size, k + 1, stepF q.data.toList p F, rfl, by go_num, by omega, HR3.out, HB3.out, HN⟩
        case measure => simp [intOf]; omega
      · have h1i : ¬ (k : Int) < (vs.length : Int) := by omega
        have hE : F q.size = T := by
          rw [← HR.out, List.drop_eq_nil_of_le (by omega)]; rfl
        have hc := HRow.out.cell (i := q.size) (by omega)
        rw [hE] at hc
        clear hE HR
        go_wp2
        go_ret
        exact ⟨rfl, HB2.out.trans (HBr.out.mono hw2)⟩
end Go.Proofs.YtipepbnmllbonaaGreatDoor
namespace Go.Proofs.YtipepbnmllbonaaGreatDoor
open Go.RowKit

def fitsL : List (List UInt8) → List (List UInt8) → Bool
  | [], [] => true
  | a :: xs, b :: ys => matB a b && fitsL xs ys
  | _, _ => false
/-- What MatchPath tells. -/
def mpathV (p q : List UInt8) : Bool :=
  match namesO q with
  | none => false
  | some ns => if headIs 47 p then fitsL (partsL (p.drop 1)) ns else false
theorem fitsL_len : ∀ {xs ys : List (List UInt8)}, fitsL xs ys = true → xs.length = ys.length
  | [], [], _ => rfl
  | a :: xs, b :: ys, h => by
    rw [fitsL, Bool.and_eq_true] at h
    rw [List.length_cons, List.length_cons, fitsL_len h.2]
  | [], _ :: _, h => by cases h
  | _ :: _, [], h => by cases h
theorem fitsL_ne {xs ys : List (List UInt8)} (h : xs.length ≠ ys.length) : fitsL xs ys = false := by
  cases hf : fitsL xs ys with
  | false => rfl
  | true => exact absurd (fitsL_len hf) h
theorem fitsL_short : ∀ {xs ys : List (List UInt8)}, fitsL xs ys = true → ∀ a ∈ xs, a.length ≤ 60
  | [], [], _, a, h => by cases h
  | c :: xs, b :: ys, h, a, ha => by
    rw [fitsL, Bool.and_eq_true] at h
    rcases List.mem_cons.1 ha with rfl | ha
    · have h1 := h.1
      unfold matB at h1
      rw [Bool.and_eq_true, Bool.and_eq_true] at h1
      exact (patB_some h1.1.1).1
    · exact fitsL_short h.2 a ha
  | [], _ :: _, h, _, _ => by cases h
  | _ :: _, [], h, _, _ => by cases h
theorem fitsL_step {xs ys : List (List UInt8)} {k : Nat} (h1 : k < xs.length) (h2 : k < ys.length) : fitsL (xs.drop k) (ys.drop k) = (matB xs[k] ys[k] && fitsL (xs.drop (k + 1)) (ys.drop (k + 1))) := by
  rw [List.drop_eq_getElem_cons h1, List.drop_eq_getElem_cons h2, fitsL]
theorem fitsL_end {xs ys : List (List UInt8)} {k : Nat} (h1 : xs.length ≤ k) (h2 : ys.length ≤ k) : fitsL (xs.drop k) (ys.drop k) = true := by
  rw [List.drop_eq_nil_of_le h1, List.drop_eq_nil_of_le h2]; rfl
theorem wt_short : ∀ {xs : List (List UInt8)}, (∀ a ∈ xs, a.length ≤ 60) → wt xs ≤ 61 * xs.length
  | [], _ => by simp [wt]
  | a :: xs, h => by
    have h1 := h a (by simp)
    have h2 := wt_short (xs := xs) (fun x hx => h x (by simp [hx]))
    simp only [wt, List.map_cons, List.sum_cons, List.length_cons] at h2 ⊢
    omega
theorem partsGo_le : ∀ (r cur : List UInt8), ∀ p ∈ partsGo cur r, p.length ≤ cur.length + r.length
  | [], cur, p, h => by rw [partsGo] at h; simp at h; rw [h]; simp
  | c :: r, cur, p, h => by
    rw [partsGo] at h
    split at h
    · rcases List.mem_cons.1 h with rfl | h
      · omega
      · have := partsGo_le r [] p h; simp at this ⊢; omega
    · have := partsGo_le r (cur ++ [c]) p h; simp at this ⊢; omega
theorem parts_le (r : List UInt8) : ∀ p ∈ partsL r, p.length ≤ r.length := fun p h => by
  have := partsGo_le r [] p h; simpa using this
/-- A pattern that fits some path has no more than 366 bytes. -/
theorem mpath_long {p q : List UInt8} (h : 400 < p.length) : mpathV p q = false := by
  unfold mpathV
  cases hn : namesO q with
  | none => rfl
  | some ns =>
    simp only []
    split
    · cases hf : fitsL (partsL (p.drop 1)) ns with
      | false => rfl
      | true =>
        have h1 := wt_short (fitsL_short hf)
        have h2 := (fit_mem (namesO_is hn).1).1
        have h3 := fitsL_len hf
        rw [wt_parts, List.length_drop] at h1
        omega
    · rfl

set_option maxRecDepth 100000 in
set_option maxHeartbeats 4000000 in
theorem implEqualFunc (xs ys : List (List UInt8)) (va vb : Value) (w : World) (hA : Rd w va xs) (hB : Rd w vb ys) (ha : xs ≠ []) (hm : ∀ a ∈ xs, a.length ≤ 2000000) (hn : xs.length ≤ 2000001) (hbn : ys.length ≤ 6) :
    Calls Tryz.prog 78 #[va, vb, .func (.func 79) #[] #[]] w fun e w' => e = .returned (.bool (fitsL xs ys)) ∧ Below w.heap.size w w' := by
  by_cases hl : xs.length = ys.length
  rotate_left
  · have hli : (((xs.length : Int)) != (ys.length : Int)) = true := by simp; omega
    rw [fitsL_ne hl]
    obtain ⟨a, cap, rfl, -⟩ := hA
    obtain ⟨b, cap2, rfl, -⟩ := hB
    clear ha hm hl
    go_enter Tryz.func78, Tryz.ntmps78
    go_wp2
    go_ret
    exact ⟨rfl, Below.refl _ _⟩
  have hb : ys ≠ [] := by intro e; rw [e] at hl; exact ha (List.eq_nil_of_length_eq_zero hl)
  obtain ⟨g, cap, rfl, hg, hcap, hmx, hcell⟩ := hA.at ha
  obtain ⟨g2, cap2, rfl, hg2, hcap2, hmx2, hcell2⟩ := hB.at hb
  have hli : (((xs.length : Int)) != (ys.length : Int)) = false := by simp; omega
  have hab : (xs.length : Int) ≤ (ys.length : Int) := by omega
  obtain ⟨T, hT⟩ : ∃ T, fitsL xs ys = T := ⟨_, rfl⟩
  rw [hT]
  have HT := Lib.hid hT
  have HL := Lib.hid hl
  have HC := Lib.hid hcell
  have HC2 := Lib.hid hcell2
  have HM := Lib.hid hm
  clear hT hl hcell hcell2 hA hB ha hb hm hmx hmx2
  go_enter Tryz.func78, Tryz.ntmps78
  go_wp2
  go_loopw [7, 8, 9, 17] (fun _ _ _ iv wr => ∃ k : Nat, iv = .int .i64 k ∧ k ≤ xs.length ∧ Below w.heap.size w wr ∧ Hid (fitsL (xs.drop k) (ys.drop k) = T)) (fun _ _ _ iv _ => xs.length - (intOf iv).toNat)
  case atStart => exact ⟨0, rfl, Nat.zero_le _, Below.refl _ _, Lib.hid (by rw [List.drop_zero, List.drop_zero]; exact HT.out)⟩
  case round =>
    clear HT
    obtain ⟨k, rfl, hk, hbl, HR⟩ := hrel
    by_cases h1 : k < xs.length
    · have hl := HL.out
      have h2 : k < ys.length := by omega
      have h1i : (k : Int) < (xs.length : Int) := by omega
      have h2i : (k : Int) < (ys.length : Int) := by omega
      have hc1 := (hbl.cell (p := ⟨g, k, none⟩) hg).trans (HC.out k h1)
      have hc2 := (hbl.cell (p := ⟨g2, k, none⟩) hg2).trans (HC2.out k h2)
      have HS := Lib.hid (HR.out.symm.trans (fitsL_step h1 h2))
      have hmk := HM.out _ (List.getElem_mem h1)
      have CM := Lib.hid (fun W => implMatch (strOf xs[k]) (strOf ys[k]) (by rw [strOf_size]; unfold maxLen; omega) W)
      rw [strOf_data, strOf_data] at CM
      generalize strOf xs[k] = x at CM hc1
      generalize strOf ys[k] = y at CM hc2
      have HB := Lib.hid hbl
      cases hmb : matB xs[k] ys[k] with
      | true =>
        rw [hmb] at CM HS
        have HE := Lib.hid (show fitsL (xs.drop (k + 1)) (ys.drop (k + 1)) = T by rw [HS.out]; rfl)
        clear hbl HS hmb hmk hl
        go_wp2_with fail
        refine (CM.out _).mono ?_
        rintro e W1 ⟨rfl, hb1⟩
        have HB1 := Lib.hid (HB.out.trans (hb1.mono HB.out.size))
        clear hb1
        go_wp2
        go_roundw
        case rel => exact ⟨k + 1, by go_num, by omega, HB1.out, HE⟩
        case measure => simp [intOf]; omega
      | false =>
        rw [hmb] at CM HS
        have hTf : T = false := by rw [HS.out]; rfl
        clear hbl hmb hmk hl HS
        go_wp2_with fail
        refine (CM.out _).mono ?_
        rintro e W1 ⟨rfl, hb1⟩
        have HB1 := Lib.hid (HB.out.trans (hb1.mono HB.out.size))
        clear hb1
        go_wp2
        go_ret
        exact ⟨ret_bool hTf.symm, HB1.out⟩
    · have h1i : ¬ (k : Int) < (xs.length : Int) := by omega
      have hl := HL.out
      have hTt : T = true := by rw [← HR.out]; exact fitsL_end (by omega) (by omega)
      have HB := Lib.hid hbl
      clear hbl HR hl
      go_wp2
      go_ret
      exact ⟨rfl, HB.out⟩
end Go.Proofs.YtipepbnmllbonaaGreatDoor
