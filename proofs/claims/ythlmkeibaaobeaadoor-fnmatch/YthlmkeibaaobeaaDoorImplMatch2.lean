/- impl.Match. -/
import Derived.Test.YthlmkeibaaobeaaDoorImplMatch
namespace Go.Proofs.YthlmkeibaaobeaaDoor
open Go.RowKit

theorem PRow.at {W : World} {B : Nat} {v : Value} {vs : List Value} (h : PRow W B v vs) : ∃ a cap, v = .slice a vs.length cap ∧ ∀ (j : Nat) (u : Value), vs[j]? = some u → ∃ g, a = some ⟨g, 0, none⟩ ∧ g < W.heap.size ∧ vs.length ≤ cap ∧ W.cell? ⟨g, j, none⟩ = some u := by
  rcases h.2 with ⟨hv, hn⟩ | ⟨g, cap, cur, hv, hb, hg, hle, rest⟩
  · refine ⟨none, 0, by rw [hv, hn], fun j u hu => ?_⟩
    rw [List.eq_nil_of_length_eq_zero hn] at hu
    simp at hu
  · refine ⟨some ⟨g, 0, none⟩, cap, hv, fun j u hu => ⟨g, rfl, (Array.getElem?_eq_some_iff.1 hg).1, hle, ?_⟩⟩
    have q1 := h.own.cells (g := g) (by rw [hv]; rfl) j u hu
    rw [Addr.add_lit] at q1
    simpa using q1
theorem psO_is {l : List UInt8} {ps : List Pc} (h : psO l = some ps) : l.length ≤ 60 ∧ piecesL l = some ps := by
  unfold psO at h
  split at h
  · rename_i h1; exact ⟨h1.1, h⟩
  · cases h

set_option maxRecDepth 100000 in
set_option maxHeartbeats 4000000 in
theorem implMatch (s q : ByteArray) (hm : s.size ≤ maxLen) (w : World) :
    Calls Tryd.prog 7 #[.string s, .string q] w fun e w' => e = .returned (.bool (matB s.data.toList q.data.toList)) ∧ Below w.heap.size w w' := by
  have CP := Lib.hid (fun W => implPiecesOf s hm W)
  have CN := Lib.hid (fun W => implNameOk q W)
  have HP := Lib.hid (psO_some s.data.toList)
  have HM := Lib.hid (show matB s.data.toList q.data.toList = (patB s.data.toList && nameB q.data.toList && matchV s.data.toList q.data.toList) from rfl)
  have HS := Lib.hid (fun ps (h : psO s.data.toList = some ps) => psO_is h)
  have HL := Lib.hid (fun h : nameB q.data.toList = true => nameB_len h)
  have hqz : q.data.toList.length = q.size := by simp
  generalize matB s.data.toList q.data.toList = T at HM
  generalize psO s.data.toList = O at CP HP HS
  generalize patB s.data.toList = bp at HP HM
  generalize nameB q.data.toList = bn at CN HM HL
  go_enter Tryd.func7, Tryd.ntmps7
  go_wp2_with fail
  refine (CP.out _).mono ?_
  rintro e W1 ⟨hres, hb1⟩
  clear CP
  have hw1 := hb1.size
  rcases hres with ⟨ht, v, rfl⟩ | ⟨ps, v, vs, ht, rfl, hPR, hPC, hvl⟩
  · have hT : T = false := by rw [HM.out, ← HP.out, ht]; rfl
    subst hT
    clear HM HP HS HL ht hqz
    go_wp2
    go_ret
    exact ⟨rfl, hb1⟩
  have hbp : bp = true := by rw [← HP.out, ht]; rfl
  obtain ⟨a, cap, rfl, hcell⟩ := hPR.at
  cases bn with
  | false =>
    have hT : T = false := by rw [HM.out, hbp]; rfl
    subst hT
    have HB := Lib.hid hb1
    clear HM HP HS HL ht hqz hbp hPR hPC hcell hb1
    go_wp2_with fail
    refine (CN.out _).mono ?_
    rintro e W2 ⟨rfl, hb2⟩
    go_wp2
    go_ret
    exact ⟨rfl, HB.out.trans (hb2.mono hw1)⟩
  | true =>
    obtain ⟨hl60, hps⟩ := HS.out ps ht
    have hlq := HL.out rfl
    have HT := Lib.hid (show runF q.data.toList (ps.drop 0) (fun k => k == 0) q.size = T by rw [HM.out, hbp, matchV_some hps, hqz]; rfl)
    have HSM := Lib.hid (piecesL_small _ _ _ (Nat.le_refl _) hl60 hps)
    have hq : q.size ≤ 900 := by omega
    have hqi : (q.size : Int) ≤ 900 := by omega
    have hvi : (vs.length : Int) ≤ 60 := by omega
    have HB := Lib.hid hb1
    have HPC := Lib.hid hPC
    have HC := Lib.hid hcell
    have hmk := fun W => makeBools q.size (by omega) W
    have hmc := fun W : World => (BRow.made W (q.size + 1) (fun _ => false)).cell (i := 0) (by omega)
    have hmf := fun W : World => (BRow.made W (q.size + 1) (fun _ => false)).frozen 0
    simp only [upto, Bool.and_false] at hmc
    clear HM HP HS HL ht hqz hbp hPR hPC hcell hb1 hl60 hps hlq
    go_wp2_with fail
    refine (CN.out _).mono ?_
    rintro e W2 ⟨rfl, hb2⟩
    have HB2 := Lib.hid (HB.out.trans (hb2.mono hw1))
    have HPC2 := Lib.hid (HPC.out.on hb2)
    have HC2 := Lib.hid (show ∀ (j : Nat) (u : Value), vs[j]? = some u → ∃ g, a = some ⟨g, 0, none⟩ ∧ g < W2.heap.size ∧ vs.length ≤ cap ∧ W2.cell? ⟨g, j, none⟩ = some u from fun j u hu => by
      obtain ⟨g, h1, h2, h3, h4⟩ := HC.out j u hu
      exact ⟨g, h1, Nat.lt_of_lt_of_le h2 hb2.size, h3, (hb2.cell (p := ⟨g, j, none⟩) h2).trans h4⟩)
    have hw2 := HB2.out.size
    clear hb2 HB HPC HC CN
    go_wp2_with fail
    go_loopw [7, 9, 30] (fun rv _ iv wr => ∃ gr k F, rv = .slice (some ⟨gr, 0, none⟩) (q.size + 1) (q.size + 1) ∧ iv = .int .i64 ((k : Nat) : Int) ∧ k ≤ vs.length ∧ BRow wr gr (q.size + 1) F ∧ Below W2.heap.size W2 wr ∧ Hid (runF q.data.toList (ps.drop k) F q.size = T)) (fun _ _ iv _ => vs.length - (intOf iv).toNat)
    case atStart => exact ⟨W2.heap.size, 0, fun k => k == 0, rfl, rfl, Nat.zero_le _, BRow.first W2 (q.size + 1), (Below.refl _ _).alloc (Nat.le_refl _) _, HT⟩
    case round =>
      clear HT hmk hmc hmf
      obtain ⟨gr, k, F, rfl, rfl, hk, hR, hb, HR⟩ := hrel
      have HRow := Lib.hid hR
      have HBr := Lib.hid hb
      have hwr := hb.size
      clear hR hb
      have hlen := HPC2.out.1
      by_cases h1 : k < vs.length
      · have h1i : (k : Int) < (vs.length : Int) := by omega
        obtain ⟨p, hp⟩ : ∃ p, ps[k]? = some p := ⟨_, List.getElem?_eq_getElem (by omega)⟩
        obtain ⟨u, hu, hpc⟩ := HPC2.out.2 k p hp
        obtain ⟨g, rfl, hg, hcap, hcl⟩ := HC2.out k u hu
        have hcl2 := (HBr.out.cell (p := ⟨g, k, none⟩) hg).trans hcl
        have hpc2 := hpc.on HBr.out
        have hsm := HSM.out p (List.mem_of_getElem? hp)
        have CR := Lib.hid (implReached u p w.heap.size q gr F wr hpc2 hsm HRow.out hq)
        have HN := Lib.hid (show runF q.data.toList (ps.drop (k + 1)) (stepF q.data.toList p F) q.size = T by
          have hlt : k < ps.length := (List.getElem?_eq_some_iff.1 hp).1
          rw [← HR.out, List.drop_eq_getElem_cons hlt, (List.getElem?_eq_some_iff.1 hp).2]; rfl)
        obtain ⟨t0, c0, rfl⟩ := hpc.shape
        clear hu hpc hpc2 hcl hp hsm HR HRow hlen
        go_wp2_with fail
        refine CR.out.mono ?_
        rintro e W3 ⟨rfl, hR3, hb3⟩
        have HB3 := Lib.hid (HBr.out.trans (hb3.mono hwr))
        have HR3 := Lib.hid hR3
        clear hb3 hR3 CR HBr
        go_wp2
        go_roundw
        case rel => exact ⟨wr.heap.size, k + 1, stepF q.data.toList p F, rfl, by go_num, by omega, HR3.out, HB3.out, HN⟩
        case measure => simp [intOf]; omega
      · have h1i : ¬ (k : Int) < (vs.length : Int) := by omega
        have hE : F q.size = T := by
          rw [← HR.out, List.drop_eq_nil_of_le (by omega)]; rfl
        have hc := HRow.out.cell (i := q.size) (by omega)
        rw [hE] at hc
        clear hE HR
        go_wp2
        go_ret
        exact ⟨rfl, HB2.out.trans (HBr.out.mono hw2)⟩
end Go.Proofs.YthlmkeibaaobeaaDoor
