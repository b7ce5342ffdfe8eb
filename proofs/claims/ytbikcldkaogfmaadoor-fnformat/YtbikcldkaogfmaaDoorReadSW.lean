/- The contract of spec.ReadDate. -/
import Derived.Test.YtbikcldkaogfmaaDoorReadS
namespace Go.Proofs.YtbikcldkaogfmaaDoor
open Go.RowKit

theorem num_cut (s : ByteArray) (c : UInt8) (i m : Nat) (hm : widS s.data.toList c i = m) : numOf (s.extract i (i + m)) 12 = numS s.data.toList c i := by
  rw [show (12 : Int) = ((12 : Nat) : Int) from rfl, numOf_numL, Lib.extract_data]
  unfold numS
  rw [hm]
  congr 1
  simp
theorem dig_bd (c : UInt8) : 0 ≤ digS c ∧ digS c ≤ 4 := by
  unfold digS; repeat' split
  all_goals omega
theorem text_eq {q : List UInt8} {s : ByteArray} (h : q = s.data.toList) : ((strOf q).toList == s.toList) = true := by
  rw [Lib.toList_data, strOf_data, Lib.toList_data, h]; simp
theorem text_ne {q : List UInt8} {s : ByteArray} (h : ¬ q = s.data.toList) : ((strOf q).toList == s.toList) = false := by
  rw [Lib.toList_data, strOf_data, Lib.toList_data]; simpa using h
set_option maxRecDepth 100000 in
set_option maxHeartbeats 16000000 in
theorem specReadDate (f s : ByteArray) (w : World) (hf : f.size ≤ 1048576) (hs : s.size ≤ 1048576) :
    Calls Tryd.prog 12 #[.string f, .string s] w fun e w' => (∃ r, e = .returned (.int .i64 r) ∧ ReadS f.data.toList s.data.toList r) ∧ Below w.heap.size w w' := by
  have hlen : s.data.toList.length = s.size := by simp
  obtain ⟨T, hT⟩ : ∃ T, rdS s.data.toList f.data.toList zeroS = T := ⟨_, rfl⟩
  have HT := Lib.hid hT
  have HE := Lib.hid (show ∀ r, (match T with | none => r = -1 | some z => (toldS f.data.toList z < 0 ∧ r = -1) ∨ (0 ≤ toldS f.data.toList z ∧ ∃ q, RendIs f.data.toList (toldS f.data.toList z) q ∧ r = if q = s.data.toList then toldS f.data.toList z else -1)) → ReadS f.data.toList s.data.toList r from fun r h => by
    unfold ReadS; rw [hT]; exact h)
  have CH := Lib.hid (fun b W => specHas f b W hf)
  have CR := Lib.hid (fun t q hq W => specRenderR f t q hq W hf)
  have hfi : (f.size : Int) ≤ 1048576 := by omega
  have hsi : (s.size : Int) ≤ 1048576 := by omega
  have HL := Lib.hid hlen
  clear hT hlen
  go_enter Tryd.func12, Tryd.ntmps12
  go_wp2
  go_loopw [6, 7, 8, 9, 10, 11, 12] (fun tv iv kv _ _ _ _ wr => ∃ (z : StS) (k : Nat), tv = .int .i64 z.t ∧ iv = .int .i64 z.i ∧ kv = .int .i64 k ∧ k ≤ f.size ∧ z.i ≤ s.size + k ∧ DayAt wr w.heap.size z.x ∧ Below w.heap.size w wr ∧ Hid (T = rdS s.data.toList (f.data.toList.drop k) z)) (fun _ _ kv _ _ _ _ _ => f.size - (intOf kv).toNat)
  case atStart => exact ⟨zeroS, 0, rfl, rfl, rfl, Nat.zero_le _, Nat.zero_le _, heap_alloc_new w _, (Below.refl _ _).alloc (Nat.le_refl _) _, Lib.hid (by rw [List.drop_zero, HT.out])⟩
  case round =>
    clear HT
    obtain ⟨⟨i, x, t⟩, k, rfl, rfl, rfl, hk, hi, hD, hb, HR⟩ := hrel
    have hsz := hb.size
    have HB := Lib.hid hb
    have HDy := Lib.hid hD
    clear hb hD
    simp only at hi
    by_cases h1 : k < f.size
    · have hat := Lib.hid (at_byte f k h1)
      by_cases h2 : f[k] = 37
      · have h3 : ((f[k].toNat : Int) != 37) = false := by rw [h2]; rfl
        have HA := Lib.hid (show f.data.toList[k]? = some 37 by rw [hat.out, h2])
        clear h2
        by_cases h4 : k + 1 < f.size
        · have h5 : (((k : Int) + 1) == (f.size : Int)) = false := by simp; omega
          have h4i : (k : Int) + 1 < (f.size : Int) := by omega
          have hat2 := Lib.hid (at_byte f (k + 1) h4)
          have HDr := Lib.hid (show f.data.toList.drop k = 37 :: f[k + 1] :: f.data.toList.drop (k + 2) from drop_two _ _ HA.out hat2.out)
          have HBad := Lib.hid (fun (h : badS s.data.toList f[k + 1] ⟨i, x, t⟩) => show T = none by rw [HR.out, HDr.out]; exact rdS_bad _ _ _ _ h)
          have HStep := Lib.hid (fun (h : ¬ badS s.data.toList f[k + 1] ⟨i, x, t⟩) => show T = rdS s.data.toList (f.data.toList.drop (k + 2)) (stepS s.data.toList f[k + 1] ⟨i, x, t⟩) by rw [HR.out, HDr.out]; exact rdS_step _ _ _ _ h)
          obtain ⟨m, hm⟩ : ∃ m, widS s.data.toList f[k + 1] i = m := ⟨_, rfl⟩
          have HM := Lib.hid hm
          have HNum := Lib.hid (num_cut s f[k + 1] i m hm)
          obtain ⟨n, hn⟩ : ∃ n, numS s.data.toList f[k + 1] i = n := ⟨_, rfl⟩
          have HNn := Lib.hid hn
          have CF := fun W => specField0 f[k + 1] W
          obtain ⟨z, hz⟩ : ∃ z, takeD x f[k + 1] n = z := ⟨_, rfl⟩
          have HZ := Lib.hid hz
          have CTk := Lib.hid (show ∀ W, Calls Tryd.prog 37 #[.agg #[.int .i64 x.y, .int .i64 x.mo, .int .i64 x.d, .int .i64 x.h, .int .i64 x.mi, .int .i64 x.s], .int .u8 f[k + 1].toNat, .int .i64 n] W fun e w' => e = .returned (.agg #[.int .i64 z.y, .int .i64 z.mo, .int .i64 z.d, .int .i64 z.h, .int .i64 z.mi, .int .i64 z.s]) ∧ Below W.heap.size W w' from fun W => by have := specTake x f[k + 1] n W; rw [hz] at this; exact this)
          clear hz
          generalize strOf ((fieldS f[k + 1] x0).getD []) = q0 at CF
          clear hn HR HDr hat2 HA hat
          by_cases h6 : f[k + 1] = 115
          · have h7 : ((f[k + 1].toNat : Int) == 115) = true := by rw [h6]; rfl
            have hkn : knownS f[k + 1] = true := by rw [h6]; rfl
            rw [hkn] at CF
            have HCF := Lib.hid CF
            have HLd := Lib.hid (show lead (s.data.toList.drop i) = m by rw [← hm]; unfold widS; rw [if_pos h6])
            have HC := Lib.hid h6
            clear CF hm hkn h6
            go_wp2_with fail
            refine (HCF.out _).mono ?_
            rintro e W1 ⟨rfl, hb1⟩
            have HB1 := Lib.hid (HB.out.trans (hb1.mono hsz))
            have HD1 := Lib.hid (HDy.out.on hb1)
            clear hb1 HB HDy
            go_wp2_with fail
            refine (specDigits s i _ (by unfold maxLen; omega) (by omega)).mono ?_
            rintro e W' ⟨rfl, rfl⟩
            rw [HLd.out]
            by_cases h8 : m ≤ 12
            · have h8i : (m : Int) ≤ 12 := by omega
              by_cases h9 : i + m ≤ s.size
              · have h9i : (i : Int) + (m : Int) ≤ (s.size : Int) := by omega
                have HNb := Lib.hid (show ¬ badS s.data.toList f[k + 1] ⟨i, x, t⟩ by
                  unfold badS; simp only; rw [HM.out, HL.out, HC.out]
                  rintro (⟨_, h⟩ | h | h)
                  · omega
                  · exact absurd h (by decide)
                  · omega)
                have hsl : ∀ W : World, (Instr.slice 9 (.string s) (some (.int .i64 (i : Int))) (some (.int .i64 ((i : Int) + (m : Int)))) none).run Tryd.prog W = .ok (.string (s.extract i (i + m))) W := fun W => by
                  rw [run_slice_string W 9 s .i64 .i64 _ _ Tryd.underlying9 (by omega) (by omega) (by omega)]
                  rfl
                have hcx := HD1.out.cell
                have c0 := (hcx 0).1
                have c1 := (hcx 1).1
                have c2 := (hcx 2).1
                have c3 := (hcx 3).1
                have c4 := (hcx 4).1
                have c5 := (hcx 5).1
                simp [D6.arr] at c0 c1 c2 c3 c4 c5
                clear hcx
                go_wp2_with fail
                refine (specNum (s.extract i (i + m)) 12 _ (by omega)).mono ?_
                rintro e W' ⟨rfl, rfl⟩
                rw [HNum.out, HNn.out]
                go_wp2_with fail
                go_region_with (go_at_call 37; refine (CTk.out _).mono ?_; rintro e W2 ⟨rfl, hb2⟩; (have hD2 := HD1.out.drew.on hb2); (have hcy := hD2.cell); (have g0 := (hcy 0).1); (have g1 := (hcy 1).1); (have g2 := (hcy 2).1); (have g3 := (hcy 3).1); (have g4 := (hcy 4).1); (have g5 := (hcy 5).1); (have e0 := (hcy 0).2); (have e1 := (hcy 1).2); (have e2 := (hcy 2).2); (have e3 := (hcy 3).2); (have e4 := (hcy 4).2); (have e5 := (hcy 5).2); simp [D6.arr] at g0 g1 g2 g3 g4 g5; clear hcy)
                all_goals
                  have hB3 := below_six (HB1.out.drew.trans (hb2.mono HB1.out.drew.size)) (Nat.le_refl _) z
                  have hD3 := hD2.six z
                  change Exit.then _ (Exit.inBlock 1 (Exit.then _ _)) Exit.normal _ (six W2 w.heap.size z)
                  have HB3 := Lib.hid hB3
                  have HD3 := Lib.hid hD3
                  clear c0 c1 c2 c3 c4 c5 g0 g1 g2 g3 g4 g5 e0 e1 e2 e3 e4 e5 hb2 hD2 hB3 hD3 hsl
                  generalize six W2 w.heap.size z = W3 at HB3 HD3
                  go_wp2
                  go_roundw
                  case rel => exact ⟨⟨i + m, z, n⟩, k + 2, rfl, by go_num, by go_num, by omega, by simp only; omega, HD3.out, HB3.out, Lib.hid (by rw [HStep.out HNb.out]; unfold stepS; simp only; rw [HM.out, HNn.out, HZ.out, if_pos HC.out])⟩
                  case measure => simp [intOf]; omega
              · have h9i : ¬ ((i : Int) + (m : Int) ≤ (s.size : Int)) := by omega
                have HN := Lib.hid (HBad.out (by right; right; simp only; rw [HM.out, HL.out]; omega))
                go_wp2
                go_ret
                exact ⟨⟨-1, rfl, HE.out _ (by rw [HN.out])⟩, HB1.out⟩
            · have h8i : ¬ (m : Int) ≤ 12 := by omega
              have HN := Lib.hid (HBad.out (by left; simp only; rw [HM.out]; exact ⟨HC.out, by omega⟩))
              go_wp2
              go_ret
              exact ⟨⟨-1, rfl, HE.out _ (by rw [HN.out])⟩, HB1.out⟩
          · have h7 : ((f[k + 1].toNat : Int) == 115) = false := by simp; intro e; exact h6 (UInt8.toNat_inj.mp (by show f[k + 1].toNat = 115; omega))
            have hdm : digS f[k + 1] = (m : Int) := by rw [← hm]; exact widS_dig h6
            have hdb := (dig_bd f[k + 1]).2
            rw [hdm] at CF hdb
            have HC := Lib.hid h6
            clear hm hdm h6
            cases hkn : knownS f[k + 1] with
            | false =>
              rw [hkn] at CF
              have HCF := Lib.hid CF
              have HN := Lib.hid (HBad.out (by right; left; exact hkn))
              clear CF hkn
              go_wp2_with fail
              refine (HCF.out _).mono ?_
              rintro e W1 ⟨rfl, hb1⟩
              have HB1 := Lib.hid (HB.out.trans (hb1.mono hsz))
              clear hb1 HB HDy
              go_wp2
              go_ret
              exact ⟨⟨-1, rfl, HE.out _ (by rw [HN.out])⟩, HB1.out⟩
            | true =>
              rw [hkn] at CF
              have HCF := Lib.hid CF
              have HK := Lib.hid hkn
              clear CF hkn
              go_wp2_with fail
              refine (HCF.out _).mono ?_
              rintro e W1 ⟨rfl, hb1⟩
              have HB1 := Lib.hid (HB.out.trans (hb1.mono hsz))
              have HD1 := Lib.hid (HDy.out.on hb1)
              clear hb1 HB HDy
              by_cases h9 : i + m ≤ s.size
              · have h9i : (i : Int) + (m : Int) ≤ (s.size : Int) := by omega
                have HNb := Lib.hid (show ¬ badS s.data.toList f[k + 1] ⟨i, x, t⟩ by
                  unfold badS; simp only; rw [HM.out, HL.out, HK.out]
                  rintro (⟨h, _⟩ | h | h)
                  · exact HC.out h
                  · cases h
                  · omega)
                have hsl : ∀ W : World, (Instr.slice 9 (.string s) (some (.int .i64 (i : Int))) (some (.int .i64 ((i : Int) + (m : Int)))) none).run Tryd.prog W = .ok (.string (s.extract i (i + m))) W := fun W => by
                  rw [run_slice_string W 9 s .i64 .i64 _ _ Tryd.underlying9 (by omega) (by omega) (by omega)]
                  rfl
                have hcx := HD1.out.cell
                have c0 := (hcx 0).1
                have c1 := (hcx 1).1
                have c2 := (hcx 2).1
                have c3 := (hcx 3).1
                have c4 := (hcx 4).1
                have c5 := (hcx 5).1
                simp [D6.arr] at c0 c1 c2 c3 c4 c5
                clear hcx
                go_wp2_with fail
                refine (specNum (s.extract i (i + m)) 12 _ (by omega)).mono ?_
                rintro e W' ⟨rfl, rfl⟩
                rw [HNum.out, HNn.out]
                go_wp2_with fail
                go_region_with (go_at_call 37; refine (CTk.out _).mono ?_; rintro e W2 ⟨rfl, hb2⟩; (have hD2 := HD1.out.drew.on hb2); (have hcy := hD2.cell); (have g0 := (hcy 0).1); (have g1 := (hcy 1).1); (have g2 := (hcy 2).1); (have g3 := (hcy 3).1); (have g4 := (hcy 4).1); (have g5 := (hcy 5).1); (have e0 := (hcy 0).2); (have e1 := (hcy 1).2); (have e2 := (hcy 2).2); (have e3 := (hcy 3).2); (have e4 := (hcy 4).2); (have e5 := (hcy 5).2); simp [D6.arr] at g0 g1 g2 g3 g4 g5; clear hcy)
                all_goals
                  have hB3 := below_six (HB1.out.drew.trans (hb2.mono HB1.out.drew.size)) (Nat.le_refl _) z
                  have hD3 := hD2.six z
                  change Exit.then _ (Exit.inBlock 1 (Exit.then _ _)) Exit.normal _ (six W2 w.heap.size z)
                  have HB3 := Lib.hid hB3
                  have HD3 := Lib.hid hD3
                  clear c0 c1 c2 c3 c4 c5 g0 g1 g2 g3 g4 g5 e0 e1 e2 e3 e4 e5 hb2 hD2 hB3 hD3 hsl
                  generalize six W2 w.heap.size z = W3 at HB3 HD3
                  go_wp2
                  go_roundw
                  case rel => exact ⟨⟨i + m, z, t⟩, k + 2, rfl, by go_num, by go_num, by omega, by simp only; omega, HD3.out, HB3.out, Lib.hid (by rw [HStep.out HNb.out]; unfold stepS; simp only; rw [HM.out, HNn.out, HZ.out, if_neg HC.out])⟩
                  case measure => simp [intOf]; omega
              · have h9i : ¬ ((i : Int) + (m : Int) ≤ (s.size : Int)) := by omega
                have HN := Lib.hid (HBad.out (by right; right; simp only; rw [HM.out, HL.out]; omega))
                go_wp2
                go_ret
                exact ⟨⟨-1, rfl, HE.out _ (by rw [HN.out])⟩, HB1.out⟩
        · have h5 : (((k : Int) + 1) == (f.size : Int)) = true := by simp; omega
          have HN := Lib.hid (show T = none by rw [HR.out, drop_one 37 HA.out, List.drop_eq_nil_of_le (by simp; omega)]; exact rdS_last _ _)
          go_wp2
          go_ret
          exact ⟨⟨-1, rfl, HE.out _ (by rw [HN.out])⟩, HB.out⟩
      · have h3 : ((f[k].toNat : Int) != 37) = true := by simp; intro e; exact h2 (UInt8.toNat_inj.mp (by show f[k].toNat = 37; omega))
        have HN := Lib.hid (rdS_byte s.data.toList f[k] (f.data.toList.drop (k + 1)) ⟨i, x, t⟩ h2)
        clear h2
        go_wp2
        go_roundw
        case rel => exact ⟨⟨i + 1, x, t⟩, k + 1, rfl, by go_num, by go_num, by omega, by simp only; omega, HDy.out, HB.out, Lib.hid (by rw [HR.out, drop_one _ hat.out, HN.out])⟩
        case measure => simp [intOf]; omega
    · have HZ := Lib.hid (show T = some ⟨i, x, t⟩ by rw [HR.out, List.drop_eq_nil_of_le (by simp; omega)]; rfl)
      have hgE := Lib.hid (fun r h => HE.out r (by rw [HZ.out]; exact h))
      clear HE HR hi HZ
      cases ha : hasL 115 f.data.toList with
      | true =>
        have HTo := Lib.hid (show toldS f.data.toList ⟨i, x, t⟩ = t by unfold toldS; rw [if_pos ha])
        obtain ⟨q, hq⟩ := rendIs_some f.data.toList t
        have HQ := Lib.hid hq
        have CQ := Lib.hid (fun W => CR.out t q hq W)
        have CA := Lib.hid (show ∀ W, Calls Tryd.prog 38 #[.string f, .int .u8 115] W fun e w' => e = .returned (.bool true) ∧ W = w' from fun W => by have := CH.out 115 W; rw [ha] at this; exact this)
        clear ha hq CR CH
        have HB0 := HB
        have hsz0 := hsz
        go_wp2_with fail
        refine (CA.out _).mono ?_
        rintro e W0 ⟨rfl, rfl⟩
        by_cases ht : t < 0
        · go_wp2
          go_ret
          exact ⟨⟨-1, rfl, hgE.out _ (.inl ⟨by rw [HTo.out]; exact ht, rfl⟩)⟩, HB0.out⟩
        · go_wp2_with fail
          refine (CQ.out _).mono ?_
          rintro e W1 ⟨rfl, hb1⟩
          have HB1 := Lib.hid (HB0.out.trans (hb1.mono hsz0))
          clear hb1
          by_cases hqs : q = s.data.toList
          · have heq := text_eq hqs
            have HQs := Lib.hid hqs
            clear hqs
            go_wp2
            go_ret
            exact ⟨⟨t, rfl, hgE.out _ (.inr ⟨by rw [HTo.out]; omega, q, by rw [HTo.out]; exact HQ.out, by rw [HTo.out, if_pos HQs.out]⟩)⟩, HB1.out⟩
          · have heq := text_ne hqs
            have HQs := Lib.hid hqs
            clear hqs
            go_wp2
            go_ret
            exact ⟨⟨-1, rfl, hgE.out _ (.inr ⟨by rw [HTo.out]; omega, q, by rw [HTo.out]; exact HQ.out, by rw [if_neg HQs.out]⟩)⟩, HB1.out⟩
      | false =>
        have CA := Lib.hid (show ∀ W, Calls Tryd.prog 38 #[.string f, .int .u8 115] W fun e w' => e = .returned (.bool false) ∧ W = w' from fun W => by have := CH.out 115 W; rw [ha] at this; exact this)
        cases h89 : hasL 89 f.data.toList with
        | false =>
          have CAY := Lib.hid (show ∀ W, Calls Tryd.prog 38 #[.string f, .int .u8 89] W fun e w' => e = .returned (.bool false) ∧ W = w' from fun W => by have := CH.out 89 W; rw [h89] at this; exact this)
          have HTo := Lib.hid (show toldS f.data.toList ⟨i, x, t⟩ = -1 by unfold toldS; rw [ha, h89]; rfl)
          clear ha h89 CR CH
          go_wp2_with fail
          refine (CA.out _).mono ?_
          rintro e W0 ⟨rfl, rfl⟩
          go_wp2_with fail
          refine (CAY.out _).mono ?_
          rintro e W0 ⟨rfl, rfl⟩
          go_wp2
          go_ret
          exact ⟨⟨-1, rfl, hgE.out _ (.inl ⟨by rw [HTo.out]; decide, rfl⟩)⟩, HB.out⟩
        | true =>
          have CAY := Lib.hid (show ∀ W, Calls Tryd.prog 38 #[.string f, .int .u8 89] W fun e w' => e = .returned (.bool true) ∧ W = w' from fun W => by have := CH.out 89 W; rw [h89] at this; exact this)
          cases h109 : hasL 109 f.data.toList with
          | false =>
            have CAM := Lib.hid (show ∀ W, Calls Tryd.prog 38 #[.string f, .int .u8 109] W fun e w' => e = .returned (.bool false) ∧ W = w' from fun W => by have := CH.out 109 W; rw [h109] at this; exact this)
            have HTo := Lib.hid (show toldS f.data.toList ⟨i, x, t⟩ = -1 by unfold toldS; rw [ha, h89, h109]; rfl)
            clear ha h89 h109 CR CH
            go_wp2_with fail
            refine (CA.out _).mono ?_
            rintro e W0 ⟨rfl, rfl⟩
            go_wp2_with fail
            refine (CAY.out _).mono ?_
            rintro e W0 ⟨rfl, rfl⟩
            go_wp2_with fail
            refine (CAM.out _).mono ?_
            rintro e W0 ⟨rfl, rfl⟩
            go_wp2
            go_ret
            exact ⟨⟨-1, rfl, hgE.out _ (.inl ⟨by rw [HTo.out]; decide, rfl⟩)⟩, HB.out⟩
          | true =>
            have CAM := Lib.hid (show ∀ W, Calls Tryd.prog 38 #[.string f, .int .u8 109] W fun e w' => e = .returned (.bool true) ∧ W = w' from fun W => by have := CH.out 109 W; rw [h109] at this; exact this)
            cases h100 : hasL 100 f.data.toList with
            | false =>
              have CAD := Lib.hid (show ∀ W, Calls Tryd.prog 38 #[.string f, .int .u8 100] W fun e w' => e = .returned (.bool false) ∧ W = w' from fun W => by have := CH.out 100 W; rw [h100] at this; exact this)
              have HTo := Lib.hid (show toldS f.data.toList ⟨i, x, t⟩ = -1 by unfold toldS; rw [ha, h89, h109, h100]; rfl)
              clear ha h89 h109 h100 CR CH
              go_wp2_with fail
              refine (CA.out _).mono ?_
              rintro e W0 ⟨rfl, rfl⟩
              go_wp2_with fail
              refine (CAY.out _).mono ?_
              rintro e W0 ⟨rfl, rfl⟩
              go_wp2_with fail
              refine (CAM.out _).mono ?_
              rintro e W0 ⟨rfl, rfl⟩
              go_wp2_with fail
              refine (CAD.out _).mono ?_
              rintro e W0 ⟨rfl, rfl⟩
              go_wp2
              go_ret
              exact ⟨⟨-1, rfl, hgE.out _ (.inl ⟨by rw [HTo.out]; decide, rfl⟩)⟩, HB.out⟩
            | true =>
              have CAD := Lib.hid (show ∀ W, Calls Tryd.prog 38 #[.string f, .int .u8 100] W fun e w' => e = .returned (.bool true) ∧ W = w' from fun W => by have := CH.out 100 W; rw [h100] at this; exact this)
              obtain ⟨t1, ht1⟩ : ∃ t1, timeV x.y x.mo x.d x.h x.mi x.s = t1 := ⟨_, rfl⟩
              have HTo := Lib.hid (show toldS f.data.toList ⟨i, x, t⟩ = t1 by unfold toldS; rw [ha, h89, h109, h100, ← ht1]; rfl)
              obtain ⟨q, hq⟩ := rendIs_some f.data.toList t1
              have HQ := Lib.hid hq
              have CQ := Lib.hid (fun W => CR.out t1 q hq W)
              have CTi := Lib.hid (fun W => specTimeOf x.y x.mo x.d x.h x.mi x.s W)
              rw [ht1] at CTi
              have hcx := HDy.out.cell
              have c0 := (hcx 0).1
              have c1 := (hcx 1).1
              have c2 := (hcx 2).1
              have c3 := (hcx 3).1
              have c4 := (hcx 4).1
              have c5 := (hcx 5).1
              simp [D6.arr] at c0 c1 c2 c3 c4 c5
              clear hcx ha h89 h109 h100 hq ht1 CR CH
              go_wp2_with fail
              refine (CA.out _).mono ?_
              rintro e W0 ⟨rfl, rfl⟩
              go_wp2_with fail
              refine (CAY.out _).mono ?_
              rintro e W0 ⟨rfl, rfl⟩
              go_wp2_with fail
              refine (CAM.out _).mono ?_
              rintro e W0 ⟨rfl, rfl⟩
              go_wp2_with fail
              refine (CAD.out _).mono ?_
              rintro e W0 ⟨rfl, rfl⟩
              go_wp2_with fail
              refine (CTi.out _).mono ?_
              rintro e W4 ⟨rfl, hb4⟩
              have HB0 := Lib.hid (HB.out.trans (hb4.mono hsz))
              have hsz0 := HB0.out.size
              clear hb4
              by_cases ht : t1 < 0
              · go_wp2
                go_ret
                exact ⟨⟨-1, rfl, hgE.out _ (.inl ⟨by rw [HTo.out]; exact ht, rfl⟩)⟩, HB0.out⟩
              · go_wp2_with fail
                refine (CQ.out _).mono ?_
                rintro e W1 ⟨rfl, hb1⟩
                have HB1 := Lib.hid (HB0.out.trans (hb1.mono hsz0))
                clear hb1
                by_cases hqs : q = s.data.toList
                · have heq := text_eq hqs
                  have HQs := Lib.hid hqs
                  clear hqs
                  go_wp2
                  go_ret
                  exact ⟨⟨t1, rfl, hgE.out _ (.inr ⟨by rw [HTo.out]; omega, q, by rw [HTo.out]; exact HQ.out, by rw [HTo.out, if_pos HQs.out]⟩)⟩, HB1.out⟩
                · have heq := text_ne hqs
                  have HQs := Lib.hid hqs
                  clear hqs
                  go_wp2
                  go_ret
                  exact ⟨⟨-1, rfl, hgE.out _ (.inr ⟨by rw [HTo.out]; omega, q, by rw [HTo.out]; exact HQ.out, by rw [if_neg HQs.out]⟩)⟩, HB1.out⟩
end Go.Proofs.YtbikcldkaogfmaaDoor
