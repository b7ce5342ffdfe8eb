/- The contract of impl.ReadDate. -/
import Derived.Test.YtbikcldkaogfmaaDoorReadI
import Derived.Test.YtbikcldkaogfmaaDoorImplAges
namespace Go.Proofs.YtbikcldkaogfmaaDoor
open Go.RowKit

theorem text_eqI {q : List UInt8} {s : ByteArray} (h : q = s.data.toList) : ((strOf q).toList == s.toList) = true := by
  rw [Lib.toList_data, strOf_data, Lib.toList_data, h]; simp
theorem text_neI {q : List UInt8} {s : ByteArray} (h : ¬ q = s.data.toList) : ((strOf q).toList == s.toList) = false := by
  rw [Lib.toList_data, strOf_data, Lib.toList_data]; simpa using h
theorem tail_cut (r : ByteArray) (n : Nat) : (r.extract n r.size).data.toList = r.data.toList.drop n := by
  rw [Lib.extract_data]
  exact List.take_of_length_le (by simp)
theorem head_is {r : ByteArray} (h : 0 < r.size) : r.data.toList = r[0] :: r.data.toList.drop 1 := by
  have := at_byte r 0 h
  rw [← drop_one r[0] this]; simp
theorem at_nought (r : ByteArray) (h : 0 < r.size) (W : World) : (Instr.index 9 (.string r) (.int .i64 0)).run Tryd.prog W = .ok (.int .u8 (r[0].toNat : Int)) W := by
  rw [run_index_string W 9 r .i64 0 Tryd.underlying9, dif_pos ⟨by omega, by omega⟩]
  rfl
set_option maxRecDepth 100000 in
set_option maxHeartbeats 16000000 in
theorem implReadDate (f s : ByteArray) (w : World) (hf : f.size ≤ 1048576) (hs : s.size ≤ 1048576) (hT : TabsC w) :
    Calls Tryd.prog 11 #[.string f, .string s] w fun e w' => (∃ r, e = .returned (.int .i64 r) ∧ ReadI f.data.toList s.data.toList r) ∧ Below w.heap.size w w' := by
  obtain ⟨T, hTT⟩ : ∃ T, rdI (pieces f.data.toList) s.data.toList zeroM [] = T := ⟨_, rfl⟩
  have HE := Lib.hid (show ∀ r, (match T with | none => r = -1 | some (m, ts) => ∃ q, RendIs f.data.toList (toldM m ts) q ∧ r = if q = s.data.toList then toldM m ts else -1) → ReadI f.data.toList s.data.toList r from fun r h => by
    unfold ReadI; rw [hTT]; exact h)
  have HT := Lib.hid hTT
  have hpl := pieces_len _ f.data.toList (Nat.le_refl _)
  have hpl2 : (pieces f.data.toList).length ≤ 1048576 := by simp at hpl; omega
  have CP := Lib.hid (fun W => implFormatPieces f W hf)
  have CT := Lib.hid (fun W (h : Below w.heap.size w W) => hT.on h)
  have CR := Lib.hid (fun t q hq W hW => implRenderR f t q hq W hf hW)
  generalize pieces f.data.toList = ps at HT hpl2 CP
  have hmm := @run_makeMap Tryd.prog
  clear hTT hpl hT
  go_enter Tryd.func11, Tryd.ntmps11
  go_wp2
  refine wp_scope_jumps 0 (fun a' w' => ∃ t : Array Value, a' = { tmps := t, defers := [] } ∧ t.size = 91 ∧ Hid (ReadI f.data.toList s.data.toList (-1)) ∧ Below w.heap.size w w') (fun _ _ => 0) rfl ?_ ?_
  · obtain ⟨M, hMe⟩ : ∃ M, w.alloc (.cells #[.int .i64 0, .int .i64 0, .int .i64 0, .int .i64 0, .int .i64 0, .int .i64 0, .int .i64 0, .int .i64 0] 45) = M := ⟨_, rfl⟩
    have hM : M.heap[w.heap.size]? = some (.cells zeroM.arr 45 (0, 0)) := by rw [← hMe]; exact heap_alloc_new w _
    have hB2 : Below w.heap.size w M := by rw [← hMe]; exact below_new w _
    obtain ⟨mb, hmb⟩ : ∃ mb, M.heap.size = mb := ⟨_, rfl⟩
    go_wp2_with fail
    try rw [hMe]
    refine (implFormatLetters _).mono ?_
    rintro e W3 ⟨rfl, hF3, hb3⟩
    have hM3 := (hb3.block w.heap.size (Array.getElem?_eq_some_iff.1 hM).1).trans hM
    have hB3 := hB2.trans (hb3.mono hB2.size)
    rw [hmb] at hF3 ⊢
    have hmlt : mb < W3.heap.size := (Array.getElem?_eq_some_iff.1 hF3).1
    obtain ⟨tb, htb⟩ : ∃ tb, W3.heap.size = tb := ⟨_, rfl⟩
    obtain ⟨W4, hW4⟩ : ∃ W4, W3.alloc (.map #[] 0) = W4 := ⟨_, rfl⟩
    have b4 : Below W3.heap.size W3 W4 := by rw [← hW4]; exact below_new W3 _
    have hT4 : MapT W4 tb [] := by rw [← hW4, ← htb]; exact heap_alloc_new W3 _
    have hne : mb ≠ tb := by omega
    have HTb := Lib.hid (show w.heap.size ≤ tb by rw [← htb]; exact hB3.size)
    have hF4 := hF3.on b4
    have hM4 := (b4.block w.heap.size (Array.getElem?_eq_some_iff.1 hM3).1).trans hM3
    have hB4 := hB3.trans (b4.mono hB3.size)
    go_wp2_with fail
    try rw [hW4]
    try rw [htb]
    refine (CP.out _).mono ?_
    rintro e W5 ⟨v, rfl, hP5, hb5⟩
    obtain ⟨a, cap, rfl, hpc⟩ := hP5.pc
    have hIn : InI W5 a ps mb tb w.heap.size zeroM [] := ⟨hpc, hF4.on hb5, hT4.on hb5, (hb5.block w.heap.size (Array.getElem?_eq_some_iff.1 hM4).1).trans hM4⟩
    have hB5 := hB4.trans (hb5.mono hB4.size)
    clear hM hB2 hb3 hM3 hB3 hF3 hF4 hM4 hB4 hT4 b4 hP5 hpc hb5 CP hMe hmb hmlt hW4 htb hmm
    go_wp2
    go_loopw [7, 11, 12, 13, 14, 15, 22] (fun rv _ _ _ _ _ iv wr => ∃ (r : ByteArray) (m : M8) (ts : List UInt8) (k : Nat), rv = .string r ∧ iv = .int .i64 k ∧ k ≤ ps.length ∧ r.size ≤ 1048576 ∧ InI wr a ps mb tb w.heap.size m ts ∧ Below w.heap.size w wr ∧ Hid (T = rdI (ps.drop k) r.data.toList m ts)) (fun _ _ _ _ _ _ iv _ => ps.length - (intOf iv).toNat)
    case atStart => exact ⟨s, zeroM, [], 0, rfl, rfl, Nat.zero_le _, hs, hIn, hB5, Lib.hid (by rw [List.drop_zero, HT.out])⟩
    case round =>
      clear HT hIn hB5
      obtain ⟨r, m, ts, k, rfl, rfl, hk, hrs, hI, hb, HR⟩ := hrel
      have hsz := hb.size
      have HB := Lib.hid hb
      have HI := Lib.hid hI
      have hri : (r.size : Int) ≤ 1048576 := by omega
      have hpw := (Array.getElem?_eq_some_iff.1 hI.mom).1
      clear hb
      by_cases h1 : k < ps.length
      · obtain ⟨⟨c, lt⟩, hp⟩ : ∃ p, ps[k]? = some p := ⟨ps[k], List.getElem?_eq_getElem h1⟩
        have HD := Lib.hid (show ps.drop k = (c, lt) :: ps.drop (k + 1) by
          obtain ⟨a1, a2⟩ := List.getElem?_eq_some_iff.1 hp
          rw [List.drop_eq_getElem_cons a1, a2])
        rcases hI.pc with e | ⟨g, cur, rfl, hg, hcur⟩
        · subst e; simp at h1
        have hc0 : wr.cell? ⟨g, k * 2, none⟩ = some (.int .u8 c.toNat) := by simp [World.cell?, hg, (hcur k _ hp).1]
        have hc1 : wr.cell? ⟨g, k * 2 + 1, none⟩ = some (.bool lt) := by simp [World.cell?, hg, (hcur k _ hp).2]
        have h1i : (k : Int) < (ps.length : Int) := by omega
        clear hp hI hcur hg
        cases lt with
        | false =>
          have b1 := below_new wr (.cells #[.int .u8 c.toNat, .bool false] 52)
          have HB1 := Lib.hid (HB.out.trans (b1.mono hsz))
          have HI1 := Lib.hid (HI.out.on b1)
          clear b1
          by_cases h2 : r.data.toList = []
          · have he : r.toList = [] := by rw [Lib.toList_data]; exact h2
            have HN := Lib.hid (HE.out (-1) (by rw [HR.out, HD.out, h2, rdI_empty]))
            clear h2
            go_wp2
            go_quiet (fail)
            go_wp2
            go_step3
            exact ⟨rfl, _, rfl, rfl, HN, below_drewN HB1.out _⟩
          · have he := empty_f h2
            have h0 := size_pos h2
            have h0i : (1 : Int) ≤ (r.size : Int) := by omega
            have HH := Lib.hid (head_is (r := r) (by omega))
            have hix := at_nought r (by omega)
            clear h2
            by_cases h3 : r[0] = c
            · have h4 : ((r[0].toNat : Int) != (c.toNat : Int)) = false := by rw [h3]; simp
              have HN := Lib.hid (show T = rdI (ps.drop (k + 1)) (r.data.toList.drop 1) m ts by rw [HR.out, HD.out, HH.out, h3]; exact rdI_fit _ _ _ _ _)
              clear h3
              go_wp2
              go_quiet (fail)
              go_wp2
              go_roundw
              case rel => exact ⟨r.extract 1 r.size, m, ts, k + 1, rfl, by go_num, by omega, by simp; omega, HI1.out.drewN _, below_drewN HB1.out _, Lib.hid (by rw [tail_cut]; exact HN.out)⟩
              case measure => simp [intOf]; omega
            · have h4 : ((r[0].toNat : Int) != (c.toNat : Int)) = true := by simp; intro e; exact h3 (UInt8.toNat_inj.mp (by omega))
              have HN := Lib.hid (HE.out (-1) (by rw [HR.out, HD.out, HH.out, rdI_misfit _ _ _ _ _ _ h3]))
              clear h3
              go_wp2
              go_quiet (fail)
              go_wp2
              go_step3
              exact ⟨rfl, _, rfl, rfl, HN, below_drewN HB1.out _⟩
        | true =>
          have b1 := below_new wr (.cells #[.int .u8 c.toNat, .bool true] 52)
          have HB1 := Lib.hid (HB.out.trans (b1.mono hsz))
          have hI1 := HI.out.on b1
          have HL1 := Lib.hid (show w.heap.size ≤ (wr.alloc (.cells #[.int .u8 c.toNat, .bool true] 52)).heap.size by simp; omega)
          have hlk := run_look_F (P := Tryd.prog) Tryd.underlying46 Tryd.underlying5 (zeroF _) hI1.map c
          cases hq : lookF c letL with
          | none =>
            rw [hq] at hlk
            simp only at hlk
            have HN := Lib.hid (HE.out (-1) (by rw [HR.out, HD.out, rdI_bad _ _ _ _ _ (.inl hq)]))
            clear b1 hI1 hq
            go_wp2
            go_step3
            exact ⟨rfl, _, rfl, rfl, HN, HB1.out⟩
          | some fn =>
            rw [hq] at hlk
            simp only at hlk
            have CF := fun W => look_is c fn hq w.heap.size W
            have hcf := look_enter c fn hq
            have HQ := Lib.hid hq
            have HI1 := Lib.hid hI1
            have hoff := off_lt c
            have hdb := digF_bd c
            obtain ⟨n, hn⟩ : ∃ n, widI c r.data.toList = n := ⟨_, rfl⟩
            have HNw := Lib.hid hn
            have HLen := Lib.hid (show r.data.toList.length = r.size by simp)
            have HBad := Lib.hid (fun (h : r.size < n ∨ 12 < n) => HE.out (-1) (by rw [HR.out, HD.out, rdI_bad _ _ _ _ _ (.inr (by rw [hn, HLen.out]; exact h))]))
            have HStep := Lib.hid (fun (h1 : n ≤ r.size) (h2 : n ≤ 12) => show T = rdI (ps.drop (k + 1)) (r.data.toList.drop n) (setM m c (valI (r.data.toList.take n))) (addT ts c) by
              rw [HR.out, HD.out, rdI_step _ _ _ _ _ (by rw [hq, hn, HLen.out]; rintro (h | h | h); cases h; omega; omega), hn])
            obtain ⟨v, hv⟩ : ∃ v, valI (r.data.toList.take n) = v := ⟨_, rfl⟩
            have CRd := Lib.hid (fun W (h : n ≤ 12) (h2 : n ≤ r.size) => show Calls Tryd.prog 32 #[.string (r.extract 0 n), .int .i64 10] W fun e w' => e = .returned (.int .i64 v) ∧ Below W.heap.size W w' from by
              refine (readDigits (r.extract 0 n) 10 W (by omega) (by omega) (by simp; omega)).mono ?_
              rintro e w' ⟨rfl, pos, rfl⟩
              rw [val_cut, hv]
              exact ⟨rfl, (Below.refl _ _).alloc (Nat.le_refl _) _⟩)
            have HV := Lib.hid hv
            clear b1 hI1 hq hv HR HD
            by_cases h6 : c = 115
            · have h7 : ((c.toNat : Int) == 115) = true := by rw [h6]; rfl
              have hd1 : digF c = 1 := by rw [h6]; rfl
              rw [hd1] at CF
              have HCF := Lib.hid CF
              have HM := Lib.hid (show max (1 : Int) (lead r.data.toList : Int) = (n : Int) by rw [← hn]; unfold widI; rw [if_pos h6]; omega)
              have hmax := HM.out
              clear CF hd1 h6 hn hdb HM
              go_wp2_with fail
              refine (HCF.out _).mono ?_
              rintro e W' ⟨rfl, rfl⟩
              clear hcf hlk
              go_wp2_with fail
              refine (implDigitsAhead r _ (by unfold maxLen; omega)).mono ?_
              rintro e W' ⟨rfl, rfl⟩
              by_cases h8 : n ≤ r.size
              · have h8i : (n : Int) ≤ (r.size : Int) := by omega
                by_cases h9 : n ≤ 12
                · have h9i : (n : Int) ≤ 12 := by omega
                  go_wp2_with fail
                  refine (CRd.out _ h9 h8).mono ?_
                  rintro e W2 ⟨rfl, hb2⟩
                  have hI2 := HI1.out.on hb2
                  have HB2 := Lib.hid (HB1.out.trans (hb2.mono HL1.out))
                  have hcp0 : W2.cell? ⟨wr.heap.size, 0, none⟩ = some (.int .u8 c.toNat) := (hb2.cell (p := ⟨wr.heap.size, 0, none⟩) (by simp)).trans (World.cell?_alloc_at _ _ _ 0 rfl)
                  have hcm : W2.cell? ⟨w.heap.size, offF c, none⟩ = m.arr[offF c]? := by
                    have hm := hI2.mom
                    simp [World.cell?, hm]
                  have hlt8 : offF c < m.arr.size := hoff
                  have hcm2 : W2.cell? ⟨w.heap.size, offF c, none⟩ = some m.arr[offF c] := by rw [hcm, Array.getElem?_eq_getElem hlt8]
                  have hfz : W2.frozen? ⟨w.heap.size, offF c, none⟩ = false := frozen_of_row W2 w.heap.size (offF c) _ _ hI2.mom
                  have hI3 := hI2.set HQ.out v
                  have hnb : wr.heap.size ≠ w.heap.size := by omega
                  have hcp : (W2.setCell ⟨w.heap.size, offF c, none⟩ (.int .i64 v)).cell? ⟨wr.heap.size, 0, none⟩ = some (.int .u8 c.toNat) := by
                    rw [← hcp0]
                    exact World.cell?_of_block (Below.heap_setCell W2 ⟨w.heap.size, offF c, none⟩ _ wr.heap.size hnb)
                  obtain ⟨W4, hins, hT4, hg4⟩ := run_ins_T (P := Tryd.prog) Tryd.underlying48 Tryd.underlying5 hI3.told c
                  have HI4 := Lib.hid (hI3.ins hg4 hT4 hne)
                  have HB4 := Lib.hid ((HB2.out.setCell (p := ⟨w.heap.size, offF c, none⟩) (Nat.le_refl _) (.int .i64 v)).grown hg4 (HB2.out.setCell (p := ⟨w.heap.size, offF c, none⟩) (Nat.le_refl _) (.int .i64 v)).size (fun j e => by cases e; exact HTb.out))
                  generalize m.arr[offF c] = oldv at hcm2
                  generalize offF c = off at hcm2 hfz hcp hins ⊢
                  clear hI2 hI3 hcm hT4 hg4 hb2 hlt8
                  go_wp2
                  go_roundw
                  case rel => exact ⟨r.extract n r.size, setM m c v, addT ts c, k + 1, rfl, by go_num, by omega, by simp; omega, HI4.out, HB4.out, Lib.hid (by rw [tail_cut, HStep.out h8 h9, HV.out])⟩
                  case measure => simp [intOf]; omega
                · have h9i : ¬ (n : Int) ≤ 12 := by omega
                  have HN := Lib.hid (HBad.out (.inr (by omega)))
                  go_wp2
                  go_step3
                  exact ⟨rfl, _, rfl, rfl, HN, HB1.out⟩
              · have h8i : ¬ (n : Int) ≤ (r.size : Int) := by omega
                have HN := Lib.hid (HBad.out (.inl (by omega)))
                go_wp2
                go_step3
                exact ⟨rfl, _, rfl, rfl, HN, HB1.out⟩
            · have h7 : ((c.toNat : Int) == 115) = false := by simp; intro e; exact h6 (UInt8.toNat_inj.mp (by show c.toNat = 115; omega))
              have hd1 : digF c = (n : Int) := by rw [← hn]; exact widI_dig h6
              rw [hd1] at CF
              have HCF := Lib.hid CF
              clear CF hd1 h6 hn hdb
              go_wp2_with fail
              refine (HCF.out _).mono ?_
              rintro e W' ⟨rfl, rfl⟩
              clear hcf hlk
              by_cases h8 : n ≤ r.size
              · have h8i : (n : Int) ≤ (r.size : Int) := by omega
                by_cases h9 : n ≤ 12
                · have h9i : (n : Int) ≤ 12 := by omega
                  go_wp2_with fail
                  refine (CRd.out _ h9 h8).mono ?_
                  rintro e W2 ⟨rfl, hb2⟩
                  have hI2 := HI1.out.on hb2
                  have HB2 := Lib.hid (HB1.out.trans (hb2.mono HL1.out))
                  have hcp0 : W2.cell? ⟨wr.heap.size, 0, none⟩ = some (.int .u8 c.toNat) := (hb2.cell (p := ⟨wr.heap.size, 0, none⟩) (by simp)).trans (World.cell?_alloc_at _ _ _ 0 rfl)
                  have hcm : W2.cell? ⟨w.heap.size, offF c, none⟩ = m.arr[offF c]? := by
                    have hm := hI2.mom
                    simp [World.cell?, hm]
                  have hlt8 : offF c < m.arr.size := hoff
                  have hcm2 : W2.cell? ⟨w.heap.size, offF c, none⟩ = some m.arr[offF c] := by rw [hcm, Array.getElem?_eq_getElem hlt8]
                  have hfz : W2.frozen? ⟨w.heap.size, offF c, none⟩ = false := frozen_of_row W2 w.heap.size (offF c) _ _ hI2.mom
                  have hI3 := hI2.set HQ.out v
                  have hnb : wr.heap.size ≠ w.heap.size := by omega
                  have hcp : (W2.setCell ⟨w.heap.size, offF c, none⟩ (.int .i64 v)).cell? ⟨wr.heap.size, 0, none⟩ = some (.int .u8 c.toNat) := by
                    rw [← hcp0]
                    exact World.cell?_of_block (Below.heap_setCell W2 ⟨w.heap.size, offF c, none⟩ _ wr.heap.size hnb)
                  obtain ⟨W4, hins, hT4, hg4⟩ := run_ins_T (P := Tryd.prog) Tryd.underlying48 Tryd.underlying5 hI3.told c
                  have HI4 := Lib.hid (hI3.ins hg4 hT4 hne)
                  have HB4 := Lib.hid ((HB2.out.setCell (p := ⟨w.heap.size, offF c, none⟩) (Nat.le_refl _) (.int .i64 v)).grown hg4 (HB2.out.setCell (p := ⟨w.heap.size, offF c, none⟩) (Nat.le_refl _) (.int .i64 v)).size (fun j e => by cases e; exact HTb.out))
                  generalize m.arr[offF c] = oldv at hcm2
                  generalize offF c = off at hcm2 hfz hcp hins ⊢
                  clear hI2 hI3 hcm hT4 hg4 hb2 hlt8
                  go_wp2
                  go_roundw
                  case rel => exact ⟨r.extract n r.size, setM m c v, addT ts c, k + 1, rfl, by go_num, by omega, by simp; omega, HI4.out, HB4.out, Lib.hid (by rw [tail_cut, HStep.out h8 h9, HV.out])⟩
                  case measure => simp [intOf]; omega
                · have h9i : ¬ (n : Int) ≤ 12 := by omega
                  have HN := Lib.hid (HBad.out (.inr (by omega)))
                  go_wp2
                  go_step3
                  exact ⟨rfl, _, rfl, rfl, HN, HB1.out⟩
              · have h8i : ¬ (n : Int) ≤ (r.size : Int) := by omega
                have HN := Lib.hid (HBad.out (.inl (by omega)))
                go_wp2
                go_step3
                exact ⟨rfl, _, rfl, rfl, HN, HB1.out⟩
      · have HZ := Lib.hid (show T = some (m, ts) by rw [HR.out, List.drop_eq_nil_of_le (by omega), rdI])
        have hgE := Lib.hid (fun r h => HE.out r (by rw [HZ.out]; exact h))
        obtain ⟨t1, ht1⟩ : ∃ t1, toldM m ts = t1 := ⟨_, rfl⟩
        have HT1 := Lib.hid ht1
        obtain ⟨q, hq⟩ := rendIs_some f.data.toList t1
        have HQ := Lib.hid hq
        have CQ := Lib.hid (fun W hW => CR.out t1 q hq W hW)
        have CTo := Lib.hid (show ∀ W, MapT W tb ts → TabsM W → Calls Tryd.prog 33 #[.agg #[.int .i64 m.x.y, .int .i64 m.x.mo, .int .i64 m.x.d, .int .i64 m.x.h, .int .i64 m.x.mi, .int .i64 m.x.s, .int .i64 m.j, .int .i64 m.t], .map (some tb)] W fun e w' => e = .returned (.int .i64 t1) ∧ Below W.heap.size W w' from
          fun W h1 h2 => by have := implToldTime m.x.y m.x.mo m.x.d m.x.h m.x.mi m.x.s m.j m.t tb ts W h1 h2; rw [← ht1]; exact this)
        have hcx : ∀ j, wr.cell? ⟨w.heap.size, j, none⟩ = m.arr[j]? := fun j => by have hm := hI.mom; simp [World.cell?, hm]
        have c0 := hcx 0
        have c1 := hcx 1
        have c2 := hcx 2
        have c3 := hcx 3
        have c4 := hcx 4
        have c5 := hcx 5
        have c6 := hcx 6
        have c7 := hcx 7
        simp [M8.arr] at c0 c1 c2 c3 c4 c5 c6 c7
        clear hcx hI ht1 hq HE HR HZ
        go_wp2_with fail
        refine (CTo.out _ HI.out.told (CT.out _ HB.out).m).mono ?_
        rintro e W1 ⟨rfl, hb1⟩
        have HB1 := Lib.hid (HB.out.trans (hb1.mono hsz))
        clear hb1 c0 c1 c2 c3 c4 c5 c6 c7
        go_wp2_with fail
        refine (CQ.out _ (CT.out _ HB1.out)).mono ?_
        rintro e W2 ⟨rfl, hb2⟩
        have HB2 := Lib.hid (HB1.out.trans (hb2.mono HB1.out.size))
        clear hb2
        by_cases hqs : q = s.data.toList
        · have heq := text_eqI hqs
          have HV := Lib.hid (hgE.out t1 (by rw [HT1.out]; exact ⟨q, HQ.out, by rw [if_pos hqs]⟩))
          clear hqs
          go_wp2
          simp only [Exit.jump]
          go_ret
          exact ⟨⟨t1, rfl, HV.out⟩, HB2.out⟩
        · have heq := text_neI hqs
          have HV := Lib.hid (hgE.out (-1) (by rw [HT1.out]; exact ⟨q, HQ.out, by rw [if_neg hqs]⟩))
          clear hqs
          go_wp2
          go_step3
          exact ⟨rfl, _, rfl, rfl, HV, HB2.out⟩
  · rintro a' w' ⟨t, rfl, hz, HT, hb⟩
    have h2 : 4 < t.size := by omega
    go_wp2
    simp only [Exit.jump]
    refine bodyPost_ret (v := .int .i64 (-1)) (by simp [results, Tryd.results11, go_sem, h2]) rfl ⟨⟨-1, rfl, HT.out⟩, hb⟩
end Go.Proofs.YtbikcldkaogfmaaDoor
