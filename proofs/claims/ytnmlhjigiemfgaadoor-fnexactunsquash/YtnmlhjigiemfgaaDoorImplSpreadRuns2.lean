/- impl.spreadRuns, alone. -/
import Derived.Test.YtnmlhjigiemfgaaDoorImplSpreadRuns
namespace Go.Proofs.YtnmlhjigiemfgaaDoor
open Go.RowKit

/-- What is spread, where it isn't too long. -/
def sprM (l : List UInt8) : Option (List UInt8) := match sprL l with | none => none | some t => if t.length ≤ 3000 then some t else none
theorem sprM_stuck {l acc r : List UInt8} (h : sprL l = (sprL r).map (acc ++ ·)) (hr : sprL r = none) : sprM l = none := by unfold sprM; rw [h, hr]; rfl
theorem sprM_much {l acc r : List UInt8} (h : sprL l = (sprL r).map (acc ++ ·)) (ha : 3000 < acc.length) : sprM l = none := by
  unfold sprM
  rw [h]
  cases sprL r with
  | none => rfl
  | some t => simp; omega
theorem sprM_end {l acc : List UInt8} (h : sprL l = (sprL []).map (acc ++ ·)) (ha : acc.length ≤ 3000) : sprM l = some acc := by
  unfold sprM
  rw [h]
  simp [sprL_nil, ha]
/-- What cutRun cuts off. -/
theorem cutCases (q : ByteArray) (c : UInt8) (r : List UInt8) (hq : q.data.toList = c :: r) (hs : q.size ≤ 1048576) :
    (∃ (b : UInt8) (n : Nat) (t : List UInt8), n ≤ 255 ∧ t.length < q.size ∧ sprL q.data.toList = (sprL t).map (List.replicate n b ++ ·) ∧ ∀ W, Calls Tryd.prog 36 #[.string q] W fun e w' => e = .returned (cutT b n t) ∧ Below W.heap.size W w') ∨
    (sprL q.data.toList = none ∧ ∀ W, Calls Tryd.prog 36 #[.string q] W fun e w' => e = .returned cutN ∧ Below W.heap.size W w') := by
  have hlen : q.size = r.length + 1 := by have := congrArg List.length hq; simpa using this
  by_cases hc : c = 1
  · subst hc
    match r, hq, hlen with
    | [], hq, hlen => exact .inr ⟨by rw [hq]; rfl, fun W => cut_none q [] hq (by simp) hs W⟩
    | [x], hq, hlen => exact .inr ⟨by rw [hq]; rfl, fun W => cut_none q [x] hq (by simp) hs W⟩
    | n :: b :: t, hq, hlen => exact .inl ⟨b, n.toNat, t, by have := n.toNat_lt; omega, by simp at hlen; omega, by rw [hq, sprL_run], fun W => cut_run q n b t hq hs W⟩
  · exact .inl ⟨c, 1, r, by omega, by omega, by rw [hq, sprL_lit hc]; rfl, fun W => cut_lit q c r hq hc hs W⟩
def strN (v : Value) : Nat := match v with | .string b => b.size | _ => 0

set_option maxRecDepth 100000 in
set_option maxHeartbeats 8000000 in
theorem implSpreadRuns (s : ByteArray) (w : World) (hs : s.size ≤ 1048576) :
    Calls Tryd.prog 24 #[.string s] w fun e w' => e = .returned (sprT (sprM s.data.toList)) ∧ Below w.heap.size w w' := by
  obtain ⟨j0, kj, kz0, kz1, kz2⟩ := info_parts infoB
  obtain ⟨O, hO'⟩ : ∃ O, sprM s.data.toList = O := ⟨_, rfl⟩
  rw [hO']
  have HT := Lib.hid hO'
  clear hO'
  go_enter Tryd.func24, Tryd.ntmps24
  go_wp2
  go_loopw [4, 5, 6, 7, 8] (fun ov rv _ _ _ wr => ∃ (acc : List UInt8) (q : ByteArray), rv = .string q ∧ q.size ≤ s.size ∧ acc.length ≤ 3000 ∧ Bytes wr w.heap.size ov acc ∧ Below w.heap.size w wr ∧ Hid (sprL s.data.toList = (sprL q.data.toList).map (acc ++ ·))) (fun _ rv _ _ _ _ => strN rv)
  case atStart => exact ⟨[], s, rfl, Nat.le_refl _, by simp, World.ownsRow_nil _ _ _ _, Below.refl _ _, Lib.hid (by cases sprL s.data.toList <;> simp)⟩
  case round =>
    obtain ⟨acc, q, rfl, hq, hacc, hO, hb, HR⟩ := hrel
    have HB := Lib.hid hb
    have HO := Lib.hid hO
    clear hb hO
    cases hd : q.data.toList with
    | nil =>
      have hq0 : q = ⟨#[]⟩ := by cases q with | mk d => simp at hd; rw [hd]
      subst hq0
      have hO3 : O = some acc := by rw [← HT.out]; exact sprM_end HR.out hacc
      subst hO3
      have hcv := conv_bytes HO.out
      clear HR HT
      go_wp2
      go_ret2
      exact ⟨rfl, HB.out⟩
    | cons c r =>
      have hne : q.toList.isEmpty = false := by rw [Lib.toList_data, hd]; rfl
      obtain ⟨gv, gc, hov⟩ := HO.out.slice
      subst hov
      rcases cutCases q c r hd (by omega) with ⟨b, n, t, hn, ht, hsp, hcall⟩ | ⟨hsp, hcall⟩
      · have HC := Lib.hid hcall
        have HG := Lib.hid (spr_go HR.out hsp)
        clear hcall hd hsp HR
        go_wp2_with fail
        refine (HC.out _).mono ?_
        rintro e W1 ⟨rfl, hb1⟩
        have HO1 := Lib.hid (HO.out.on hb1)
        have HB1 := Lib.hid (HB.out.trans (hb1.mono HB.out.size))
        have hsz1 := hb1.size
        clear HO HB hb1
        have hw : IntKind.i64.wrap ((acc.length : Int) + (n : Int)) = (acc.length : Int) + (n : Int) := IntWalk.i64_in _ (by omega)
        by_cases h6 : 3000 < acc.length + n
        · have h6i : (3000 : Int) < (acc.length : Int) + (n : Int) := by omega
          have hO3 : O = none := by rw [← HT.out]; exact sprM_much HG.out (by simp; omega)
          subst hO3
          clear HG HT HC
          simp only [cutT]
          go_wp2
          go_ret2
          exact ⟨rfl, HB1.out.alloc HB1.out.size _⟩
        · have h6i : ¬ (3000 : Int) < (acc.length : Int) + (n : Int) := by omega
          simp only [cutT]
          go_wp2_with fail
          have HO2 := Lib.hid (HO1.out.own.alloc (.cells #[.int .u8 (b.toNat : Int), .int .i64 (n : Int)] 37))
          have hle := HB1.out.size
          have HB2 := Lib.hid (HB1.out.alloc HB1.out.size (.cells #[.int .u8 (b.toNat : Int), .int .i64 (n : Int)] 37))
          refine (implAppendAll b n _ acc w.heap.size _ HO2.out (by simp; omega) hn hacc).mono ?_
          rintro e W3 ⟨v', rfl, hO3, hb3⟩
          have HO3 := Lib.hid hO3
          have HB3 := Lib.hid (HB2.out.trans hb3)
          clear HO1 HB1 HO2 HB2 hO3 hb3
          go_wp2
          go_roundw
          case rel => exact ⟨acc ++ List.replicate n b, strOf t, rfl, by rw [strOf_size]; omega, by rw [List.length_append, List.length_replicate]; omega, HO3.out, HB3.out, by rw [strOf_data]; exact HG⟩
          case measure => simp [strN, strOf_size]; exact ht
      · have hO3 : O = none := by rw [← HT.out]; exact sprM_stuck HR.out hsp
        subst hO3
        have HC := Lib.hid hcall
        clear hcall hd hsp HR HT
        go_wp2_with fail
        refine (HC.out _).mono ?_
        rintro e W1 ⟨rfl, hb1⟩
        have HB1 := Lib.hid (HB.out.trans (hb1.mono HB.out.size))
        have hsz1 := hb1.size
        clear HO HB hb1 HC
        simp only [cutN]
        go_wp2
        go_ret2
        exact ⟨rfl, HB1.out.alloc HB1.out.size _⟩
end Go.Proofs.YtnmlhjigiemfgaaDoor
