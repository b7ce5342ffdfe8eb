/- What Render tells, as a plain function; the contract of spec.Render. -/
import Derived.Test.YtbikcldkaogfmaaDoorField
import Derived.Test.YtbikcldkaogfmaaDoorByteRow
namespace Go.Proofs.YtbikcldkaogfmaaDoor
open Go.RowKit

def rend (x : Dt) : List UInt8 → Option (List UInt8)
  | [] => some []
  | [c] => if c = 37 then none else some [c]
  | c :: d :: r => if c = 37 then (fieldS d x).bind fun s => (rend x r).map (s ++ ·) else (rend x (d :: r)).map (c :: ·)
theorem rend_byte (x : Dt) (c : UInt8) (r : List UInt8) (h : c ≠ 37) : rend x (c :: r) = (rend x r).map (c :: ·) := by
  cases r with
  | nil => simp [rend, h]
  | cons d r => rw [rend, if_neg h]
theorem rend_last (x : Dt) : rend x [37] = none := by rw [rend, if_pos rfl]
theorem rend_none (x : Dt) (d : UInt8) (r : List UInt8) (h : fieldS d x = none) : rend x (37 :: d :: r) = none := by rw [rend, if_pos rfl, h]; rfl
theorem rend_some (x : Dt) (d : UInt8) (r s : List UInt8) (h : fieldS d x = some s) : rend x (37 :: d :: r) = (rend x r).map (s ++ ·) := by rw [rend, if_pos rfl, h]; rfl
/-- What Render tells of a time. -/
def rendV (x : Dt) (l : List UInt8) : List UInt8 := (rend x l).getD []
theorem map_more {o : Option (List UInt8)} {T : Option (List UInt8)} {a s : List UInt8} (h : T = o.map (a ++ ·)) {o' : Option (List UInt8)} (h2 : o = o'.map (s ++ ·)) : T = o'.map ((a ++ s) ++ ·) := by
  rw [h, h2]; cases o' <;> simp
theorem pad_len (n d : Int) (h1 : -9223372036854775808 ≤ n) (h2 : n ≤ 9223372036854775807) : (padV n d).length ≤ 112 := by
  have := itoa_len n h1 h2
  unfold padV padL
  split
  · simp
  · simp; omega
theorem fieldS_len {d : UInt8} {x : Dt} (hx : x.Ok) {s : List UInt8} (h : fieldS d x = some s) : s.length ≤ 112 := by
  obtain ⟨⟨y1, y2⟩, ⟨m1, m2⟩, ⟨d1, d2⟩, ⟨h1, h2⟩, ⟨i1, i2⟩, ⟨s1, s2⟩, j1, j2⟩ := hx.fields
  have ht := hx.time_bd
  unfold fieldS fieldV at h
  repeat' split at h
  all_goals first
    | (cases h; simp; done)
    | (cases h; exact pad_len _ _ (by omega) (by omega))
    | (cases h; exact Nat.le_trans (itoa_len _ (by omega) (by omega)) (by omega))
    | (cases h)
theorem drop_two {l : List UInt8} {k : Nat} (c d : UInt8) (h1 : l[k]? = some c) (h2 : l[k + 1]? = some d) : l.drop k = c :: d :: l.drop (k + 2) := by
  obtain ⟨a1, a2⟩ := List.getElem?_eq_some_iff.1 h1
  obtain ⟨b1, b2⟩ := List.getElem?_eq_some_iff.1 h2
  rw [List.drop_eq_getElem_cons a1, List.drop_eq_getElem_cons b1, a2, b2]
theorem drop_one {l : List UInt8} {k : Nat} (c : UInt8) (h1 : l[k]? = some c) : l.drop k = c :: l.drop (k + 1) := by
  obtain ⟨a1, a2⟩ := List.getElem?_eq_some_iff.1 h1
  rw [List.drop_eq_getElem_cons a1, a2]
theorem at_byte (s : ByteArray) (k : Nat) (h : k < s.size) : s.data.toList[k]? = some s[k] := by
  rw [List.getElem?_eq_getElem (by simpa using h)]; simp; rfl

theorem specRender_out (s : ByteArray) (t : Int) (w : World) (ht : timeB t = false) :
    Calls Tryd.prog 22 #[.string s, .int .i64 t] w fun e w' => e = .returned (.string ⟨#[]⟩) ∧ Below w.heap.size w w' := by
  go_enter Tryd.func22, Tryd.ntmps22
  go_wp2_with (go_at_call 47; refine (specTime _ _).mono ?_; rintro e w' ⟨rfl, rfl⟩)
  go_ret
  exact ⟨rfl, Below.refl _ _⟩
set_option maxRecDepth 100000 in
set_option maxHeartbeats 4000000 in
theorem specRender (s : ByteArray) (x : Dt) (hx : x.Ok) (w : World) (hs : s.size ≤ 1048576) :
    Calls Tryd.prog 22 #[.string s, .int .i64 x.time] w fun e w' => e = .returned (.string (strOf (rendV x s.data.toList))) ∧ Below w.heap.size w w' := by
  obtain ⟨j0, kj, kz0, kz1, kz2⟩ := info_parts infoB
  have ht := timeB_ok hx
  have CF := Lib.hid (fun c W => specField c x hx W)
  have HF := Lib.hid (fun (d : UInt8) (l : List UInt8) (h : fieldS d x = some l) => fieldS_len hx h)
  obtain ⟨T, hT⟩ : ∃ T, rend x s.data.toList = T := ⟨_, rfl⟩
  rw [show rendV x s.data.toList = T.getD [] by unfold rendV; rw [hT]]
  have HT := Lib.hid hT
  have hsi : (s.size : Int) ≤ 1048576 := by omega
  clear hT hx
  go_enter Tryd.func22, Tryd.ntmps22
  go_wp2_with (go_at_call 47; refine (specTime _ _).mono ?_; rintro e w' ⟨rfl, rfl⟩)
  go_loopw [5, 6, 7, 8, 9] (fun ov iv _ _ _ wr => ∃ (acc : List UInt8) (k : Nat), iv = .int .i64 k ∧ k ≤ s.size ∧ acc.length ≤ 120 * k ∧ Bytes wr w.heap.size ov acc ∧ Below w.heap.size w wr ∧ Hid (T = (rend x (s.data.toList.drop k)).map (acc ++ ·))) (fun _ iv _ _ _ _ => s.size - (intOf iv).toNat)
  case atStart => exact ⟨[], 0, rfl, Nat.zero_le _, by simp, World.ownsRow_lit w #[] 0 (Nat.le_refl _) (by simp [maxLen]) (by simp), (Below.refl _ _).alloc (Nat.le_refl _) _, Lib.hid (by rw [List.drop_zero, HT.out]; cases T <;> simp)⟩
  case round =>
    clear ht HT
    obtain ⟨acc, k, rfl, hk, hacc, hO, hb, HR⟩ := hrel
    have hsz := hb.size
    have HB := Lib.hid hb
    have HO := Lib.hid hO
    clear hb hO
    by_cases h1 : k < s.size
    · have hat := Lib.hid (at_byte s k h1)
      by_cases h2 : s[k] = 37
      · have h3 : ((s[k].toNat : Int) != 37) = false := by rw [h2]; rfl
        have HA := Lib.hid (show s.data.toList[k]? = some 37 by rw [hat.out, h2])
        clear h2
        by_cases h4 : k + 1 < s.size
        · have h5 : (((k : Int) + 1) == (s.size : Int)) = false := by simp; omega
          have h4i : (k : Int) + 1 < (s.size : Int) := by omega
          have hat2 := Lib.hid (at_byte s (k + 1) h4)
          have CG := fun W => CF.out s[k + 1] W
          generalize digS s[k + 1] = dg at CG
          cases hf : fieldS s[k + 1] x with
          | none =>
            rw [hf] at CG
            have HG := Lib.hid CG
            have HD := Lib.hid (show s.data.toList.drop k = 37 :: s[k + 1] :: s.data.toList.drop (k + 2) from drop_two _ _ HA.out hat2.out)
            have HN := Lib.hid (rend_none x s[k + 1] (s.data.toList.drop (k + 2)) hf)
            clear CG hf
            go_wp2_with fail
            refine (HG.out _).mono ?_
            rintro e W1 ⟨rfl, hb1⟩
            have HB1 := Lib.hid (HB.out.trans (hb1.mono hsz))
            clear hb1
            go_wp2
            go_ret
            exact ⟨ret_str (by rw [HR.out, HD.out, HN.out]; rfl), HB1.out⟩
          | some q =>
            rw [hf] at CG
            have HG := Lib.hid CG
            have HD := Lib.hid (show s.data.toList.drop k = 37 :: s[k + 1] :: s.data.toList.drop (k + 2) from drop_two _ _ HA.out hat2.out)
            have HN := Lib.hid (rend_some x s[k + 1] (s.data.toList.drop (k + 2)) q hf)
            have hq := HF.out _ _ hf
            have hq2 : (strOf q).size = q.length := strOf_size q
            clear CG hf
            go_wp2_with fail
            refine (HG.out _).mono ?_
            rintro e W1 ⟨rfl, hb1⟩
            have HB1 := Lib.hid (HB.out.trans (hb1.mono hsz))
            have HO1 := Lib.hid (HO.out.on hb1)
            have hsz1 := HB1.out.size
            clear hb1
            go_wp2_with (at_builtin; refine wpList_append_own_str _ rfl _ _ 22 9 rfl w.heap.size 5 j0 (.int .u8 0) Tryd.underlying22 Tryd.underlying9 kj kz0 kz1 kz2 rfl _ _ _ rfl HO1.out.own (strOf q) rfl (by unfold maxLen; omega) (by omega) (by omega) ?_; intro v' w1 hown' hgrow)
            go_roundw
            case rel => exact ⟨acc ++ q, k + 2, by go_num, by omega, by simp; omega, Bytes.more hown', HO1.out.grown0 HB1.out hsz1 hgrow, Lib.hid (map_more HR.out (by rw [HD.out, HN.out]))⟩
            case measure => simp [intOf]; omega
        · have h5 : (((k : Int) + 1) == (s.size : Int)) = true := by simp; omega
          have HD := Lib.hid (show s.data.toList.drop k = [37] by rw [drop_one 37 HA.out, List.drop_eq_nil_of_le (by simp; omega)])
          go_wp2
          go_ret
          exact ⟨ret_str (by rw [HR.out, HD.out, rend_last]; rfl), HB.out⟩
      · have h3 : ((s[k].toNat : Int) != 37) = true := by simp; intro e; exact h2 (UInt8.toNat_inj.mp (by show s[k].toNat = 37; omega))
        have HN := Lib.hid (rend_byte x s[k] (s.data.toList.drop (k + 1)) h2)
        clear h2
        go_wp2_with (at_builtin; refine wpList_append_own _ rfl _ _ 22 rfl w.heap.size 5 j0 (.int .u8 0) 1 1 Tryd.underlying22 kj kz0 kz1 kz2 rfl (by decide) _ _ _ rfl (HO.out.own.alloc _) ⟨wr.heap.size, 0, none⟩ 1 1 [.int .u8 s[k].toNat] rfl rfl (cell_one_new _ _ _) (by simp [Value.oneCell']) (by unfold maxLen; omega) (by omega) (by simp; omega) ?_; intro v' w1 hown' hgrow _)
        go_roundw
        case rel => exact ⟨acc ++ [s[k]], k + 1, by go_num, by omega, by simp; omega, Bytes.snoc hown', HO.out.grown HB.out hsz hgrow, Lib.hid (map_more HR.out (by rw [drop_one _ hat.out, HN.out]; rfl))⟩
        case measure => simp [intOf]; omega
    · have hcv := conv_bytes HO.out
      have HD := Lib.hid (show s.data.toList.drop k = [] from List.drop_eq_nil_of_le (by simp; omega))
      go_wp2
      go_ret
      exact ⟨ret_str (by rw [HR.out, HD.out]; simp [rend]), HB.out⟩
end Go.Proofs.YtbikcldkaogfmaaDoor
