/- The pieces of a format: impl.formatPieces. -/
import Derived.Test.YtbikcldkaogfmaaDoorRender
namespace Go.Proofs.YtbikcldkaogfmaaDoor
open Go.RowKit

def pieces : List UInt8 → List (UInt8 × Bool)
  | [] => []
  | [c] => if c = 37 then [(0, true)] else [(c, false)]
  | c :: d :: r => if c = 37 then (if d = 37 then (37, false) else (d, true)) :: pieces r else (c, false) :: pieces (d :: r)
theorem pieces_byte (c : UInt8) (r : List UInt8) (h : c ≠ 37) : pieces (c :: r) = (c, false) :: pieces r := by
  cases r with
  | nil => simp [pieces, h]
  | cons d r => rw [pieces, if_neg h]
theorem pieces_last : pieces [37] = [(0, true)] := rfl
theorem pieces_per (r : List UInt8) : pieces (37 :: 37 :: r) = (37, false) :: pieces r := by rw [pieces, if_pos rfl, if_pos rfl]
theorem pieces_let (d : UInt8) (r : List UInt8) (h : d ≠ 37) : pieces (37 :: d :: r) = (d, true) :: pieces r := by rw [pieces, if_pos rfl, if_neg h]
/-- What Render makes of the pieces. -/
def pieceV (x : Dt) (p : UInt8 × Bool) : Option (List UInt8) := if p.2 then fieldV p.1 x else some [p.1]
def rendP (x : Dt) : List (UInt8 × Bool) → Option (List UInt8)
  | [] => some []
  | p :: r => (pieceV x p).bind fun s => (rendP x r).map (s ++ ·)
theorem field_zero (x : Dt) : fieldV 0 x = none := by unfold fieldV; simp
theorem rend_pieces (x : Dt) : ∀ (n : Nat) (l : List UInt8), l.length ≤ n → rend x l = rendP x (pieces l)
  | _, [], _ => rfl
  | 0, c :: r, h => by simp at h
  | n + 1, [c], h => by
    by_cases hc : c = 37
    · subst hc; rw [rend_last, pieces_last]; simp [rendP, pieceV, field_zero]
    · rw [rend_byte x c [] hc, pieces_byte c [] hc]; simp [rendP, pieceV, rend, pieces]
  | n + 1, c :: d :: r, h => by
    by_cases hc : c = 37
    · subst hc
      by_cases hd : d = 37
      · subst hd
        rw [rend_some x 37 r [37] rfl, pieces_per, rend_pieces x n r (by simp at h; omega)]; rfl
      · have e : fieldS d x = fieldV d x := by unfold fieldS; rw [if_neg hd]
        rw [pieces_let d r hd]
        cases hf : fieldV d x with
        | none => rw [rend_none x d r (by rw [e, hf])]; simp [rendP, pieceV, hf]
        | some s => rw [rend_some x d r s (by rw [e, hf]), rend_pieces x n r (by simp at h; omega)]; simp [rendP, pieceV, hf]
    · rw [rend_byte x c _ hc, pieces_byte c _ hc, rend_pieces x n (d :: r) (by simp at h ⊢; omega)]; rfl

/-- The cells of pieces. -/
def pieceVals (ps : List (UInt8 × Bool)) : List Value := ps.flatMap fun p => [.int .u8 (p.1.toNat : Int), .bool p.2]
theorem pieceVals_len (ps : List (UInt8 × Bool)) : (pieceVals ps).length = ps.length * 2 := by
  induction ps with
  | nil => rfl
  | cons p r ih => unfold pieceVals at ih ⊢; simp [ih]; omega
theorem pieceVals_snoc (ps : List (UInt8 × Bool)) (p : UInt8 × Bool) : pieceVals (ps ++ [p]) = pieceVals ps ++ [.int .u8 (p.1.toNat : Int), .bool p.2] := by unfold pieceVals; simp
theorem pieceVals_at : ∀ (ps : List (UInt8 × Bool)) (j : Nat) (p : UInt8 × Bool), ps[j]? = some p → (pieceVals ps)[j * 2]? = some (.int .u8 (p.1.toNat : Int)) ∧ (pieceVals ps)[j * 2 + 1]? = some (.bool p.2)
  | [], j, p, h => by simp at h
  | q :: r, 0, p, h => by simp at h; subst h; exact ⟨rfl, rfl⟩
  | q :: r, j + 1, p, h => by
    have := pieceVals_at r j p (by simpa using h)
    rw [show (j + 1) * 2 = j * 2 + 2 by omega]
    exact this
def PieceRow (w : World) (B : Nat) (v : Value) (ps : List (UInt8 × Bool)) : Prop := w.ownsRow B 52 2 v ps.length (pieceVals ps)
theorem PieceRow.snoc {w : World} {B : Nat} {v : Value} {ps : List (UInt8 × Bool)} {p : UInt8 × Bool} (h : w.ownsRow B 52 2 v (ps.length + 1) (pieceVals ps ++ [.int .u8 (p.1.toNat : Int), .bool p.2])) : PieceRow w B v (ps ++ [p]) := by
  unfold PieceRow
  rw [List.length_append, pieceVals_snoc]
  exact h
theorem PieceRow.own {w : World} {B : Nat} {v : Value} {ps : List (UInt8 × Bool)} (h : PieceRow w B v ps) : w.ownsRow B 52 2 v ps.length (pieceVals ps) := h
theorem PieceRow.grown {w w0 w1 : World} {B : Nat} {v : Value} {ps : List (UInt8 × Bool)} {o : Obj} (h : PieceRow w B v ps) (hb : Below B w0 w) (hB : B ≤ w.heap.size) (hg : (w.alloc o).grownBy w1 v.ownBlock) : Below B w0 w1 :=
  (hb.alloc hB o).grown hg (by simp; omega) (fun k e => (World.ownsRow.lt h k e).1)
theorem infoP : (Tryd.prog.info? 52).map (fun i => (i.zero, i.size, i.bytes)) = some (some (.agg #[.int .u8 0, .bool false]), 2, 2) := by kernel_rfl

set_option maxRecDepth 100000 in
set_option maxHeartbeats 4000000 in
theorem implFormatPieces (s : ByteArray) (w : World) (hs : s.size ≤ 1048576) :
    Calls Tryd.prog 30 #[.string s] w fun e w' => ∃ v, e = .returned v ∧ PieceRow w' w.heap.size v (pieces s.data.toList) ∧ Below w.heap.size w w' := by
  obtain ⟨j0, kj, kz0, kz1, kz2⟩ := info_parts infoP
  obtain ⟨T, hT⟩ : ∃ T, pieces s.data.toList = T := ⟨_, rfl⟩
  rw [hT]
  have HT := Lib.hid hT
  have hsi : (s.size : Int) ≤ 1048576 := by omega
  clear hT
  go_enter Tryd.func30, Tryd.ntmps30
  go_wp2
  go_loopw [3, 4, 31, 40] (fun ov iv _ _ wr => ∃ (acc : List (UInt8 × Bool)) (k : Nat), iv = .int .i64 k ∧ k ≤ s.size + 1 ∧ acc.length ≤ k ∧ PieceRow wr w.heap.size ov acc ∧ Below w.heap.size w wr ∧ Hid (T = acc ++ pieces (s.data.toList.drop k))) (fun _ iv _ _ _ => s.size + 1 - (intOf iv).toNat)
  case atStart => exact ⟨[], 0, rfl, Nat.zero_le _, by simp, World.ownsRow_nil w _ _ _, Below.refl _ _, Lib.hid (by rw [List.drop_zero, HT.out]; rfl)⟩
  case round =>
    clear HT
    obtain ⟨acc, k, rfl, hk, hacc, hO, hb, HR⟩ := hrel
    have hsz := hb.size
    have HB := Lib.hid hb
    have HO := Lib.hid hO
    clear hb hO
    by_cases h1 : k < s.size
    · have hat := Lib.hid (at_byte s k h1)
      by_cases h2 : s[k] = 37
      · have h3 : ((s[k].toNat : Int) != 37) = false := by rw [h2]; rfl
        have HA := Lib.hid (show s.data.toList[k]? = some 37 by rw [hat.out, h2])
        clear h2
        by_cases h4 : k + 1 < s.size
        · have h5 : (((k : Int) + 1) == (s.size : Int)) = false := by simp; omega
          have h4i : (k : Int) + 1 < (s.size : Int) := by omega
          have hat2 := Lib.hid (at_byte s (k + 1) h4)
          have HD := Lib.hid (show s.data.toList.drop k = 37 :: s[k + 1] :: s.data.toList.drop (k + 2) from drop_two _ _ HA.out hat2.out)
          by_cases h6 : s[k + 1] = 37
          · have h7 : ((s[k + 1].toNat : Int) == 37) = true := by rw [h6]; rfl
            have HN := Lib.hid (show pieces (37 :: s[k + 1] :: s.data.toList.drop (k + 2)) = (37, false) :: pieces (s.data.toList.drop (k + 2)) by rw [h6]; exact pieces_per _)
            clear h6
            go_wp2_with (at_builtin; refine wpList_append_own _ rfl _ _ 49 rfl w.heap.size 52 j0 (.agg #[.int .u8 0, .bool false]) 2 2 Tryd.underlying49 kj kz0 kz1 kz2 rfl (by decide) _ _ _ rfl (HO.out.own.alloc _) ⟨wr.heap.size, 0, none⟩ 1 1 [.int .u8 37, .bool false] rfl rfl (cell_two_new _ _ _ _) (by simp [Value.oneCell']) (by unfold maxLen; omega) (by omega) (by simp; omega) ?_; intro v' w1 hown' hgrow _)
            go_roundw
            case rel => exact ⟨acc ++ [(37, false)], k + 2, by go_num, by omega, by simp; omega, PieceRow.snoc hown', HO.out.grown HB.out hsz hgrow, Lib.hid (by rw [HR.out, HD.out, HN.out]; simp)⟩
            case measure => simp [intOf]; omega
          · have h7 : ((s[k + 1].toNat : Int) == 37) = false := by simp; intro e; exact h6 (UInt8.toNat_inj.mp (by show s[k + 1].toNat = 37; omega))
            have HN := Lib.hid (pieces_let s[k + 1] (s.data.toList.drop (k + 2)) h6)
            clear h6
            go_wp2_with (at_builtin; refine wpList_append_own _ rfl _ _ 49 rfl w.heap.size 52 j0 (.agg #[.int .u8 0, .bool false]) 2 2 Tryd.underlying49 kj kz0 kz1 kz2 rfl (by decide) _ _ _ rfl (HO.out.own.alloc _) ⟨wr.heap.size, 0, none⟩ 1 1 [.int .u8 s[k + 1].toNat, .bool true] rfl rfl (cell_two_new _ _ _ _) (by simp [Value.oneCell']) (by unfold maxLen; omega) (by omega) (by simp; omega) ?_; intro v' w1 hown' hgrow _)
            go_roundw
            case rel => exact ⟨acc ++ [(s[k + 1], true)], k + 2, by go_num, by omega, by simp; omega, PieceRow.snoc hown', HO.out.grown HB.out hsz hgrow, Lib.hid (by rw [HR.out, HD.out, HN.out]; simp)⟩
            case measure => simp [intOf]; omega
        · have h5 : (((k : Int) + 1) == (s.size : Int)) = true := by simp; omega
          have HD := Lib.hid (show s.data.toList.drop k = [37] by rw [drop_one 37 HA.out, List.drop_eq_nil_of_le (by simp; omega)])
          have HE := Lib.hid (show s.data.toList.drop (k + 2) = [] from List.drop_eq_nil_of_le (by simp; omega))
          go_wp2_with (at_builtin; refine wpList_append_own _ rfl _ _ 49 rfl w.heap.size 52 j0 (.agg #[.int .u8 0, .bool false]) 2 2 Tryd.underlying49 kj kz0 kz1 kz2 rfl (by decide) _ _ _ rfl (HO.out.own.alloc _) ⟨wr.heap.size, 0, none⟩ 1 1 [.int .u8 0, .bool true] rfl rfl (cell_two_new _ _ _ _) (by simp [Value.oneCell']) (by unfold maxLen; omega) (by omega) (by simp; omega) ?_; intro v' w1 hown' hgrow _)
          go_roundw
          case rel => exact ⟨acc ++ [(0, true)], k + 2, by go_num, by omega, by simp; omega, PieceRow.snoc hown', HO.out.grown HB.out hsz hgrow, Lib.hid (by rw [HR.out, HD.out, HE.out]; simp [pieces])⟩
          case measure => simp [intOf]; omega
      · have h3 : ((s[k].toNat : Int) != 37) = true := by simp; intro e; exact h2 (UInt8.toNat_inj.mp (by show s[k].toNat = 37; omega))
        have HN := Lib.hid (pieces_byte s[k] (s.data.toList.drop (k + 1)) h2)
        clear h2
        go_wp2_with (at_builtin; refine wpList_append_own _ rfl _ _ 49 rfl w.heap.size 52 j0 (.agg #[.int .u8 0, .bool false]) 2 2 Tryd.underlying49 kj kz0 kz1 kz2 rfl (by decide) _ _ _ rfl (HO.out.own.alloc _) ⟨wr.heap.size, 0, none⟩ 1 1 [.int .u8 s[k].toNat, .bool false] rfl rfl (cell_two_new _ _ _ _) (by simp [Value.oneCell']) (by unfold maxLen; omega) (by omega) (by simp; omega) ?_; intro v' w1 hown' hgrow _)
        go_roundw
        case rel => exact ⟨acc ++ [(s[k], false)], k + 1, by go_num, by omega, by simp; omega, PieceRow.snoc hown', HO.out.grown HB.out hsz hgrow, Lib.hid (by rw [HR.out, drop_one _ hat.out, HN.out]; simp)⟩
        case measure => simp [intOf]; omega
    · have HD := Lib.hid (show s.data.toList.drop k = [] from List.drop_eq_nil_of_le (by simp; omega))
      go_wp2
      go_ret
      exact ⟨_, rfl, by rw [HR.out, HD.out]; simpa [pieces] using HO.out, HB.out⟩
end Go.Proofs.YtbikcldkaogfmaaDoor
