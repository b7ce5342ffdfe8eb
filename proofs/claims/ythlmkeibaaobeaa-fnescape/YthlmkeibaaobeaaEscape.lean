/- Contracts of Escape, of spec and of impl. -/
import Derived.Test.YthlmkeibaaobeaaByteRow
import Derived.Test.YthlmkeibaaobeaaShelf
import Derived.Test.YthlmkeibaaobeaaDropAt
namespace Go.Proofs.Ythlmkeibaaobeaa
open Go.RowKit

def escB (c : UInt8) : Bool := ([42, 63, 91, 92, 93] : List UInt8).contains c
def esc1 (c : UInt8) : List UInt8 := if escB c then [92, c] else [c]
/-- A name with a byte 92 ahead of each sign of patterns. -/
def escV : List UInt8 → List UInt8
  | [] => []
  | c :: r => esc1 c ++ escV r
theorem escV_cons (c : UInt8) (r : List UInt8) : escV (c :: r) = esc1 c ++ escV r := rfl
theorem esc1_t {c : UInt8} (h : escB c = true) : esc1 c = [92, c] := by unfold esc1; rw [h]; rfl
theorem esc1_f {c : UInt8} (h : escB c = false) : esc1 c = [c] := by unfold esc1; rw [h]; rfl
theorem escB_iff (c : UInt8) : escB c = true ↔ c.toNat = 42 ∨ c.toNat = 63 ∨ c.toNat = 91 ∨ c.toNat = 92 ∨ c.toNat = 93 := by
  unfold escB
  simp only [List.contains_cons, List.contains_nil, Bool.or_false, Bool.or_eq_true, beq_iff_eq, ← UInt8.toNat_inj]
  exact Iff.rfl
theorem esc_step {T acc : List UInt8} {l : List UInt8} {c : UInt8} {r : List UInt8} (h : T = acc ++ escV l) (hl : l = c :: r) : T = acc ++ esc1 c ++ escV r := by
  rw [h, hl, escV_cons, List.append_assoc]

set_option maxRecDepth 100000 in
set_option maxHeartbeats 8000000 in
theorem specEscape (s : ByteArray) (w : World) (hs : s.size ≤ 1048576) :
    Calls Try.prog 11 #[.string s] w fun e w' => e = .returned (.string (strOf (escV s.data.toList))) ∧ Below w.heap.size w w' := by
  obtain ⟨j0, kj, kz0, kz1, kz2⟩ := info_parts infoB
  obtain ⟨T, hT⟩ : ∃ T, escV s.data.toList = T := ⟨_, rfl⟩
  rw [hT]
  have HT := Lib.hid hT
  have hsi : (s.size : Int) ≤ 1048576 := by omega
  clear hT
  go_enter Try.func11, Try.ntmps11
  go_wp2
  go_loopw [3, 4] (fun ov iv wr => ∃ (acc : List UInt8) (k : Nat), iv = .int .i64 k ∧ k ≤ s.size ∧ acc.length ≤ 2 * k ∧ Bytes wr w.heap.size ov acc ∧ Below w.heap.size w wr ∧ Hid (T = acc ++ escV (s.data.toList.drop k))) (fun _ iv _ => s.size - (intOf iv).toNat)
  case atStart => exact ⟨[], 0, rfl, Nat.zero_le _, by simp, World.ownsRow_lit w #[] 0 (Nat.le_refl _) (by simp [maxLen]) (by simp), (Below.refl _ _).alloc (Nat.le_refl _) _, Lib.hid (by rw [List.drop_zero, HT.out]; rfl)⟩
  case round =>
    clear HT
    obtain ⟨acc, k, rfl, hk, hacc, hO, hb, HR⟩ := hrel
    have hsz := hb.size
    have HB := Lib.hid hb
    have HO := Lib.hid hO
    clear hb hO
    by_cases h1 : k < s.size
    · have hat := Lib.hid (at_byte s k h1)
      have HR2 := Lib.hid (esc_step HR.out (drop_one _ hat.out))
      obtain ⟨x, hx⟩ : ∃ x : UInt8, s[k] = x := ⟨_, rfl⟩
      rw [hx] at HR2
      by_cases he : escB x = true
      · have hd := (escB_iff x).1 he
        rw [esc1_t he] at HR2
        have hc : ((x.toNat : Int) == 42) = true ∨ (((x.toNat : Int) == 42) = false ∧ ((x.toNat : Int) == 63) = true) ∨ (((x.toNat : Int) == 42) = false ∧ ((x.toNat : Int) == 63) = false ∧ ((x.toNat : Int) == 91) = true) ∨ (((x.toNat : Int) == 42) = false ∧ ((x.toNat : Int) == 63) = false ∧ ((x.toNat : Int) == 91) = false ∧ ((x.toNat : Int) == 93) = true) ∨ (((x.toNat : Int) == 42) = false ∧ ((x.toNat : Int) == 63) = false ∧ ((x.toNat : Int) == 91) = false ∧ ((x.toNat : Int) == 93) = false ∧ ((x.toNat : Int) == 92) = true) := by
          simp only [beq_iff_eq, beq_eq_false_iff_ne]
          omega
        clear he hd HR
        rcases hc with g1 | ⟨g1, g2⟩ | ⟨g1, g2, g3⟩ | ⟨g1, g2, g3, g4⟩ | ⟨g1, g2, g3, g4, g5⟩
        all_goals
          go_wp2_with (at_builtin; first | (refine wpList_append_own _ rfl _ _ 22 rfl w.heap.size 5 j0 (.int .u8 0) 1 1 Try.underlying22 kj kz0 kz1 kz2 rfl (by decide) _ _ _ rfl (HO.out.own.alloc _) ⟨wr.heap.size, 0, none⟩ 1 1 [.int .u8 92] rfl rfl (cell_one_new _ _ _) (by simp [Value.oneCell']) (by unfold maxLen; omega) (by omega) (by simp; omega) ?_; intro v1 w1 hown1 hgrow1 _; have HO1 := Lib.hid (Bytes.snoc (c := 92) hown1); have HB1 := Lib.hid (HO.out.grown HB.out hsz hgrow1); have hsz1 := HB1.out.size; clear HO HB hown1 hgrow1) | (refine wpList_append_own _ rfl _ _ 22 rfl w.heap.size 5 j0 (.int .u8 0) 1 1 Try.underlying22 kj kz0 kz1 kz2 rfl (by decide) _ _ _ rfl (HO1.out.own.alloc _) ⟨w1.heap.size, 0, none⟩ 1 1 [.int .u8 x.toNat] rfl rfl (cell_one_new _ _ _) (by simp [Value.oneCell']) (by unfold maxLen; simp; omega) (by simp; omega) (by simp; omega) ?_; intro v2 w2 hown2 hgrow2 _))
          go_roundw
          case rel => exact ⟨acc ++ [92] ++ [x], k + 1, by go_num, by omega, by simp; omega, Bytes.snoc hown2, HO1.out.grown HB1.out hsz1 hgrow2, Lib.hid (by rw [HR2.out]; simp)⟩
          case measure => simp [intOf]; omega
      · have he' : escB x = false := by simpa using he
        have hd : ¬ (x.toNat = 42 ∨ x.toNat = 63 ∨ x.toNat = 91 ∨ x.toNat = 92 ∨ x.toNat = 93) := fun h => he ((escB_iff x).2 h)
        rw [esc1_f he'] at HR2
        have c1 : ((x.toNat : Int) == 42) = false := by simp; omega
        have c2 : ((x.toNat : Int) == 63) = false := by simp; omega
        have c3 : ((x.toNat : Int) == 91) = false := by simp; omega
        have c4 : ((x.toNat : Int) == 92) = false := by simp; omega
        have c5 : ((x.toNat : Int) == 93) = false := by simp; omega
        clear he he' hd HR
        go_wp2_with (at_builtin; refine wpList_append_own _ rfl _ _ 22 rfl w.heap.size 5 j0 (.int .u8 0) 1 1 Try.underlying22 kj kz0 kz1 kz2 rfl (by decide) _ _ _ rfl (HO.out.own.alloc _) ⟨wr.heap.size, 0, none⟩ 1 1 [.int .u8 x.toNat] rfl rfl (cell_one_new _ _ _) (by simp [Value.oneCell']) (by unfold maxLen; omega) (by omega) (by simp; omega) ?_; intro v1 w1 hown1 hgrow1 _)
        go_roundw
        case rel => exact ⟨acc ++ [x], k + 1, by go_num, by omega, by simp; omega, Bytes.snoc hown1, HO.out.grown HB.out hsz hgrow1, Lib.hid (by rw [HR2.out])⟩
        case measure => simp [intOf]; omega
    · have HD := Lib.hid (show s.data.toList.drop k = [] from List.drop_eq_nil_of_le (by simp; omega))
      have hcv := conv_bytes HO.out
      go_wp2
      go_ret
      exact ⟨ret_str (by rw [HR.out, HD.out]; simp [escV]), HB.out⟩

theorem esc_at (c : UInt8) : decide ((0 : Int) ≤ Lib.indexByte [42, 63, 91, 92, 93] c) = escB c := (Lib.contains_iff_indexByte [42, 63, 91, 92, 93] c).symm

set_option maxRecDepth 100000 in
set_option maxHeartbeats 8000000 in
theorem implEscape (s : ByteArray) (w : World) (hs : s.size ≤ 1048576) :
    Calls Try.prog 10 #[.string s] w fun e w' => e = .returned (.string (strOf (escV s.data.toList))) ∧ Below w.heap.size w w' := by
  obtain ⟨j0, kj, kz0, kz1, kz2⟩ := info_parts infoB
  obtain ⟨T, hT⟩ : ∃ T, escV s.data.toList = T := ⟨_, rfl⟩
  rw [hT]
  have HT := Lib.hid hT
  have hsi : (s.size : Int) ≤ 1048576 := by omega
  clear hT
  go_enter Try.func10, Try.ntmps10
  go_wp2
  go_loopw [3, 4, 7] (fun ov _ iv wr => ∃ (acc : List UInt8) (k : Nat), iv = .int .i64 k ∧ k ≤ s.size ∧ acc.length ≤ 2 * k ∧ Bytes wr w.heap.size ov acc ∧ Below w.heap.size w wr ∧ Hid (T = acc ++ escV (s.data.toList.drop k))) (fun _ _ iv _ => s.size - (intOf iv).toNat)
  case atStart => exact ⟨[], 0, rfl, Nat.zero_le _, by simp, World.ownsRow_nil w _ _ _, Below.refl _ _, Lib.hid (by rw [List.drop_zero, HT.out]; rfl)⟩
  case round =>
    clear HT
    obtain ⟨acc, k, rfl, hk, hacc, hO, hb, HR⟩ := hrel
    have hsz := hb.size
    have HB := Lib.hid hb
    have HO := Lib.hid hO
    clear hb hO
    by_cases h1 : k < s.size
    · have hat := Lib.hid (at_byte s k h1)
      have HR2 := Lib.hid (esc_step HR.out (drop_one _ hat.out))
      obtain ⟨x, hx⟩ : ∃ x : UInt8, s[k] = x := ⟨_, rfl⟩
      rw [hx] at HR2
      have hback := u8_back x
      have hq := esc_at x
      obtain ⟨q, hq2⟩ : ∃ q, Lib.indexByte (⟨#[42, 63, 91, 92, 93]⟩ : ByteArray).data.toList x = q := ⟨_, rfl⟩
      rw [show Lib.indexByte [42, 63, 91, 92, 93] x = q from hq2] at hq
      have CI := Lib.hid (show ∀ W : World, Calls Try.prog 22 #[.string ⟨#[42, 63, 91, 92, 93]⟩, .int .u8 (x.toNat : Int)] W fun e w' => e = .returned (.int .i64 q) ∧ w' = W from fun W => by
        refine (Try.strings_IndexByte _ _ _).mono fun e w' he => ?_
        rw [hback, hq2] at he
        exact he)
      clear hback hq2
      by_cases he : escB x = true
      · rw [esc1_t he] at HR2
        rw [he] at hq
        have hq0 : (0 : Int) ≤ q := of_decide_eq_true hq
        clear he HR hq
        go_wp2_with fail
        refine (CI.out _).mono ?_
        rintro e W0 ⟨rfl, rfl⟩
        go_wp2_with (at_builtin; first | (refine wpList_append_own_str _ rfl _ _ 22 9 rfl w.heap.size 5 j0 (.int .u8 0) Try.underlying22 Try.underlying9 kj kz0 kz1 kz2 rfl _ _ _ rfl HO.out.own (strOf [92]) rfl (by unfold maxLen; rw [strOf_size]; simp; omega) (by rw [strOf_size]; simp; omega) (by omega) ?_; intro v1 w1 hown1 hgrow1; have HO1 := Lib.hid (Bytes.more hown1); have HB1 := Lib.hid (HO.out.grown0 HB.out hsz hgrow1); have hsz1 := HB1.out.size; clear HO HB hown1 hgrow1) | (refine wpList_append_own _ rfl _ _ 22 rfl w.heap.size 5 j0 (.int .u8 0) 1 1 Try.underlying22 kj kz0 kz1 kz2 rfl (by decide) _ _ _ rfl (HO1.out.own.alloc _) ⟨w1.heap.size, 0, none⟩ 1 1 [.int .u8 x.toNat] rfl rfl (cell_one_new _ _ _) (by simp [Value.oneCell']) (by unfold maxLen; simp; omega) (by simp; omega) (by simp; omega) ?_; intro v2 w2 hown2 hgrow2 _))
        go_roundw
        case rel => exact ⟨acc ++ [92] ++ [x], k + 1, by go_num, by omega, by simp; omega, Bytes.snoc hown2, HO1.out.grown HB1.out hsz1 hgrow2, Lib.hid (by rw [HR2.out]; simp)⟩
        case measure => simp [intOf]; omega
      · have he' : escB x = false := by simpa using he
        rw [esc1_f he'] at HR2
        rw [he'] at hq
        have hq0 : ¬ (0 : Int) ≤ q := of_decide_eq_false hq
        clear he he' HR hq
        go_wp2_with fail
        refine (CI.out _).mono ?_
        rintro e W0 ⟨rfl, rfl⟩
        go_wp2_with (at_builtin; refine wpList_append_own _ rfl _ _ 22 rfl w.heap.size 5 j0 (.int .u8 0) 1 1 Try.underlying22 kj kz0 kz1 kz2 rfl (by decide) _ _ _ rfl (HO.out.own.alloc _) ⟨W0.heap.size, 0, none⟩ 1 1 [.int .u8 x.toNat] rfl rfl (cell_one_new _ _ _) (by simp [Value.oneCell']) (by unfold maxLen; omega) (by omega) (by simp; omega) ?_; intro v1 w1 hown1 hgrow1 _)
        go_roundw
        case rel => exact ⟨acc ++ [x], k + 1, by go_num, by omega, by simp; omega, Bytes.snoc hown1, HO.out.grown HB.out hsz hgrow1, Lib.hid (by rw [HR2.out])⟩
        case measure => simp [intOf]; omega
    · have HD := Lib.hid (show s.data.toList.drop k = [] from List.drop_eq_nil_of_le (by simp; omega))
      have hcv := conv_bytes HO.out
      go_wp2
      go_ret
      exact ⟨ret_str (by rw [HR.out, HD.out]; simp [escV]), HB.out⟩
end Go.Proofs.Ythlmkeibaaobeaa
