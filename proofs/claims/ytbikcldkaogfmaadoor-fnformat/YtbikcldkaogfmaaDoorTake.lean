/- spec.l03Take puts a number into a date; spec.l03Has looks for a letter. -/
import Derived.Test.YtbikcldkaogfmaaDoorRender
import Derived.Laws.ResultCell
namespace Go.Proofs.YtbikcldkaogfmaaDoor
open Go.RowKit

/-- A date's numbers, right or not. -/
structure D6 where
  y : Int
  mo : Int
  d : Int
  h : Int
  mi : Int
  s : Int
def D6.arr (x : D6) : Array Value := #[.int .i64 x.y, .int .i64 x.mo, .int .i64 x.d, .int .i64 x.h, .int .i64 x.mi, .int .i64 x.s]
def takeD (x : D6) (c : UInt8) (n : Int) : D6 :=
  if c = 89 then { x with y := n } else if c = 109 then { x with mo := n } else if c = 100 then { x with d := n } else if c = 72 then { x with h := n } else if c = 77 then { x with mi := n } else if c = 83 then { x with s := n } else x
/-- Whether a format has a letter. -/
def hasL (b : UInt8) : List UInt8 → Bool
  | [] => false
  | [_] => false
  | c :: d :: r => if c = 37 then (if d = b then true else hasL b r) else hasL b (d :: r)
theorem hasL_byte (b c d : UInt8) (r : List UInt8) (h : c ≠ 37) : hasL b (c :: d :: r) = hasL b (d :: r) := by rw [hasL, if_neg h]
theorem hasL_hit (b : UInt8) (r : List UInt8) : hasL b (37 :: b :: r) = true := by rw [hasL, if_pos rfl, if_pos rfl]
theorem hasL_miss (b d : UInt8) (r : List UInt8) (h : d ≠ b) : hasL b (37 :: d :: r) = hasL b r := by rw [hasL, if_pos rfl, if_neg h]
theorem hasL_short (b : UInt8) (l : List UInt8) (h : l.length ≤ 1) : hasL b l = false := by
  match l, h with
  | [], _ => rfl
  | [_], _ => rfl

set_option maxRecDepth 100000 in
theorem specHas (s : ByteArray) (b : UInt8) (w : World) (hs : s.size ≤ 1048576) :
    Calls Tryd.prog 38 #[.string s, .int .u8 b.toNat] w fun e w' => e = .returned (.bool (hasL b s.data.toList)) ∧ w = w' := by
  obtain ⟨T, hT⟩ : ∃ T, hasL b s.data.toList = T := ⟨_, rfl⟩
  rw [hT]
  have HT := Lib.hid hT
  have hsi : (s.size : Int) ≤ 1048576 := by omega
  clear hT
  go_enter Tryd.func38, Tryd.ntmps38
  go_wp2
  go_loop [5] (fun iv => ∃ k : Nat, iv = .int .i64 k ∧ k ≤ s.size + 1 ∧ Hid (hasL b (s.data.toList.drop k) = T)) (fun iv => s.size + 1 - (intOf iv).toNat)
  case atStart => exact ⟨0, rfl, Nat.zero_le _, Lib.hid (by rw [List.drop_zero]; exact HT.out)⟩
  case round =>
    clear HT
    obtain ⟨k, rfl, hk, HR⟩ := hrel
    by_cases h1 : k + 1 < s.size
    · have h1i : (k : Int) + 1 < (s.size : Int) := by omega
      have hat := Lib.hid (at_byte s k (by omega))
      have hat2 := Lib.hid (at_byte s (k + 1) h1)
      have HD := Lib.hid (show s.data.toList.drop k = s[k] :: s[k + 1] :: s.data.toList.drop (k + 2) from drop_two _ _ hat.out hat2.out)
      by_cases h2 : s[k] = 37
      · have h3 : ((s[k].toNat : Int) == 37) = true := by rw [h2]; rfl
        by_cases h4 : s[k + 1] = b
        · have h5 : ((s[k + 1].toNat : Int) == (b.toNat : Int)) = true := by rw [h4]; simp
          have HV := Lib.hid (show T = true by rw [← HR.out, HD.out, h2, h4]; exact hasL_hit b _)
          clear h2 h4
          go_wp2
          go_ret
          exact ⟨ret_bool HV.out.symm, rfl⟩
        · have h5 : ((s[k + 1].toNat : Int) == (b.toNat : Int)) = false := by simp; intro e; exact h4 (UInt8.toNat_inj.mp (by omega))
          have HV := Lib.hid (show hasL b (s.data.toList.drop (k + 2)) = T by rw [← HR.out, HD.out, h2]; exact (hasL_miss b _ _ h4).symm)
          clear h2 h4
          go_wp2
          go_round
          case rel => exact ⟨k + 2, by go_num, by omega, HV⟩
          case measure => simp [intOf]; omega
      · have h3 : ((s[k].toNat : Int) == 37) = false := by simp; intro e; exact h2 (UInt8.toNat_inj.mp (by show s[k].toNat = 37; omega))
        have HV := Lib.hid (show hasL b (s.data.toList.drop (k + 1)) = T by rw [← HR.out, HD.out, hasL_byte b _ _ _ h2, drop_one _ hat2.out])
        clear h2
        go_wp2
        go_round
        case rel => exact ⟨k + 1, by go_num, by omega, HV⟩
        case measure => simp [intOf]; omega
    · have h1i : ¬ ((k : Int) + 1 < (s.size : Int)) := by omega
      have HV := Lib.hid (show T = false by rw [← HR.out]; exact hasL_short b _ (by simp; omega))
      go_wp2
      go_ret
      exact ⟨ret_bool HV.out.symm, rfl⟩

set_option maxRecDepth 100000 in
theorem specTake (x : D6) (c : UInt8) (n : Int) (w : World) :
    Calls Tryd.prog 37 #[.agg #[.int .i64 x.y, .int .i64 x.mo, .int .i64 x.d, .int .i64 x.h, .int .i64 x.mi, .int .i64 x.s], .int .u8 c.toNat, .int .i64 n] w fun e w' => e = .returned (.agg (takeD x c n).arr) ∧ Below w.heap.size w w' := by
  have ne : ∀ n : UInt8, c ≠ n → ((c.toNat : Int) == (n.toNat : Int)) = false := fun n h => by
    simp; intro e; exact h (UInt8.toNat_inj.mp (by omega))
  by_cases k89 : c = 89
  · subst k89
    rw [show (takeD x 89 n).arr = #[.int .i64 n, .int .i64 x.mo, .int .i64 x.d, .int .i64 x.h, .int .i64 x.mi, .int .i64 x.s] from rfl]
    clear ne
    go_enter Tryd.func37, Tryd.ntmps37
    go_wp2
    refine bodyPost_ret (v := .agg #[.int .i64 n, .int .i64 x.mo, .int .i64 x.d, .int .i64 x.h, .int .i64 x.mi, .int .i64 x.s]) (by simp [results, Tryd.results37, go_sem]) rfl ⟨rfl, ?_⟩
    exact ((Below.refl _ _).alloc (Nat.le_refl _) _).alloc (by simp) _
  by_cases k109 : c = 109
  · subst k109
    rw [show (takeD x 109 n).arr = #[.int .i64 x.y, .int .i64 n, .int .i64 x.d, .int .i64 x.h, .int .i64 x.mi, .int .i64 x.s] from rfl]
    clear ne
    go_enter Tryd.func37, Tryd.ntmps37
    go_wp2
    refine bodyPost_ret (v := .agg #[.int .i64 x.y, .int .i64 n, .int .i64 x.d, .int .i64 x.h, .int .i64 x.mi, .int .i64 x.s]) (by simp [results, Tryd.results37, go_sem]) rfl ⟨rfl, ?_⟩
    exact ((Below.refl _ _).alloc (Nat.le_refl _) _).alloc (by simp) _
  by_cases k100 : c = 100
  · subst k100
    rw [show (takeD x 100 n).arr = #[.int .i64 x.y, .int .i64 x.mo, .int .i64 n, .int .i64 x.h, .int .i64 x.mi, .int .i64 x.s] from rfl]
    clear ne
    go_enter Tryd.func37, Tryd.ntmps37
    go_wp2
    refine bodyPost_ret (v := .agg #[.int .i64 x.y, .int .i64 x.mo, .int .i64 n, .int .i64 x.h, .int .i64 x.mi, .int .i64 x.s]) (by simp [results, Tryd.results37, go_sem]) rfl ⟨rfl, ?_⟩
    exact ((Below.refl _ _).alloc (Nat.le_refl _) _).alloc (by simp) _
  by_cases k72 : c = 72
  · subst k72
    rw [show (takeD x 72 n).arr = #[.int .i64 x.y, .int .i64 x.mo, .int .i64 x.d, .int .i64 n, .int .i64 x.mi, .int .i64 x.s] from rfl]
    clear ne
    go_enter Tryd.func37, Tryd.ntmps37
    go_wp2
    refine bodyPost_ret (v := .agg #[.int .i64 x.y, .int .i64 x.mo, .int .i64 x.d, .int .i64 n, .int .i64 x.mi, .int .i64 x.s]) (by simp [results, Tryd.results37, go_sem]) rfl ⟨rfl, ?_⟩
    exact ((Below.refl _ _).alloc (Nat.le_refl _) _).alloc (by simp) _
  by_cases k77 : c = 77
  · subst k77
    rw [show (takeD x 77 n).arr = #[.int .i64 x.y, .int .i64 x.mo, .int .i64 x.d, .int .i64 x.h, .int .i64 n, .int .i64 x.s] from rfl]
    clear ne
    go_enter Tryd.func37, Tryd.ntmps37
    go_wp2
    refine bodyPost_ret (v := .agg #[.int .i64 x.y, .int .i64 x.mo, .int .i64 x.d, .int .i64 x.h, .int .i64 n, .int .i64 x.s]) (by simp [results, Tryd.results37, go_sem]) rfl ⟨rfl, ?_⟩
    exact ((Below.refl _ _).alloc (Nat.le_refl _) _).alloc (by simp) _
  by_cases k83 : c = 83
  · subst k83
    rw [show (takeD x 83 n).arr = #[.int .i64 x.y, .int .i64 x.mo, .int .i64 x.d, .int .i64 x.h, .int .i64 x.mi, .int .i64 n] from rfl]
    clear ne
    go_enter Tryd.func37, Tryd.ntmps37
    go_wp2
    refine bodyPost_ret (v := .agg #[.int .i64 x.y, .int .i64 x.mo, .int .i64 x.d, .int .i64 x.h, .int .i64 x.mi, .int .i64 n]) (by simp [results, Tryd.results37, go_sem]) rfl ⟨rfl, ?_⟩
    exact ((Below.refl _ _).alloc (Nat.le_refl _) _).alloc (by simp) _
  have n89 : ((c.toNat : Int) == 89) = false := ne 89 k89
  have n109 : ((c.toNat : Int) == 109) = false := ne 109 k109
  have n100 : ((c.toNat : Int) == 100) = false := ne 100 k100
  have n72 : ((c.toNat : Int) == 72) = false := ne 72 k72
  have n77 : ((c.toNat : Int) == 77) = false := ne 77 k77
  have n83 : ((c.toNat : Int) == 83) = false := ne 83 k83
  rw [show (takeD x c n).arr = #[.int .i64 x.y, .int .i64 x.mo, .int .i64 x.d, .int .i64 x.h, .int .i64 x.mi, .int .i64 x.s] by unfold takeD; rw [if_neg k89, if_neg k109, if_neg k100, if_neg k72, if_neg k77, if_neg k83]; rfl]
  clear ne
  go_enter Tryd.func37, Tryd.ntmps37
  go_wp2
  refine bodyPost_ret (v := .agg #[.int .i64 x.y, .int .i64 x.mo, .int .i64 x.d, .int .i64 x.h, .int .i64 x.mi, .int .i64 x.s]) (by simp [results, Tryd.results37, go_sem]) rfl ⟨rfl, ?_⟩
  exact ((Below.refl _ _).alloc (Nat.le_refl _) _).alloc (by simp) _
end Go.Proofs.YtbikcldkaogfmaaDoor
