/- The lines of a text, and the contract of spec.Lines. -/
import Derived.Test.YtlkmpmlcjiiboaaStrs
namespace Go.Proofs.Ytlkmpmlcjiiboaa
open Go.RowKit

/-- The lines of what is left, where cur has been gathered of the first one. -/
def linesGo : List UInt8 → List UInt8 → List (List UInt8)
  | cur, [] => if cur = [] then [] else [cur]
  | cur, c :: r => if c = 10 then cur :: linesGo [] r else linesGo (cur ++ [c]) r
def linesL (l : List UInt8) : List (List UInt8) := linesGo [] l

theorem linesGo_len : ∀ (r cur : List UInt8), (linesGo cur r).length ≤ r.length + 1
  | [], cur => by unfold linesGo; split <;> simp
  | c :: r, cur => by
    unfold linesGo
    split
    · have := linesGo_len r []; simp; omega
    · have := linesGo_len r (cur ++ [c]); simp; omega

theorem extract_str (s : ByteArray) (a b : Nat) : s.extract a b = strOf ((s.data.toList.drop a).take (b - a)) := Lib.extract_eq s a b

/-- The part of s between two places. -/
def cutL (s : ByteArray) (a b : Nat) : List UInt8 := (s.data.toList.drop a).take (b - a)
theorem cutL_snoc (s : ByteArray) (a k : Nat) (ha : a ≤ k) (h : k < s.size) : cutL s a (k + 1) = cutL s a k ++ [s[k]] := by
  unfold cutL
  rw [show k + 1 - a = (k - a) + 1 by omega, List.take_succ_eq_append_getElem (by simp; omega)]
  congr 1
  simp only [List.getElem_drop, List.cons.injEq, and_true]
  rw [show s[k] = s.data.toList[k]'(by simpa using h) from rfl]
  congr 1; omega
theorem cutL_self (s : ByteArray) (a : Nat) : cutL s a a = [] := by unfold cutL; simp
theorem cutL_all (s : ByteArray) (a : Nat) : cutL s a s.size = s.data.toList.drop a := by
  unfold cutL; exact List.take_of_length_le (by simp)
theorem drop_at (s : ByteArray) (k : Nat) (h : k < s.size) : s.data.toList.drop k = s[k] :: s.data.toList.drop (k + 1) := by
  rw [List.drop_eq_getElem_cons (by simpa using h)]; rfl

theorem lines_nl (s : ByteArray) (a k : Nat) (h : k < s.size) (hc : s[k].toNat = 10) :
    linesGo (cutL s a k) (s.data.toList.drop k) = cutL s a k :: linesGo (cutL s (k + 1) (k + 1)) (s.data.toList.drop (k + 1)) := by
  rw [drop_at s k h, linesGo, if_pos (UInt8.toNat_inj.mp (by simpa using hc)), cutL_self]
theorem lines_go (s : ByteArray) (a k : Nat) (ha : a ≤ k) (h : k < s.size) (hc : ¬ s[k].toNat = 10) :
    linesGo (cutL s a k) (s.data.toList.drop k) = linesGo (cutL s a (k + 1)) (s.data.toList.drop (k + 1)) := by
  rw [drop_at s k h, linesGo, if_neg (by intro e; apply hc; rw [e]; rfl), cutL_snoc s a k ha h]
theorem lines_end (s : ByteArray) (a k : Nat) (h : s.size ≤ k) (ha : a ≤ k) : linesGo (cutL s a k) (s.data.toList.drop k) = if a < s.size then [s.data.toList.drop a] else [] := by
  have e : s.data.toList.drop k = [] := List.drop_eq_nil_of_le (by simpa using h)
  have e2 : cutL s a k = s.data.toList.drop a := by unfold cutL; exact List.take_of_length_le (by simp; omega)
  rw [e, linesGo, e2]
  by_cases h2 : a < s.size
  · rw [if_pos h2, if_neg (by intro e3; have := congrArg List.length e3; simp at this; omega)]
  · rw [if_neg h2, if_pos (List.drop_eq_nil_of_le (by simp; omega))]

theorem infoS : (Try.prog.info? 9).map (fun i => (i.zero, i.size, i.bytes)) = some (some (.string ⟨#[]⟩), 1, 16) := by kernel_rfl

set_option maxHeartbeats 1000000 in
theorem specLines (s : ByteArray) (w : World) (hs : s.size ≤ 1048576) :
    Calls Try.prog 24 #[.string s] w fun e w' => ∃ v, e = .returned v ∧ Strs w' w.heap.size v (linesL s.data.toList) ∧ Below w.heap.size w w' := by
  obtain ⟨i0, hi, hz0, hz1, hz2⟩ := info_parts infoS
  go_enter Try.func24, Try.ntmps24
  go_wp2
  go_loopw [3, 4, 5] (fun out fr i W => ∃ (k a : Nat) (acc : List (List UInt8)), k ≤ s.size ∧ a ≤ k ∧ i = .int .i64 k ∧ fr = .int .i64 a ∧ Strs W w.heap.size out acc ∧ Below w.heap.size w W ∧ acc.length ≤ k ∧ linesL s.data.toList = acc ++ linesGo (cutL s a k) (s.data.toList.drop k)) (fun _ _ i _ => s.size - (intOf i).toNat)
  case atStart => exact ⟨0, 0, [], Nat.zero_le _, Nat.zero_le _, rfl, rfl, World.ownsRow_lit w #[] 0 (Nat.le_refl _) (by simp [maxLen]) (by simp), (Below.refl _ _).alloc (Nat.le_refl _) _, Nat.le_refl _, by simp [linesL, cutL_self]⟩
  case round =>
    obtain ⟨k, a, acc, hk, hak, rfl, rfl, hS, hb, hacc, hl⟩ := hrel
    have HL := Lib.hid hl
    have HB := Lib.hid hb
    have hsz := hb.size
    clear hl
    by_cases h1 : k < s.size
    · by_cases h2 : s[k].toNat = 10
      · have h3 : ((s[k].toNat : Int) == 10) = true := by simp [h2]
        have HN := Lib.hid (lines_nl s a k h1 h2)
        clear h2
        go_wp2_with (at_builtin; refine wpList_append_own _ rfl _ _ 24 rfl w.heap.size 9 i0 (.string ⟨#[]⟩) 1 16 Try.underlying24 hi hz0 hz1 hz2 rfl (by decide) _ _ _ rfl (hS.own.alloc _) ⟨wr.heap.size, 0, none⟩ 1 1 [.string (s.extract a k)] rfl rfl (cell_one_new _ _ _) (by simp [Value.oneCell']) (by unfold maxLen; omega) (by omega) (by simp; omega) ?_; intro v' w1 hown' hgrow _)
        go_roundw
        case rel => exact ⟨k + 1, k + 1, acc ++ [cutL s a k], by omega, Nat.le_refl _, by go_num, by go_num, Strs.snoc (extract_str s a k) hown', hS.grown HB.out hsz hgrow, by simp; omega, by rw [HL.out, HN.out]; simp⟩
        case measure => simp [intOf]; omega
      · have h3 : ((s[k].toNat : Int) == 10) = false := by simp; omega
        have HN := Lib.hid (lines_go s a k hak h1 h2)
        clear h2
        go_wp2
        go_roundw
        case rel => exact ⟨k + 1, a, acc, by omega, by omega, by go_num, rfl, hS, HB.out, by omega, by rw [HL.out, HN.out]⟩
        case measure => simp [intOf]; omega
    · have HE := Lib.hid (lines_end s a k (by omega) hak)
      by_cases h2 : a < s.size
      · go_wp2_with (at_builtin; refine wpList_append_own _ rfl _ _ 24 rfl w.heap.size 9 i0 (.string ⟨#[]⟩) 1 16 Try.underlying24 hi hz0 hz1 hz2 rfl (by decide) _ _ _ rfl (hS.own.alloc _) ⟨wr.heap.size, 0, none⟩ 1 1 [.string (s.extract a s.size)] rfl rfl (cell_one_new _ _ _) (by simp [Value.oneCell']) (by unfold maxLen; omega) (by omega) (by simp; omega) ?_; intro v' w1 hown' hgrow _)
        go_ret
        exact ⟨_, rfl, by rw [HL.out, HE.out, if_pos h2]; exact Strs.snoc (by rw [extract_str]; congr 1; exact cutL_all s a) hown', hS.grown HB.out hsz hgrow⟩
      · go_wp2
        go_ret
        exact ⟨_, rfl, by rw [HL.out, HE.out, if_neg h2, List.append_nil]; exact hS, HB.out⟩
end Go.Proofs.Ytlkmpmlcjiiboaa
