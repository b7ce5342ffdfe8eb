/- The lines of a text, and the contract of spec.Lines. -/
import Derived.Test.YtipepbnmllbonaaDoorStrs
namespace Go.Proofs.YtipepbnmllbonaaDoor
open Go.RowKit

/-- The lines of what is left, where cur has been gathered of the first one. -/
def linesGo : List UInt8 → List UInt8 → List (List UInt8)
  | cur, [] => if cur = [] then [] else [cur]
  | cur, c :: r => if c = 10 then cur :: linesGo [] r else linesGo (cur ++ [c]) r
def linesL (l : List UInt8) : List (List UInt8) := linesGo [] l

theorem linesGo_len : ∀ (r cur : List UInt8), (linesGo cur r).length ≤ r.length + 1
  | [], cur => by unfold linesGo; split <;> simp
  | c :: r, cur => by
    unfold linesGo
    split
    · have := linesGo_len r []; simp; omega
    · have := linesGo_len r (cur ++ [c]); simp; omega

theorem extract_str (s : ByteArray) (a b : Nat) : s.extract a b = strOf ((s.data.toList.drop a).take (b - a)) := Lib.extract_eq s a b

/-- The part of s between two places. -/
def cutL (s : ByteArray) (a b : Nat) : List UInt8 := (s.data.toList.drop a).take (b - a)
theorem cutL_snoc (s : ByteArray) (a k : Nat) (ha : a ≤ k) (h : k < s.size) : cutL s a (k + 1) = cutL s a k ++ [s[k]] := by
  unfold cutL
  rw [show k + 1 - a = (k - a) + 1 by omega, List.take_succ_eq_append_getElem (by simp; omega)]
  congr 1
  simp only [List.getElem_drop, List.cons.injEq, and_true]
  rw [show s[k] = s.data.toList[k]'(by simpa using h) from rfl]
  congr 1; omega
theorem cutL_self (s : ByteArray) (a : Nat) : cutL s a a = [] := by unfold cutL; simp
theorem cutL_all (s : ByteArray) (a : Nat) : cutL s a s.size = s.data.toList.drop a := by
  unfold cutL; exact List.take_of_length_le (by simp)
theorem drop_at (s : ByteArray) (k : Nat) (h : k < s.size) : s.data.toList.drop k = s[k] :: s.data.toList.drop (k + 1) := by
  rw [List.drop_eq_getElem_cons (by simpa using h)]; rfl

theorem lines_nl (s : ByteArray) (a k : Nat) (h : k < s.size) (hc : s[k].toNat = 10) :
    linesGo (cutL s a k) (s.data.toList.drop k) = cutL s a k :: linesGo (cutL s (k + 1) (k + 1)) (s.data.toList.drop (k + 1)) := by
  rw [drop_at s k h, linesGo, if_pos (UInt8.toNat_inj.mp (by simpa using hc)), cutL_self]
theorem lines_go (s : ByteArray) (a k : Nat) (ha : a ≤ k) (h : k < s.size) (hc : ¬ s[k].toNat = 10) :
    linesGo (cutL s a k) (s.data.toList.drop k) = linesGo (cutL s a (k + 1)) (s.data.toList.drop (k + 1)) := by
  rw [drop_at s k h, linesGo, if_neg (by intro e; apply hc; rw [e]; rfl), cutL_snoc s a k ha h]
theorem lines_end (s : ByteArray) (a k : Nat) (h : s.size ≤ k) (ha : a ≤ k) : linesGo (cutL s a k) (s.data.toList.drop k) = if a < s.size then [s.data.toList.drop a] else [] := by
  have e : s.data.toList.drop k = [] := List.drop_eq_nil_of_le (by simpa using h)
  have e2 : cutL s a k = s.data.toList.drop a := by unfold cutL; exact List.take_of_length_le (by simp; omega)
  rw [e, linesGo, e2]
  by_cases h2 : a < s.size
  · rw [if_pos h2, if_neg (by intro e3; have := congrArg List.length e3; simp at this; omega)]
  · rw [if_neg h2, if_pos (List.drop_eq_nil_of_le (by simp; omega))]

end Go.Proofs.YtipepbnmllbonaaDoor
