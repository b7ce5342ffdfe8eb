/- Plain facts: a sign that is no byte of ASCII is told by bytes that are none, too. A text from a place on. -/
import Derived.Laws.RangeAny
import Derived.Laws.RangeString
import Derived.Lib.OthersKept
import Derived.Test.YtipedabppgbfcaaGreatDoorK1
set_option linter.all false
namespace Go.Proofs.YtipedabppgbfcaaGreatDoor
open Go.RowKit

theorem decode_bytes (s : ByteArray) (pos : Nat) (h : pos < s.size) (ha : 128 ≤ (s[pos]'h).toNat) :
    ∀ j, j < (Utf8.decode s pos).2 → pos + j < s.size ∧ 128 ≤ (s.get! (pos + j)).toNat := by
  have hn : ¬ (s[pos]'h).toNat < 128 := by omega
  have h0 : 128 ≤ (s.get! (pos + 0)).toNat := by rw [get_at s pos h]; exact ha
  simp only [Utf8.decode, get_at s pos h, hn, if_false]
  intro j
  repeat' split
  all_goals
    intro hj
    simp only [Bool.and_eq_true, decide_eq_true_eq, beq_iff_eq] at *
    match j, hj with
    | 0, _ => exact ⟨by omega, h0⟩
    | 1, _ => first | omega | (refine ⟨by omega, ?_⟩; omega)
    | 2, _ => first | omega | (refine ⟨by omega, ?_⟩; omega)
    | 3, _ => first | omega | (refine ⟨by omega, ?_⟩; omega)

theorem decode_at_bytes (s : ByteArray) (pos : Nat) (h : pos < s.size) (ha : 128 ≤ (s[pos]'h).toNat) (j : Nat) (hj : j < (Utf8.decode s pos).2) :
    ∃ h2 : pos + j < s.size, 128 ≤ (s[pos + j]'h2).toNat := by
  obtain ⟨h1, h2⟩ := decode_bytes s pos h ha j hj
  refine ⟨h1, ?_⟩
  have e : s.get! (pos + j) = s[pos + j]'h1 := by
    simp [ByteArray.get!, getElem!_pos, h1]; rfl
  rw [← e]; exact h2

theorem decode_end (s : ByteArray) (pos : Nat) (h : pos < s.size) (ha : 128 ≤ (s[pos]'h).toNat) : pos + (Utf8.decode s pos).2 ≤ s.size := by
  have hw := (decode_high s pos h ha).2
  obtain ⟨h1, _⟩ := decode_bytes s pos h ha ((Utf8.decode s pos).2 - 1) (by omega)
  omega
end Go.Proofs.YtipedabppgbfcaaGreatDoor
namespace Go.Proofs.YtipedabppgbfcaaGreatDoor
open Go.RowKit
theorem drop_two {l : List UInt8} {k : Nat} (c d : UInt8) (h1 : l[k]? = some c) (h2 : l[k + 1]? = some d) : l.drop k = c :: d :: l.drop (k + 2) := by
  obtain ⟨a1, a2⟩ := List.getElem?_eq_some_iff.1 h1
  obtain ⟨b1, b2⟩ := List.getElem?_eq_some_iff.1 h2
  rw [List.drop_eq_getElem_cons a1, List.drop_eq_getElem_cons b1, a2, b2]
theorem drop_one {l : List UInt8} {k : Nat} (c : UInt8) (h1 : l[k]? = some c) : l.drop k = c :: l.drop (k + 1) := by
  obtain ⟨a1, a2⟩ := List.getElem?_eq_some_iff.1 h1
  rw [List.drop_eq_getElem_cons a1, a2]
theorem at_byte (s : ByteArray) (k : Nat) (h : k < s.size) : s.data.toList[k]? = some s[k] := by
  rw [List.getElem?_eq_getElem (by simpa using h)]; simp; rfl
theorem u8_back (c : UInt8) : ((c.toNat : Int)).toNat.toUInt8 = c := by simp
theorem byte_t {x : UInt8} {n : Nat} (h : x.toNat = n) : ((x.toNat : Int) == (n : Int)) = true := by rw [h]; simp
theorem byte_f {x : UInt8} {n : Nat} (h : x.toNat ≠ n) : ((x.toNat : Int) == (n : Int)) = false := by simp; omega
theorem u8_is {x : UInt8} {c : UInt8} (h : x.toNat = c.toNat) : x = c := UInt8.toNat_inj.mp h
end Go.Proofs.YtipedabppgbfcaaGreatDoor
