/- A text from a place on. -/
import Derived.Test.YtipepbnmllbonaaDoorBase
namespace Go.Proofs.YtipepbnmllbonaaDoor
open Go.RowKit
theorem drop_two {l : List UInt8} {k : Nat} (c d : UInt8) (h1 : l[k]? = some c) (h2 : l[k + 1]? = some d) : l.drop k = c :: d :: l.drop (k + 2) := by
  obtain ⟨a1, a2⟩ := List.getElem?_eq_some_iff.1 h1
  obtain ⟨b1, b2⟩ := List.getElem?_eq_some_iff.1 h2
  rw [List.drop_eq_getElem_cons a1, List.drop_eq_getElem_cons b1, a2, b2]
theorem drop_one {l : List UInt8} {k : Nat} (c : UInt8) (h1 : l[k]? = some c) : l.drop k = c :: l.drop (k + 1) := by
  obtain ⟨a1, a2⟩ := List.getElem?_eq_some_iff.1 h1
  rw [List.drop_eq_getElem_cons a1, a2]
theorem at_byte (s : ByteArray) (k : Nat) (h : k < s.size) : s.data.toList[k]? = some s[k] := by
  rw [List.getElem?_eq_getElem (by simpa using h)]; simp; rfl
theorem u8_back (c : UInt8) : ((c.toNat : Int)).toNat.toUInt8 = c := by simp
theorem byte_t {x : UInt8} {n : Nat} (h : x.toNat = n) : ((x.toNat : Int) == (n : Int)) = true := by rw [h]; simp
theorem byte_f {x : UInt8} {n : Nat} (h : x.toNat ≠ n) : ((x.toNat : Int) == (n : Int)) = false := by simp; omega
theorem u8_is {x : UInt8} {c : UInt8} (h : x.toNat = c.toNat) : x = c := UInt8.toNat_inj.mp h
end Go.Proofs.YtipepbnmllbonaaDoor
