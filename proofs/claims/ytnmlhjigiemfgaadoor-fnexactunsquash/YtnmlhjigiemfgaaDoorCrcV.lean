/- The remainder of a text, as a plain function: one bit at a time; what differs stays different. -/
import Derived.Test.YtnmlhjigiemfgaaDoorBase
namespace Go.Proofs.YtnmlhjigiemfgaaDoor
open Go.RowKit

def crcBit (x : Nat) : Nat := if x % 2 = 1 then (x / 2) ^^^ 3988292384 else x / 2
def crcN : Nat → Nat → Nat
  | 0, x => x
  | n + 1, x => crcN n (crcBit x)
def crcByte (x : Nat) (b : UInt8) : Nat := crcN 8 (x ^^^ b.toNat)
def crcF (x : Nat) (l : List UInt8) : Nat := l.foldl crcByte x
/-- What Crc tells. -/
def crcV (l : List UInt8) : Nat := crcF 4294967295 l ^^^ 4294967295

theorem crcBit_lt {x : Nat} (h : x < 4294967296) : crcBit x < 4294967296 := by
  unfold crcBit
  split
  · exact Nat.xor_lt_two_pow (n := 32) (by omega) (by omega)
  · omega
theorem crcN_lt : ∀ (n : Nat) {x : Nat}, x < 4294967296 → crcN n x < 4294967296
  | 0, _, h => h
  | n + 1, _, h => crcN_lt n (crcBit_lt h)
theorem byte_lt (b : UInt8) : b.toNat < 4294967296 := by have := b.toNat_lt; omega
theorem crcByte_lt {x : Nat} (b : UInt8) (h : x < 4294967296) : crcByte x b < 4294967296 :=
  crcN_lt 8 (Nat.xor_lt_two_pow (n := 32) h (byte_lt b))
theorem crcF_lt : ∀ (l : List UInt8) {x : Nat}, x < 4294967296 → crcF x l < 4294967296
  | [], _, h => h
  | b :: r, _, h => crcF_lt r (crcByte_lt b h)
theorem crcV_lt (l : List UInt8) : crcV l < 4294967296 := Nat.xor_lt_two_pow (n := 32) (crcF_lt l (by omega)) (by omega)
theorem crcF_cons (x : Nat) (b : UInt8) (r : List UInt8) : crcF x (b :: r) = crcF (crcByte x b) r := rfl
theorem crcF_append (x : Nat) (l m : List UInt8) : crcF x (l ++ m) = crcF (crcF x l) m := List.foldl_append

theorem xor_same {a b c : Nat} (h : a ^^^ c = b ^^^ c) : a = b := by
  have := congrArg (· ^^^ c) h
  simpa [Nat.xor_assoc] using this
theorem top_no {x : Nat} (h : x < 4294967296) : (x / 2).testBit 31 = false := Nat.testBit_lt_two_pow (by omega)
theorem crcBit_inj {x y : Nat} (hx : x < 4294967296) (hy : y < 4294967296) (h : crcBit x = crcBit y) : x = y := by
  have tx := top_no hx
  have ty := top_no hy
  have tp : Nat.testBit 3988292384 31 = true := by decide
  unfold crcBit at h
  by_cases h1 : x % 2 = 1
  · by_cases h2 : y % 2 = 1
    · rw [if_pos h1, if_pos h2] at h
      have := xor_same h
      omega
    · rw [if_pos h1, if_neg h2] at h
      have := congrArg (fun n => Nat.testBit n 31) h
      simp only [Nat.testBit_xor, tx, ty, tp] at this
      cases this
  · by_cases h2 : y % 2 = 1
    · rw [if_neg h1, if_pos h2] at h
      have := congrArg (fun n => Nat.testBit n 31) h
      simp only [Nat.testBit_xor, tx, ty, tp] at this
      cases this
    · rw [if_neg h1, if_neg h2] at h
      omega
theorem crcN_inj : ∀ (n : Nat) {x y : Nat}, x < 4294967296 → y < 4294967296 → crcN n x = crcN n y → x = y
  | 0, _, _, _, _, h => h
  | n + 1, _, _, hx, hy, h => crcBit_inj hx hy (crcN_inj n (crcBit_lt hx) (crcBit_lt hy) h)
theorem crcByte_inj {x y : Nat} (b : UInt8) (hx : x < 4294967296) (hy : y < 4294967296) (h : crcByte x b = crcByte y b) : x = y :=
  xor_same (crcN_inj 8 (Nat.xor_lt_two_pow (n := 32) hx (byte_lt b)) (Nat.xor_lt_two_pow (n := 32) hy (byte_lt b)) h)
/-- What is different stays so, whatever comes behind. -/
theorem crcF_inj : ∀ (l : List UInt8) {x y : Nat}, x < 4294967296 → y < 4294967296 → crcF x l = crcF y l → x = y
  | [], _, _, _, _, h => h
  | b :: r, _, _, hx, hy, h => crcByte_inj b hx hy (crcF_inj r (crcByte_lt b hx) (crcByte_lt b hy) h)
theorem crcByte_byte {x : Nat} {a b : UInt8} (hx : x < 4294967296) (h : crcByte x a = crcByte x b) : a = b := by
  have h1 := crcN_inj 8 (Nat.xor_lt_two_pow (n := 32) hx (byte_lt a)) (Nat.xor_lt_two_pow (n := 32) hx (byte_lt b)) h
  rw [Nat.xor_comm x, Nat.xor_comm x] at h1
  exact UInt8.toNat_inj.mp (xor_same h1)
/-- Two texts that are one but for one byte have two remainders. -/
theorem crcV_byte (u w : List UInt8) {a b : UInt8} (h : a ≠ b) : crcV (u ++ a :: w) ≠ crcV (u ++ b :: w) := by
  intro e
  have e1 := xor_same e
  rw [crcF_append, crcF_append, crcF_cons, crcF_cons] at e1
  have hu := crcF_lt u (x := 4294967295) (by omega)
  exact h (crcByte_byte hu (crcF_inj w (crcByte_lt a hu) (crcByte_lt b hu) e1))

/-! What differs is a remainder of its own. -/
theorem crcBit_xor (x y : Nat) : crcBit (x ^^^ y) = crcBit x ^^^ crcBit y := by
  have h1 : (x ^^^ y) / 2 = x / 2 ^^^ y / 2 := by simpa using Nat.xor_div_two_pow (a := x) (b := y) (n := 1)
  have h2 : (x ^^^ y) % 2 = (x % 2) ^^^ (y % 2) := by simpa using Nat.xor_mod_two_pow (a := x) (b := y) (n := 1)
  unfold crcBit
  rw [h1, h2]
  have hx2 : x % 2 = 0 ∨ x % 2 = 1 := by omega
  have hy2 : y % 2 = 0 ∨ y % 2 = 1 := by omega
  rcases hx2 with hx | hx <;> rcases hy2 with hy | hy <;> rw [hx, hy]
  · rfl
  · show (x / 2 ^^^ y / 2) ^^^ 3988292384 = x / 2 ^^^ (y / 2 ^^^ 3988292384)
    rw [Nat.xor_assoc]
  · show (x / 2 ^^^ y / 2) ^^^ 3988292384 = (x / 2 ^^^ 3988292384) ^^^ y / 2
    rw [Nat.xor_assoc, Nat.xor_comm (y / 2), ← Nat.xor_assoc]
  · show x / 2 ^^^ y / 2 = (x / 2 ^^^ 3988292384) ^^^ (y / 2 ^^^ 3988292384)
    rw [Nat.xor_assoc, Nat.xor_comm 3988292384 (y / 2 ^^^ 3988292384), Nat.xor_assoc (y / 2), Nat.xor_self, Nat.xor_zero]
theorem crcN_xor : ∀ (n : Nat) (x y : Nat), crcN n (x ^^^ y) = crcN n x ^^^ crcN n y
  | 0, _, _ => rfl
  | n + 1, x, y => by rw [crcN, crcBit_xor, crcN_xor n]; rfl
def difF (x : Nat) : List UInt8 → List UInt8 → Nat
  | a :: l, b :: m => difF (crcN 8 (x ^^^ (a.toNat ^^^ b.toNat))) l m
  | _, _ => x
theorem xor_four (a b c d : Nat) : (a ^^^ b) ^^^ (c ^^^ d) = (a ^^^ c) ^^^ (b ^^^ d) := by
  rw [Nat.xor_assoc, Nat.xor_assoc, ← Nat.xor_assoc b, Nat.xor_comm b c, Nat.xor_assoc c]
theorem difF_eq : ∀ (l m : List UInt8) (x y : Nat), l.length = m.length → crcF x l ^^^ crcF y m = difF (x ^^^ y) l m
  | [], [], _, _, _ => rfl
  | a :: l, b :: m, x, y, h => by
    have e1 : crcByte x a ^^^ crcByte y b = crcN 8 ((x ^^^ y) ^^^ (a.toNat ^^^ b.toNat)) := by
      rw [← xor_four, crcN_xor 8 (x ^^^ a.toNat) (y ^^^ b.toNat)]; rfl
    rw [crcF_cons, crcF_cons, difF_eq l m _ _ (by simpa using h), e1]
    rfl
  | [], _ :: _, _, _, h => by simp at h
  | _ :: _, [], _, _, h => by simp at h
/-- Two texts with one beginning and one end have one remainder just where their middles tell no difference. -/
theorem crcV_mid (u w l m : List UInt8) (hl : l.length = m.length) (h : crcV (u ++ l ++ w) = crcV (u ++ m ++ w)) : difF 0 l m = 0 := by
  have e1 := xor_same h
  rw [crcF_append, crcF_append, crcF_append, crcF_append] at e1
  have hu := crcF_lt u (x := 4294967295) (by omega)
  have e2 := crcF_inj w (crcF_lt l hu) (crcF_lt m hu) e1
  have e3 := difF_eq l m (crcF 4294967295 u) (crcF 4294967295 u) hl
  rw [e2, Nat.xor_self, Nat.xor_self] at e3
  exact e3.symm
end Go.Proofs.YtnmlhjigiemfgaaDoor
