/- Contracts of spec.ReadOct and impl.ReadOct: both tell one number. -/
import Derived.Test.YtlkmpmlcjiiboaaDoorDecText
import Derived.Test.YtlkmpmlcjiiboaaDoorReadDigits
namespace Go.Proofs.YtlkmpmlcjiiboaaDoor
open Go.RowKit

def octVal (l : List UInt8) : Int := if allDigB 8 l then (dnumB 8 l : Int) else -1
/-- The number of a mode's text: three digits of base eight, or those with a nought ahead. -/
def readOctV (l : List UInt8) : Int :=
  if l.length = 3 then octVal l else if l.length = 4 ∧ l.head? = some 48 then octVal (l.drop 1) else -1

def rest1 (t : ByteArray) : List UInt8 := t.data.toList.drop 1
theorem rest1_len (t : ByteArray) : (rest1 t).length = t.size - 1 := by simp [rest1]

theorem drop_take_snoc (t : ByteArray) (k : Nat) (h : k + 1 < t.size) : (rest1 t).take (k + 1) = (rest1 t).take k ++ [t[k + 1]] := by
  unfold rest1
  rw [List.take_succ_eq_append_getElem (by simp; omega)]
  congr 1
  simp only [List.getElem_drop, List.cons.injEq, and_true]
  rw [show t[k + 1] = t.data.toList[k + 1]'(by simpa using h) from rfl]
  congr 1; omega

theorem byte_lt (t : ByteArray) (k : Nat) (h : k < t.size) : (t[k].toNat : Int) ≤ 255 := by have := t[k].toNat_lt; omega

theorem octVal_digits (s : ByteArray) : digitsVal 8 s = octVal s.data.toList := rfl

theorem implReadOct (s : ByteArray) (w : World) (hs : s.size ≤ maxLen) :
    Calls Tryd.prog 17 #[.string s] w fun e w' => e = .returned (.int .i64 (readOctV s.data.toList)) ∧ Below w.heap.size w w' := by
  unfold maxLen at hs
  have hl : s.data.toList.length = s.size := by simp
  by_cases h3 : s.size = 3
  · rw [show readOctV s.data.toList = digitsVal 8 s by unfold readOctV; rw [if_pos (by omega)]; rfl]
    have hz2 : ((s.size : Int) == 4) = false := by simp; omega
    have hz3 : ((s.size : Int) != 3) = false := by simp; omega
    have h12 : s.size ≤ 12 := by omega
    clear h3 hl
    go_enter Tryd.func17, Tryd.ntmps17
    go_wp2_with (go_at_call 27; refine (readDigits _ 8 _ (by omega) (by omega) (by omega)).mono ?_; rintro e w' ⟨rfl, pos, rfl⟩)
    go_ret
    exact ⟨rfl, below_iter (Below.refl _ _) (Nat.le_refl _) _ _⟩
  · by_cases h4 : s.size = 4
    · have hz2 : ((s.size : Int) == 4) = true := by simp; omega
      have h0 : (0 : Int) < s.size := by omega
      have hp : 0 < s.size := by omega
      by_cases hz : (s[0]'hp).toNat = 48
      · obtain ⟨t, ht⟩ : ∃ t, t = s.extract 1 s.size := ⟨_, rfl⟩
        have htl : t.data.toList = s.data.toList.drop 1 := by rw [ht, Lib.extract_data]; exact List.take_of_length_le (by simp)
        have ht3 : t.size = 3 := by have := congrArg List.length htl; simp at this; omega
        rw [show readOctV s.data.toList = digitsVal 8 t by unfold readOctV; rw [if_neg (by omega), if_pos ⟨by omega, (head_nought s (by omega)).2 hz⟩, octVal_digits, htl]]
        have hcut : ∀ w, (Instr.slice 9 (.string s) (some (.int .i64 1)) none none).run Tryd.prog w = .ok (.string t) w := fun w => by
          rw [ht, run_slice_string_l (w := w) (t := 9) (s := s) (kl := .i64) (l := 1) (ht := Tryd.underlying9) (h0 := by omega) (h1 := by omega)]; rfl
        have hz1 : (((s[0]'hp).toNat : Int) == 48) = true := by simp [hz]
        have hz3 : ((t.size : Int) != 3) = false := by simp; omega
        have h12 : t.size ≤ 12 := by omega
        clear hz h4 h3 hl ht htl ht3
        go_enter Tryd.func17, Tryd.ntmps17
        go_wp2_with (go_at_call 27; refine (readDigits _ 8 _ (by omega) (by omega) (by omega)).mono ?_; rintro e w' ⟨rfl, pos, rfl⟩)
        go_ret
        exact ⟨rfl, below_iter (Below.refl _ _) (Nat.le_refl _) _ _⟩
      · rw [show readOctV s.data.toList = -1 by unfold readOctV; rw [if_neg (by omega), if_neg (by intro h; exact hz ((head_nought s (by omega)).1 h.2))]]
        have hz1 : (((s[0]'hp).toNat : Int) == 48) = false := by simp; omega
        have hz3 : ((s.size : Int) != 3) = true := by simp; omega
        clear hz h4 h3 hl
        go_enter Tryd.func17, Tryd.ntmps17
        go_wp2
        go_ret
        exact ⟨rfl, Below.refl _ _⟩
    · rw [show readOctV s.data.toList = -1 by unfold readOctV; rw [if_neg (by omega), if_neg (by omega)]]
      have hz2 : ((s.size : Int) == 4) = false := by simp; omega
      have hz3 : ((s.size : Int) != 3) = true := by simp; omega
      clear h4 h3 hl
      go_enter Tryd.func17, Tryd.ntmps17
      go_wp2
      go_ret
      exact ⟨rfl, Below.refl _ _⟩
end Go.Proofs.YtlkmpmlcjiiboaaDoor
