/- Contracts of spec.ReadDec and impl.ReadDec: both tell one number. -/
import Derived.Test.YtlkmpmlcjiiboaaDoorDecText
import Derived.Test.YtlkmpmlcjiiboaaDoorReadDigits
namespace Go.Proofs.YtlkmpmlcjiiboaaDoor
open Go.RowKit

def readDecV (s : ByteArray) : Int :=
  if s.size = 0 ∨ 12 < s.size then -1
  else if s.data.toList.head? = some 48 ∧ 1 < s.size then -1
  else digitsVal 10 s

theorem isDigB_ten (c : UInt8) : isDigB 10 c = isDig c := by
  unfold isDigB isDig; congr 1; exact decide_eq_decide.2 (by omega)
theorem allDigB_ten (l : List UInt8) : allDigB 10 l = allDig l := by
  unfold allDigB allDig; congr 1; funext c; exact isDigB_ten c
theorem dnumB_ten (l : List UInt8) : dnumB 10 l = dnum l := rfl
theorem notand {p q : Prop} [Decidable p] [Decidable q] (h : ¬ (p ∧ q)) : (!(decide p && decide q)) = true := by
  by_cases hp : p <;> by_cases hq : q <;> simp_all

theorem text_back (s : ByteArray) (h1 : 1 ≤ s.size) (hd : allDig s.data.toList = true) :
    ((strOf (Lib.itoa (dnum s.data.toList : Int))).toList == s.toList) = !(decide (s.data.toList.head? = some 48) && decide (1 < s.size)) := by
  rw [Lib.itoa_nonneg, Lib.toList_data, Lib.toList_data, strOf_data]
  have hl : s.data.toList.length = s.size := by simp
  by_cases hz : s.data.toList.head? = some 48 ∧ 1 < s.size
  · obtain ⟨t, ht⟩ : ∃ t, s.data.toList = 48 :: t := by
      cases hq : s.data.toList with
      | nil => rw [hq] at hz; simp at hz
      | cons a t => rw [hq] at hz; simp at hz; exact ⟨t, by rw [hz.1]⟩
    have hne := decDigits_nought s.data.toList t ht (by intro e; subst e; rw [ht] at hl; simp at hl; omega) (dnum s.data.toList)
    simp [hz, hne]
  · have := decDigits_dnum s.size s.data.toList hl hd h1 (by
      by_cases h : s.size = 1
      · exact Or.inl h
      · right; intro a t e ha; subst ha; apply hz; rw [e]; exact ⟨rfl, by omega⟩)
    rw [this, notand hz]
    simp

theorem implReadDec (s : ByteArray) (w : World) (hs : s.size ≤ maxLen) :
    Calls Tryd.prog 18 #[.string s] w fun e w' => e = .returned (.int .i64 (readDecV s)) ∧ (w' = w ∨ ∃ pos, w' = w.iter s pos) := by
  unfold maxLen at hs
  by_cases h0 : s.size = 0
  · have he : s.toList = [] := by rw [Lib.toList_data]; exact List.eq_nil_of_length_eq_zero (by simpa using h0)
    rw [show readDecV s = -1 by unfold readDecV; simp [h0]]
    go_enter Tryd.func18, Tryd.ntmps18
    go_wp2
    go_ret
    exact ⟨rfl, Or.inl rfl⟩
  · have he : s.toList.isEmpty = false := by
      rw [Lib.toList_data]
      cases hq : s.data.toList with
      | nil => exact absurd (by have := congrArg List.length hq; simpa using this) h0
      | cons a t => rfl
    have hsz : (0 : Int) < s.size := by omega
    by_cases h12 : 12 < s.size
    · rw [show readDecV s = -1 by unfold readDecV; simp [h12]]
      go_enter Tryd.func18, Tryd.ntmps18
      go_wp2
      go_ret
      exact ⟨rfl, Or.inl rfl⟩
    · by_cases hz : s[0].toNat = 48
      · by_cases h1 : 1 < s.size
        · rw [show readDecV s = -1 by unfold readDecV; rw [if_neg (by omega), if_pos ⟨(head_nought s (by omega)).2 hz, h1⟩]]
          have hz1 : ((s[0].toNat : Int) == 48) = true := by simp [hz]
          clear hz
          go_enter Tryd.func18, Tryd.ntmps18
          go_wp2
          go_ret
          exact ⟨rfl, Or.inl rfl⟩
        · rw [show readDecV s = digitsVal 10 s by unfold readDecV; rw [if_neg (by omega), if_neg (by omega)]]
          have hz1 : ((s[0].toNat : Int) == 48) = true := by simp [hz]
          clear hz
          go_enter Tryd.func18, Tryd.ntmps18
          go_wp2_with (go_at_call 27; refine (readDigits s 10 _ (by omega) (by omega) (by omega)).mono ?_; rintro e w' ⟨rfl, pos, rfl⟩)
          go_ret
          exact ⟨rfl, Or.inr ⟨_, rfl⟩⟩
      · rw [show readDecV s = digitsVal 10 s by unfold readDecV; rw [if_neg (by omega), if_neg (by intro h; exact hz ((head_nought s (by omega)).1 h.1))]]
        have hz1 : ((s[0].toNat : Int) == 48) = false := by simp; omega
        clear hz
        go_enter Tryd.func18, Tryd.ntmps18
        go_wp2_with (go_at_call 27; refine (readDigits s 10 _ (by omega) (by omega) (by omega)).mono ?_; rintro e w' ⟨rfl, pos, rfl⟩)
        go_ret
        exact ⟨rfl, Or.inr ⟨_, rfl⟩⟩
end Go.Proofs.YtlkmpmlcjiiboaaDoor
