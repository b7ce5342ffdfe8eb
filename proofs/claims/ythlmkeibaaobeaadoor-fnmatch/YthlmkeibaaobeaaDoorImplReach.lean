/- slices.Index over bools. -/
import Derived.Test.YthlmkeibaaobeaaDoorImplStands3
import Derived.Test.YthlmkeibaaobeaaDoorSpecAll
namespace Go.Proofs.YthlmkeibaaobeaaDoor
open Go.RowKit

/-- The first place that is true, or -1. -/
def FirstAt (n : Nat) (F : Nat → Bool) (q : Int) : Prop := (q = -1 ∧ ∀ i, i < n → F i = false) ∨ ∃ j : Nat, q = j ∧ j < n ∧ F j = true ∧ ∀ i, i < j → F i = false
def FirstRes (n : Nat) (F : Nat → Bool) (e : Ending) : Prop := ∃ q : Int, e = .returned (.int .i64 q) ∧ FirstAt n F q

set_option maxRecDepth 100000 in
set_option maxHeartbeats 4000000 in
theorem implIndexTrue (g n : Nat) (F : Nat → Bool) (w : World) (h : BRow w g n F) (hn : n ≤ 1000) :
    Calls Tryd.prog 36 #[.slice (some ⟨g, 0, none⟩) n n, .bool true] w fun e w' => FirstRes n F e ∧ w = w' := by
  have hni : (n : Int) ≤ 1000 := by omega
  have H := Lib.hid h
  clear h
  go_enter Tryd.func36, Tryd.ntmps36
  go_wp2
  go_loop [5, 8] (fun _ iv => ∃ k : Nat, iv = .int .i64 k ∧ k ≤ n ∧ Hid (∀ i, i < k → F i = false)) (fun _ iv => n - (intOf iv).toNat)
  case atStart => exact ⟨0, rfl, Nat.zero_le _, Lib.hid (fun i hi => absurd hi (by omega))⟩
  case round =>
    obtain ⟨k, rfl, hk, HR⟩ := hrel
    by_cases h1 : k < n
    · have h1i : (k : Int) < (n : Int) := by omega
      have hc := H.out.cell h1
      cases hF : F k with
      | true =>
        rw [hF] at hc
        have HF := Lib.hid hF
        clear hF
        go_wp2
        go_ret
        exact ⟨⟨k, rfl, .inr ⟨k, rfl, h1, HF.out, HR.out⟩⟩, rfl⟩
      | false =>
        rw [hF] at hc
        have HF := Lib.hid (show ∀ i, i < k + 1 → F i = false from fun i hi => by
          by_cases e : i = k
          · rw [e]; exact hF
          · exact HR.out i (by omega))
        clear hF
        go_wp2
        go_round
        case rel => exact ⟨k + 1, by go_num, by omega, HF⟩
        case measure => simp [intOf]; omega
    · have h1i : ¬ (k : Int) < (n : Int) := by omega
      go_wp2
      go_ret
      exact ⟨⟨-1, rfl, .inl ⟨rfl, fun i hi => HR.out i (by omega)⟩⟩, rfl⟩
end Go.Proofs.YthlmkeibaaobeaaDoor
