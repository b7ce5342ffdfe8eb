/- What impl.Runs tells, byte after byte, is what is told run after run. -/
import Derived.Test.YtnmlhjigiemfgaaDoorRunsRecv
import Derived.Test.YtnmlhjigiemfgaaDoorRunsV
namespace Go.Proofs.YtnmlhjigiemfgaaDoor

theorem appV_run1 (c : UInt8) (n : Nat) (h : 1 ≤ n) : appV c n = run1 c n := by
  unfold appV run1 longB
  have hc : (c.toNat == 1) = decide (c = 1) := by
    by_cases e : c = 1
    · subst e; rfl
    · have : c.toNat ≠ 1 := fun x => e (UInt8.toNat_inj.mp (by simpa using x))
      simp [e, this]
  by_cases h1 : 4 ≤ n ∨ c = 1
  · rw [if_pos h1, if_pos]
    rcases h1 with h1 | h1
    · simp [h1]
    · simp [hc, h1]; omega
  · rw [if_neg h1, if_neg]
    have a1 : ¬ 4 ≤ n := fun x => h1 (.inl x)
    have a2 : ¬ c = 1 := fun x => h1 (.inr x)
    simp [hc, a1, a2]
theorem tell_lead (c : UInt8) : ∀ (r : List UInt8) (n : Nat) (l : List UInt8), 1 ≤ n → n ≤ 255 → tellR l c n r = l ++ run1 c (n + lead c (255 - n) r) ++ runsV (r.drop (lead c (255 - n) r))
  | [], n, l, h1, h2 => by
    simp [tellR, lead_nil, appV_run1 c n h1, runsV_nil]
  | d :: r, n, l, h1, h2 => by
    rw [tellR]
    by_cases hg : d = c ∧ n < 255
    · obtain ⟨rfl, hn⟩ := hg
      have hb : goB d n d = true := by simp [goB, hn]
      have hL : lead d (255 - n) (d :: r) = lead d (255 - (n + 1)) r + 1 := by
        obtain ⟨m, hm⟩ : ∃ m, 255 - n = m + 1 := ⟨255 - (n + 1), by omega⟩
        rw [hm, lead, if_pos rfl, show 255 - (n + 1) = m by omega]
      rw [nextL, nextC, nextN, hb]
      simp only [if_true]
      rw [tell_lead d r (n + 1) l (by omega) (by omega), hL, List.drop_succ_cons, show n + (lead d (255 - (n + 1)) r + 1) = n + 1 + lead d (255 - (n + 1)) r by omega]
    · have hb : goB c n d = false := by
        simp only [goB, decide_eq_false_iff_not]
        exact fun ⟨x, y⟩ => hg ⟨UInt8.toNat_inj.mp x, y⟩
      have hL : lead c (255 - n) (d :: r) = 0 := by
        by_cases hn : n < 255
        · obtain ⟨m, hm⟩ : ∃ m, 255 - n = m + 1 := ⟨255 - (n + 1), by omega⟩
          rw [hm, lead, if_neg (fun e => hg ⟨e, hn⟩)]
        · rw [show 255 - n = 0 by omega]; rfl
      rw [nextL, nextC, nextN, hb, hL]
      simp only [Bool.false_eq_true, if_false]
      rw [tell_lead d r 1 _ (by omega) (by omega), Nat.add_zero, List.drop_zero, runsV_cons, appV_run1 c n h1, Nat.add_comm 1]
      simp [List.append_assoc]
theorem tell_runs (l : List UInt8) : tellR [] 0 0 l = runsV l := by
  cases l with
  | nil => rfl
  | cons d r =>
    have h0 : ∀ c, tellR [] c 1 r = run1 c (lead c 254 r + 1) ++ runsV (r.drop (lead c 254 r)) := fun c => by
      rw [tell_lead c r 1 [] (by omega) (by omega), Nat.add_comm 1]; rfl
    rw [tellR, runsV_cons, ← h0 d]
    by_cases hd : d = 0
    · subst hd; rfl
    · have hb : goB 0 0 d = false := by
        simp only [goB, decide_eq_false_iff_not]
        exact fun ⟨x, _⟩ => hd (UInt8.toNat_inj.mp x)
      rw [nextL, nextC, nextN, hb]
      rfl
end Go.Proofs.YtnmlhjigiemfgaaDoor
