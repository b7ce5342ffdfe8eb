/- Runs of bytes, as plain lists: told, and spread again. -/
import Derived.Test.YtnmlhjigiemfgaaDoorBase
namespace Go.Proofs.YtnmlhjigiemfgaaDoor
open Go.RowKit

/-- How often c stands ahead, at most m times. -/
def lead (c : UInt8) : Nat → List UInt8 → Nat
  | 0, _ => 0
  | _ + 1, [] => 0
  | m + 1, d :: r => if d = c then lead c m r + 1 else 0
theorem lead_nil (c : UInt8) (m : Nat) : lead c m [] = 0 := by cases m <;> rfl
theorem lead_le (c : UInt8) : ∀ (m : Nat) (l : List UInt8), lead c m l ≤ m
  | 0, _ => Nat.le_refl _
  | _ + 1, [] => Nat.zero_le _
  | m + 1, d :: r => by
    unfold lead
    split
    · have := lead_le c m r; omega
    · omega
theorem lead_len (c : UInt8) : ∀ (m : Nat) (l : List UInt8), lead c m l ≤ l.length
  | 0, _ => Nat.zero_le _
  | _ + 1, [] => Nat.zero_le _
  | m + 1, d :: r => by
    unfold lead
    split
    · have := lead_len c m r; simp; omega
    · omega
theorem lead_take (c : UInt8) : ∀ (m : Nat) (l : List UInt8), l.take (lead c m l) = List.replicate (lead c m l) c
  | 0, _ => rfl
  | _ + 1, [] => rfl
  | m + 1, d :: r => by
    unfold lead
    split
    · rename_i h; rw [List.take_succ_cons, lead_take c m r, h, List.replicate_succ]
    · rfl
/-- So many, and then the end, another byte, or the most that there may be. -/
theorem lead_at (c : UInt8) : ∀ (n m : Nat) (l : List UInt8), n ≤ m → n ≤ l.length → l.take n = List.replicate n c → (n = m ∨ l[n]? ≠ some c) → lead c m l = n
  | 0, 0, _, _, _, _, _ => rfl
  | 0, m + 1, [], _, _, _, _ => rfl
  | 0, m + 1, d :: r, _, _, _, h => by
    unfold lead
    rw [if_neg]
    intro e
    rcases h with h | h
    · omega
    · exact h (by simp [e])
  | n + 1, 0, _, h, _, _, _ => by omega
  | n + 1, m + 1, [], _, h, _, _ => by simp at h
  | n + 1, m + 1, d :: r, h1, h2, h3, h4 => by
    rw [List.take_succ_cons, List.replicate_succ] at h3
    obtain ⟨e1, e2⟩ := List.cons.inj h3
    unfold lead
    rw [if_pos e1, lead_at c n m r (by omega) (by simpa using h2) e2 (h4.imp (by omega) (by simpa using ·))]
/-- One run, as it is told. -/
def run1 (c : UInt8) (n : Nat) : List UInt8 := if 4 ≤ n ∨ c = 1 then [1, UInt8.ofNat n, c] else List.replicate n c
theorem run1_long {c : UInt8} {n : Nat} (h : 4 ≤ n ∨ c = 1) : run1 c n = [1, UInt8.ofNat n, c] := if_pos h
theorem run1_short {c : UInt8} {n : Nat} (h : ¬ (4 ≤ n ∨ c = 1)) : run1 c n = List.replicate n c := if_neg h
theorem run1_len (c : UInt8) (n : Nat) (h : 1 ≤ n) : (run1 c n).length ≤ 3 * n := by
  unfold run1
  split
  · simp; omega
  · simp; omega
def runsF : Nat → List UInt8 → List UInt8
  | 0, _ => []
  | _ + 1, [] => []
  | f + 1, c :: r => run1 c (lead c 254 r + 1) ++ runsF f (r.drop (lead c 254 r))
theorem runsF_fuel : ∀ (f g : Nat) (l : List UInt8), l.length ≤ f → l.length ≤ g → runsF f l = runsF g l
  | 0, 0, _, _, _ => rfl
  | 0, g + 1, [], _, _ => rfl
  | f + 1, 0, [], _, _ => rfl
  | f + 1, g + 1, [], _, _ => rfl
  | 0, _, _ :: _, h, _ => by simp at h
  | _ + 1, 0, _ :: _, _, h => by simp at h
  | f + 1, g + 1, c :: r, h1, h2 => by
    rw [runsF, runsF, runsF_fuel f g _ (by simp at h1 ⊢; omega) (by simp at h2 ⊢; omega)]
/-- What Runs tells. -/
def runsV (l : List UInt8) : List UInt8 := runsF l.length l
theorem runsV_nil : runsV [] = [] := rfl
theorem runsV_cons (c : UInt8) (r : List UInt8) : runsV (c :: r) = run1 c (lead c 254 r + 1) ++ runsV (r.drop (lead c 254 r)) := by
  unfold runsV
  rw [List.length_cons, runsF, runsF_fuel r.length _ _ (by simp) (Nat.le_refl _)]
theorem runsV_len : ∀ (n : Nat) (l : List UInt8), l.length ≤ n → (runsV l).length ≤ 3 * l.length
  | _, [], _ => Nat.zero_le _
  | 0, _ :: _, h => by simp at h
  | n + 1, c :: r, h => by
    have h1 := run1_len c (lead c 254 r + 1) (by omega)
    have h2 := runsV_len n (r.drop (lead c 254 r)) (by simp at h ⊢; omega)
    have h3 := lead_len c 254 r
    rw [runsV_cons, List.length_append, List.length_cons]
    rw [List.length_drop] at h2
    omega

/-- Runs, spread: none where the text ends within one. -/
def sprL : List UInt8 → Option (List UInt8)
  | [] => some []
  | c :: r =>
    if c = 1 then (match r with | n :: b :: t => (sprL t).map (List.replicate n.toNat b ++ ·) | _ => none)
    else (sprL r).map (c :: ·)
theorem sprL_nil : sprL [] = some [] := rfl
theorem sprL_cons (c : UInt8) (r : List UInt8) : sprL (c :: r) = if c = 1 then (match r with | n :: b :: t => (sprL t).map (List.replicate n.toNat b ++ ·) | _ => none) else (sprL r).map (c :: ·) := by
  rcases r with _ | ⟨_, _ | ⟨_, _⟩⟩ <;> rfl
theorem sprL_run (n b : UInt8) (t : List UInt8) : sprL (1 :: n :: b :: t) = (sprL t).map (List.replicate n.toNat b ++ ·) := by rw [sprL_cons, if_pos rfl]
theorem sprL_one : sprL [1] = none := rfl
theorem sprL_two (n : UInt8) : sprL [1, n] = none := rfl
theorem sprL_lit {c : UInt8} (h : c ≠ 1) (t : List UInt8) : sprL (c :: t) = (sprL t).map (c :: ·) := by rw [sprL_cons, if_neg h]
theorem sprL_rep {c : UInt8} (h : c ≠ 1) (t : List UInt8) : ∀ n : Nat, sprL (List.replicate n c ++ t) = (sprL t).map (List.replicate n c ++ ·)
  | 0 => by simp
  | n + 1 => by
    rw [List.replicate_succ, List.cons_append, sprL_lit h, sprL_rep h t n]
    cases sprL t <;> rfl
theorem byte_n {n : Nat} (h : n ≤ 255) : (UInt8.ofNat n).toNat = n := by
  rw [UInt8.toNat_ofNat']; exact Nat.mod_eq_of_lt (by omega)
theorem sprL_run1 (c : UInt8) {n : Nat} (h : n ≤ 255) (t : List UInt8) : sprL (run1 c n ++ t) = (sprL t).map (List.replicate n c ++ ·) := by
  by_cases h1 : 4 ≤ n ∨ c = 1
  · rw [run1_long h1]
    show sprL (1 :: UInt8.ofNat n :: c :: t) = _
    rw [sprL_run, byte_n h]
  · rw [run1_short h1]
    exact sprL_rep (fun e => h1 (.inr e)) t n
/-- A text comes back from its runs. -/
theorem spr_runs : ∀ (n : Nat) (l : List UInt8), l.length ≤ n → sprL (runsV l) = some l
  | _, [], _ => rfl
  | 0, _ :: _, h => by simp at h
  | n + 1, c :: r, h => by
    have h1 := lead_le c 254 r
    rw [runsV_cons, sprL_run1 c (by omega), spr_runs n (r.drop (lead c 254 r)) (by simp at h ⊢; omega), Option.map_some, List.replicate_succ, ← lead_take, List.cons_append, List.take_append_drop]
theorem runsV_inj {l m : List UInt8} (h : runsV l = runsV m) : l = m := by
  have h1 := spr_runs _ l (Nat.le_refl _)
  rw [h, spr_runs _ m (Nat.le_refl _)] at h1
  exact (Option.some.inj h1).symm
/-- What Spread tells. -/
def spreadO (l : List UInt8) : Option (List UInt8) :=
  match sprL l with
  | none => none
  | some t => if t.length ≤ 3000 ∧ runsV t = l then some t else none
theorem spreadO_iff {l t : List UInt8} : spreadO l = some t ↔ t.length ≤ 3000 ∧ runsV t = l := by
  unfold spreadO
  constructor
  · intro h
    split at h
    · cases h
    · split at h
      · rename_i h1; cases h; exact h1
      · cases h
  · rintro ⟨h1, rfl⟩
    rw [spr_runs _ t (Nat.le_refl _)]
    simp [h1]
theorem spreadO_none {l : List UInt8} (h : sprL l = none) : spreadO l = none := by unfold spreadO; rw [h]
theorem spreadO_some {l t : List UInt8} (h : sprL l = some t) : spreadO l = if t.length ≤ 3000 ∧ runsV t = l then some t else none := by unfold spreadO; rw [h]
end Go.Proofs.YtnmlhjigiemfgaaDoor
