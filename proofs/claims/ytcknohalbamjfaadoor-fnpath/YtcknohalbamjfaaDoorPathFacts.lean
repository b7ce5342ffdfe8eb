/- What the laws on paths ask, as plain facts. -/
import Derived.Test.YtcknohalbamjfaaDoorImplClean
import Derived.Test.YtcknohalbamjfaaDoorDrawPath
import Derived.Test.YtcknohalbamjfaaDoorBig
namespace Go.Proofs.YtcknohalbamjfaaDoor
open Go.RowKit

theorem strOf_empty_f {l : List UInt8} (h : l ≠ []) : (strOf l).toList.isEmpty = false := by rw [strOf_isEmpty]; cases l; exact absurd rfl h; rfl
theorem pathL_some (ns : List (List UInt8)) : pathL ns ≠ [] := by obtain ⟨r, hr⟩ := pathL_head ns; rw [hr]; simp
theorem same_text (x : ByteArray) : (x.toList == x.toList) = true := beq_self_eq_true _
theorem under_snoc {ms : List (List UInt8)} {n : List UInt8} (h : fit (ms ++ [n]) = true) : underV (pathL (ms ++ [n])) (pathL ms) = true := by
  unfold underV
  rw [namesO_of h, namesO_of (fit_sub h).1]
  show (decide (ms.length < (ms ++ [n]).length) && ((ms ++ [n]).take ms.length == ms)) = true
  simp
theorem under_self {ns : List (List UInt8)} (h : fit ns = true) : underV (pathL ns) (pathL ns) = false := by
  unfold underV
  rw [namesO_of h]
  show (decide (ns.length < ns.length) && _) = false
  simp
theorem under_up {ms : List (List UInt8)} {n : List UInt8} (h : fit (ms ++ [n]) = true) : underV (pathL ms) (pathL (ms ++ [n])) = false := by
  unfold underV
  rw [namesO_of h, namesO_of (fit_sub h).1]
  show (decide ((ms ++ [n]).length < ms.length) && _) = false
  simp
  intro h2; omega
theorem join_snoc {ms : List (List UInt8)} {n : List UInt8} (h : fit (ms ++ [n]) = true) : joinV (pathL ms) n = pathL (ms ++ [n]) := by
  unfold joinV pathV
  rw [namesO_of (fit_sub h).1]
  show (if fit (ms ++ [n]) = true then _ else _) = _
  rw [if_pos h]
theorem join_or (d n : List UInt8) : joinV d n = [] ∨ ∃ ns, fit (ns ++ [n]) = true ∧ d = pathL ns ∧ joinV d n = pathL (ns ++ [n]) := by
  unfold joinV
  cases h : namesO d with
  | none => exact .inl rfl
  | some ns =>
    obtain ⟨h1, h2⟩ := namesO_is h
    unfold pathV
    by_cases hf : fit (ns ++ [n]) = true
    · exact .inr ⟨ns, hf, h2, by simp [hf]⟩
    · exact .inl (by simp [hf])
theorem clean_path {l : List UInt8} (h : 0 < depthV l) : cleanV l = l ∧ l ≠ [] := by
  obtain ⟨ms, n, hf, rfl⟩ := depth_pos h
  exact ⟨clean_of hf, pathL_some _⟩
end Go.Proofs.YtcknohalbamjfaaDoor
