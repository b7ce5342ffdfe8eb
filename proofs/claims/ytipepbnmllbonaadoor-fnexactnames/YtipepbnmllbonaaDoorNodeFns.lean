/- The laws' helpers on nodes: a node, its copy, its size, whether two are alike. -/
import Derived.Test.YtipepbnmllbonaaDoorNodes
namespace Go.Proofs.YtipepbnmllbonaaDoor
open Go.RowKit
set_option maxRecDepth 100000 in
set_option maxHeartbeats 1000000 in
theorem toNode (n : Nd) (w : World) :
    Calls Tryd.prog 36 #[.agg #[.string (strOf n.path), .bool n.dir, .int .i64 n.mode, .int .i64 n.time, .int .i64 n.id, .string (strOf n.data)]] w fun e w' => e = .returned (.agg #[.string (strOf n.path), .bool n.dir, .int .i64 n.mode, .int .i64 n.time, .int .i64 n.id, .string (strOf n.data)]) ∧ Below w.heap.size w w' := by
  go_enter Tryd.func36, Tryd.ntmps36
  go_wp2
  refine bodyPost_ret (v := .agg #[.string (strOf n.path), .bool n.dir, .int .i64 n.mode, .int .i64 n.time, .int .i64 n.id, .string (strOf n.data)]) (by simp [results, Tryd.results36, go_sem]) rfl ⟨rfl, ?_⟩
  repeat (first | exact Below.refl _ _ | refine Below.alloc ?_ (by simp <;> omega) _ | refine Below.setCell ?_ (by simp) _)

/-- How much a node tells. -/
def szN (n : Nd) : Nat := n.path.length + n.data.length
/-- What is left of a limit; -1 where it is passed by. -/
def leftV (left : Int) (n : Nat) : Int := if (n : Int) ≤ left then left - n else -1
theorem leftV_in {left : Int} {n : Nat} (h : (n : Int) ≤ left) : leftV left n = left - n := if_pos h
theorem leftV_out {left : Int} {n : Nat} (h : ¬ (n : Int) ≤ left) : leftV left n = -1 := if_neg h
def szNs (ns : List Nd) : Nat := (ns.map szN).sum
set_option maxRecDepth 100000 in
set_option maxHeartbeats 1000000 in
theorem szNode (n : Nd) (left : Int) (w : World) (h0 : 0 ≤ left) (h1 : left ≤ 1048576) (h2 : n.path.length ≤ maxLen) (h3 : n.data.length ≤ maxLen) :
    Calls Tryd.prog 31 #[.agg #[.string (strOf n.path), .bool n.dir, .int .i64 n.mode, .int .i64 n.time, .int .i64 n.id, .string (strOf n.data)], .int .i64 left] w fun e w' => e = .returned (.int .i64 (leftV left (szN n))) ∧ Below w.heap.size w w' := by
  have e1 := strOf_size n.path
  have e2 := strOf_size n.data
  unfold maxLen at h2 h3
  unfold szN
  generalize strOf n.path = p at e1
  generalize strOf n.data = d at e2
  rw [← e1, ← e2]
  have h2' : p.size ≤ 9223372036854775807 := by omega
  have h3' : d.size ≤ 9223372036854775807 := by omega
  clear e1 e2 h2 h3
  by_cases c1 : (p.size : Int) ≤ left
  · by_cases c2 : (d.size : Int) ≤ left - p.size
    · have d1 : ¬ left - (p.size : Int) < 0 := by omega
      have d2 : ¬ left - (p.size : Int) - d.size < 0 := by omega
      go_enter Tryd.func31, Tryd.ntmps31
      go_wp2
      go_ret
      exact ⟨ret_int (by rw [leftV_in (by omega)]; omega), (Below.refl _ _).alloc (Nat.le_refl _) _⟩
    · have d1 : ¬ left - (p.size : Int) < 0 := by omega
      have d2 : left - (p.size : Int) - d.size < 0 := by omega
      go_enter Tryd.func31, Tryd.ntmps31
      go_wp2
      go_ret
      exact ⟨ret_int (by rw [leftV_out (by omega)]), (Below.refl _ _).alloc (Nat.le_refl _) _⟩
  · have d1 : left - (p.size : Int) < 0 := by omega
    go_enter Tryd.func31, Tryd.ntmps31
    go_wp2
    go_ret
    exact ⟨ret_int (by rw [leftV_out (by omega)]), (Below.refl _ _).alloc (Nat.le_refl _) _⟩

set_option maxRecDepth 100000 in
set_option maxHeartbeats 1000000 in
theorem eqNode (n : Nd) (w : World) :
    Calls Tryd.prog 43 #[.agg #[.string (strOf n.path), .bool n.dir, .int .i64 n.mode, .int .i64 n.time, .int .i64 n.id, .string (strOf n.data)], .agg #[.string (strOf n.path), .bool n.dir, .int .i64 n.mode, .int .i64 n.time, .int .i64 n.id, .string (strOf n.data)]] w fun e w' => e = .returned (.bool true) ∧ Below w.heap.size w w' := by
  generalize strOf n.path = p
  generalize strOf n.data = d
  go_enter Tryd.func43, Tryd.ntmps43
  go_wp2
  go_ret
  exact ⟨rfl, ((Below.refl _ _).alloc (Nat.le_refl _) _).alloc (by simp) _⟩
end Go.Proofs.YtipepbnmllbonaaDoor
