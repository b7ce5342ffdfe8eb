/- Contracts of spec.TimeOf and spec.YearDay. -/
import Derived.Test.YthcofpkppienaaaDays2
namespace Go.Proofs.Ythcofpkppienaaa
open Go.RowKit

def timeV (y mo d h mi s : Int) : Int := if dateOkB y mo d h mi s then (Dt.mk y mo.toNat d h mi s).time else -1

theorem date_cell {w W : World} {y mo d h mi s : Int} (hb : Below (w.heap.size + 1) (w.alloc (.cells #[.int .i64 y, .int .i64 mo, .int .i64 d, .int .i64 h, .int .i64 mi, .int .i64 s] 31)) W) (j : Nat) :
    W.cell? ⟨w.heap.size, j, none⟩ = (#[.int .i64 y, .int .i64 mo, .int .i64 d, .int .i64 h, .int .i64 mi, .int .i64 s] : Array Value)[j]? :=
  (hb.cell (p := ⟨w.heap.size, j, none⟩) (Nat.lt_succ_self _)).trans (World.cell?_alloc_at _ _ _ j rfl)
theorem msum_nonneg (y : Int) (m : Nat) (h : 1 ≤ m) : 0 ≤ msum y m := by
  have := msum_mono y (m - 1) 1 (by omega)
  rw [show 1 + (m - 1) = m by omega, msum_1] at this
  omega
theorem msum_le (y : Int) (m : Nat) (h : 1 ≤ m) (h2 : m ≤ 12) : msum y m ≤ 366 := by
  have := msum_mono y (13 - m) m h
  rw [show m + (13 - m) = 13 by omega, msum_13] at this
  have := ylen_bd y
  omega

end Go.Proofs.Ythcofpkppienaaa
