/- impl's sets: the closure itself. -/
import Derived.Test.YthlmkeibaaobeaaDoorImplStands
import Derived.BigQuiet
import Derived.Lib.QuietBelow
namespace Go.Proofs.YthlmkeibaaobeaaDoor
open Go.RowKit

set_option maxRecDepth 100000 in
set_option maxHeartbeats 4000000 in
theorem implHas (t : Bool) (rs : List (UInt8 × UInt8)) (c : UInt8) (n1 n2 B : Nat) (sv : Value) (w : World) (h1 : Box w n1 4 (.bool t)) (h2 : Box w n2 81 sv) (hR : RangeRow w B sv rs) (hl : rs.length ≤ 60) :
    Calls Tryd.prog 59 #[.int .u8 (c.toNat : Int), .pointer (some ⟨n2, 0, none⟩), .pointer (some ⟨n1, 0, none⟩)] w fun e w' => e = .returned (.bool (Pc.has c (.set t rs))) ∧ Below w.heap.size w w' := by
  have HV := Lib.hid (show Pc.has c (.set t rs) = (rs.any (inR c) != t) from rfl)
  obtain ⟨W, hW⟩ : ∃ W, w.alloc (.cells #[.int .u8 (c.toNat : Int)] 5) = W := ⟨_, rfl⟩
  have hal : Below w.heap.size w W := by rw [← hW]; exact (Below.refl _ _).alloc (Nat.le_refl _) _
  have hbx : Box W w.heap.size 5 (.int .u8 (c.toNat : Int)) := by rw [← hW]; exact heap_alloc_new w _
  have c0 : ∀ n os, (Sort.grow (redrawn W n) os).cell? ⟨n2, 0, none⟩ = some sv := fun n os => ((h2.on hal).on (below_regrown W n os)).cell.1
  have c1 : ∀ n os, (Sort.grow (redrawn W n) os).cell? ⟨n1, 0, none⟩ = some (.bool t) := fun n os => ((h1.on hal).on (below_regrown W n os)).cell.1
  have K1 := Lib.hid (show ∀ n os, Calls Tryd.prog 61 #[sv, .func (.func 60) #[] #[.pointer (some ⟨w.heap.size, 0, none⟩)]] (Sort.grow (redrawn W n) os) fun e w'' => e = .returned (.bool (rs.any (inR c))) ∧ ∃ p : Regrown, w'' = Sort.grow (redrawn W p.d) p.os from fun n os => Calls.regrown_of (implContainsFunc rs c w.heap.size B sv _ (hbx.on (below_regrown W n os)) ((hR.on hal).on (below_regrown W n os)) hl))
  generalize rs.any (inR c) = y at K1 HV
  rw [HV.out]
  have HAL := Lib.hid hal
  clear h1 h2 hR hal hbx HV
  go_enter Tryd.func59, Tryd.ntmps59
  go_wp2
  refine wp_region_quiet_below (by kernel_rfl) (by kernel_rfl) ?_
  repeat (go_big_quiet_step (exact K1.out _ _))
  refine wpQuiet_nil ?_
  intro w6 hw6
  obtain ⟨r, rfl⟩ := hw6
  go_wp2
  go_ret
  exact ⟨rfl, HAL.out.trans ((below_regrown W r.d r.os).mono HAL.out.size)⟩
end Go.Proofs.YthlmkeibaaobeaaDoor
