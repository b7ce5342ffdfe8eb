/- impl's sets: the closure itself. standsFor, of the three pieces. -/
import Derived.Test.YtipepbnmllbonaaGreatDoorM21
import Derived.BigQuiet
import Derived.Lib.QuietBelow
namespace Go.Proofs.YtipepbnmllbonaaGreatDoor
open Go.RowKit

set_option maxRecDepth 100000 in
set_option maxHeartbeats 4000000 in
theorem implHas (t : Bool) (rs : List (UInt8 × UInt8)) (c : UInt8) (n1 n2 B : Nat) (sv : Value) (w : World) (h1 : Box w n1 4 (.bool t)) (h2 : Box w n2 223 sv) (hR : RangeRow w B sv rs) (hl : rs.length ≤ 60) :
    Calls Tryz.prog 216 #[.int .u8 (c.toNat : Int), .pointer (some ⟨n2, 0, none⟩), .pointer (some ⟨n1, 0, none⟩)] w fun e w' => e = .returned (.bool (Pc.has c (.set t rs))) ∧ Below w.heap.size w w' := by
  have HV := Lib.hid (show Pc.has c (.set t rs) = (rs.any (inR c) != t) from rfl)
  obtain ⟨W, hW⟩ : ∃ W, w.alloc (.cells #[.int .u8 (c.toNat : Int)] 5) = W := ⟨_, rfl⟩
  have hal : Below w.heap.size w W := by rw [← hW]; exact (Below.refl _ _).alloc (Nat.le_refl _) _
  have hbx : Box W w.heap.size 5 (.int .u8 (c.toNat : Int)) := by rw [← hW]; exact heap_alloc_new w _
  have c0 : ∀ n os, (Sort.grow (redrawn W n) os).cell? ⟨n2, 0, none⟩ = some sv := fun n os => ((h2.on hal).on (below_regrown W n os)).cell.1
  have c1 : ∀ n os, (Sort.grow (redrawn W n) os).cell? ⟨n1, 0, none⟩ = some (.bool t) := fun n os => ((h1.on hal).on (below_regrown W n os)).cell.1
  have K1 := Lib.hid (show ∀ n os, Calls Tryz.prog 218 #[sv, .func (.func 217) #[] #[.pointer (some ⟨w.heap.size, 0, none⟩)]] (Sort.grow (redrawn W n) os) fun e w'' => e = .returned (.bool (rs.any (inR c))) ∧ ∃ p : Regrown, w'' = Sort.grow (redrawn W p.d) p.os from fun n os => Calls.regrown_of (implContainsFunc rs c w.heap.size B sv _ (hbx.on (below_regrown W n os)) ((hR.on hal).on (below_regrown W n os)) hl))
  generalize rs.any (inR c) = y at K1 HV
  rw [HV.out]
  have HAL := Lib.hid hal
  clear h1 h2 hR hal hbx HV
  go_enter Tryz.func216, Tryz.ntmps216
  go_wp2
  refine wp_region_quiet_below (by kernel_rfl) (by kernel_rfl) ?_
  repeat (go_big_quiet_step (exact K1.out _ _))
  refine wpQuiet_nil ?_
  intro w6 hw6
  obtain ⟨r, rfl⟩ := hw6
  go_wp2
  go_ret
  exact ⟨rfl, HAL.out.trans ((below_regrown W r.d r.os).mono HAL.out.size)⟩
end Go.Proofs.YtipepbnmllbonaaGreatDoor
namespace Go.Proofs.YtipepbnmllbonaaGreatDoor
open Go.RowKit

theorem implAny (c : UInt8) (w : World) : Calls Tryz.prog 184 #[.int .u8 (c.toNat : Int)] w fun e w' => e = .returned (.bool true) ∧ w = w' := by
  go_enter Tryz.func184, Tryz.ntmps184
  go_wp2
  go_ret
  exact ⟨rfl, rfl⟩
theorem standsSign (b c : UInt8) (w : World) : Calls Tryz.prog 254 #[.int .u8 (b.toNat : Int), .int .u8 (c.toNat : Int)] w fun e w' => e = .returned (.bool (Pc.has c (.sign b))) ∧ Below w.heap.size w w' := by
  have HV := Lib.hid (show Pc.has c (.sign b) = (c == b) from rfl)
  rw [HV.out]
  clear HV
  by_cases hcb : c.toNat = b.toNat
  · have d1 : ((c.toNat : Int) == (b.toNat : Int)) = true := byte_t hcb
    have HE := Lib.hid (show (c == b) = true by rw [u8_is hcb]; simp)
    rw [HE.out]
    clear hcb HE
    go_enter Tryz.func254, Tryz.ntmps254
    go_wp2
    go_ret
    exact ⟨ret_bool (by first | exact d1 | simp), Below.refl _ _⟩
  · have d1 : ((c.toNat : Int) == (b.toNat : Int)) = false := byte_f hcb
    have HE := Lib.hid (show (c == b) = false by simp; intro e; exact hcb (by rw [e]))
    rw [HE.out]
    clear hcb HE
    go_enter Tryz.func254, Tryz.ntmps254
    go_wp2
    go_ret
    exact ⟨ret_bool (by first | exact d1 | simp), Below.refl _ _⟩
theorem standsAny (c : UInt8) (w : World) : Calls Tryz.prog 255 #[.func (.func 184) #[] #[], .int .u8 (c.toNat : Int)] w fun e w' => e = .returned (.bool (Pc.has c .any)) ∧ Below w.heap.size w w' := by
  have CA := Lib.hid (fun W => implAny c W)
  go_enter Tryz.func255, Tryz.ntmps255
  go_wp2_with fail
  refine (CA.out _).mono ?_
  rintro e W1 ⟨rfl, rfl⟩
  go_wp2
  go_ret
  exact ⟨rfl, Below.refl _ _⟩
theorem standsSet (c : UInt8) (t : Bool) (rs : List (UInt8 × UInt8)) (v : Value) (B : Nat) (w : World) (h : ClosAt w B t rs v) (hl : rs.length ≤ 60) : Calls Tryz.prog 255 #[v, .int .u8 (c.toNat : Int)] w fun e w' => e = .returned (.bool (Pc.has c (.set t rs))) ∧ Below w.heap.size w w' := by
  obtain ⟨n1, n2, sv, rfl, h2, h3, h4, h5, h6⟩ := h
  have CA := Lib.hid (implHas t rs c n1 n2 B sv w h4 h5 h6 hl)
  generalize Pc.has c (.set t rs) = y at CA
  clear h4 h5 h6
  go_enter Tryz.func255, Tryz.ntmps255
  go_wp2_with fail
  refine CA.out.mono ?_
  rintro e W1 ⟨rfl, hb1⟩
  go_wp2
  go_ret
  exact ⟨rfl, hb1⟩
end Go.Proofs.YtipepbnmllbonaaGreatDoor
