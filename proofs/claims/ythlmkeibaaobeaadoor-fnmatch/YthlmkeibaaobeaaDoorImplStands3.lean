/- standsFor, of the three pieces. -/
import Derived.Test.YthlmkeibaaobeaaDoorImplStands2
namespace Go.Proofs.YthlmkeibaaobeaaDoor
open Go.RowKit

theorem implAny (c : UInt8) (w : World) : Calls Tryd.prog 44 #[.int .u8 (c.toNat : Int)] w fun e w' => e = .returned (.bool true) ∧ w = w' := by
  go_enter Tryd.func44, Tryd.ntmps44
  go_wp2
  go_ret
  exact ⟨rfl, rfl⟩
theorem standsSign (b c : UInt8) (w : World) : Calls Tryd.prog 94 #[.int .u8 (b.toNat : Int), .int .u8 (c.toNat : Int)] w fun e w' => e = .returned (.bool (Pc.has c (.sign b))) ∧ Below w.heap.size w w' := by
  have HV := Lib.hid (show Pc.has c (.sign b) = (c == b) from rfl)
  rw [HV.out]
  clear HV
  by_cases hcb : c.toNat = b.toNat
  · have d1 : ((c.toNat : Int) == (b.toNat : Int)) = true := byte_t hcb
    have HE := Lib.hid (show (c == b) = true by rw [u8_is hcb]; simp)
    rw [HE.out]
    clear hcb HE
    go_enter Tryd.func94, Tryd.ntmps94
    go_wp2
    go_ret
    exact ⟨ret_bool (by first | exact d1 | simp), Below.refl _ _⟩
  · have d1 : ((c.toNat : Int) == (b.toNat : Int)) = false := byte_f hcb
    have HE := Lib.hid (show (c == b) = false by simp; intro e; exact hcb (by rw [e]))
    rw [HE.out]
    clear hcb HE
    go_enter Tryd.func94, Tryd.ntmps94
    go_wp2
    go_ret
    exact ⟨ret_bool (by first | exact d1 | simp), Below.refl _ _⟩
theorem standsAny (c : UInt8) (w : World) : Calls Tryd.prog 95 #[.func (.func 44) #[] #[], .int .u8 (c.toNat : Int)] w fun e w' => e = .returned (.bool (Pc.has c .any)) ∧ Below w.heap.size w w' := by
  have CA := Lib.hid (fun W => implAny c W)
  go_enter Tryd.func95, Tryd.ntmps95
  go_wp2_with fail
  refine (CA.out _).mono ?_
  rintro e W1 ⟨rfl, rfl⟩
  go_wp2
  go_ret
  exact ⟨rfl, Below.refl _ _⟩
theorem standsSet (c : UInt8) (t : Bool) (rs : List (UInt8 × UInt8)) (v : Value) (B : Nat) (w : World) (h : ClosAt w B t rs v) (hl : rs.length ≤ 60) : Calls Tryd.prog 95 #[v, .int .u8 (c.toNat : Int)] w fun e w' => e = .returned (.bool (Pc.has c (.set t rs))) ∧ Below w.heap.size w w' := by
  obtain ⟨n1, n2, sv, rfl, h2, h3, h4, h5, h6⟩ := h
  have CA := Lib.hid (implHas t rs c n1 n2 B sv w h4 h5 h6 hl)
  generalize Pc.has c (.set t rs) = y at CA
  clear h4 h5 h6
  go_enter Tryd.func95, Tryd.ntmps95
  go_wp2_with fail
  refine CA.out.mono ?_
  rintro e W1 ⟨rfl, hb1⟩
  go_wp2
  go_ret
  exact ⟨rfl, hb1⟩
end Go.Proofs.YthlmkeibaaobeaaDoor
