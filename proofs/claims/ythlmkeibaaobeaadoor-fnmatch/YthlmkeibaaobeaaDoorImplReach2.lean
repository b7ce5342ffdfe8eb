/- impl.reachedBehind. -/
import Derived.Test.YthlmkeibaaobeaaDoorImplReach
namespace Go.Proofs.YthlmkeibaaobeaaDoor
open Go.RowKit

theorem BRow.on {W W' : World} {g n : Nat} {F : Nat → Bool} (h : BRow W g n F) (hb : Below W.heap.size W W') : BRow W' g n F := World.rowIs.of_block h (hb.block _ h.lt)

theorem as_star_star (W : World) : (Instr.typeAssert (.iface 57 (.agg #[])) 39 57 true).run Tryd.prog W = .ok (.tuple #[.agg #[], .bool true]) W := by kernel_rfl
theorem as_sign_star (x : Int) (W : World) : (Instr.typeAssert (.iface 59 (.int .u8 x)) 39 57 true).run Tryd.prog W = .ok (.tuple #[.agg #[], .bool false]) W := by kernel_rfl
theorem as_sign_sign (x : Int) (W : World) : (Instr.typeAssert (.iface 59 (.int .u8 x)) 39 59 true).run Tryd.prog W = .ok (.tuple #[.int .u8 x, .bool true]) W := by kernel_rfl
theorem as_sign_set (x : Int) (W : World) : (Instr.typeAssert (.iface 59 (.int .u8 x)) 39 61 true).run Tryd.prog W = .ok (.tuple #[.nilFunc, .bool false]) W := by kernel_rfl
theorem as_set_star (v : Value) (W : World) : (Instr.typeAssert (.iface 61 v) 39 57 true).run Tryd.prog W = .ok (.tuple #[.agg #[], .bool false]) W := by kernel_rfl
theorem as_set_sign (v : Value) (W : World) : (Instr.typeAssert (.iface 61 v) 39 59 true).run Tryd.prog W = .ok (.tuple #[.int .u8 0, .bool false]) W := by kernel_rfl
theorem as_set_set (v : Value) (W : World) : (Instr.typeAssert (.iface 61 v) 39 61 true).run Tryd.prog W = .ok (.tuple #[v, .bool true]) W := by kernel_rfl

set_option maxRecDepth 100000 in
set_option maxHeartbeats 4000000 in
theorem reachStar (q : ByteArray) (g : Nat) (F : Nat → Bool) (w : World) (hR : BRow w g (q.size + 1) F) (hq : q.size ≤ 900) :
    Calls Tryd.prog 21 #[.iface 57 (.agg #[]), .string q, .slice (some ⟨g, 0, none⟩) (q.size + 1) (q.size + 1)] w fun e w' => e = .returned (.slice (some ⟨w.heap.size, 0, none⟩) (q.size + 1) (q.size + 1)) ∧ BRow w' w.heap.size (q.size + 1) (stepF q.data.toList .star F) ∧ Below w.heap.size w w' := by
  have hmk := fun W => makeBools q.size (by omega) W
  have hqi : (q.size : Int) ≤ 900 := by omega
  have CI := Lib.hid (fun W (h : BRow W g (q.size + 1) F) => implIndexTrue g (q.size + 1) F W h (by omega))
  have HR := Lib.hid (fun o : Obj => hR.alloc o)
  have ha := as_star_star
  clear hR
  go_enter Tryd.func21, Tryd.ntmps21
  go_wp2_with fail
  refine (CI.out _ (HR.out _)).mono ?_
  rintro e W1 ⟨⟨x, rfl, hx⟩, rfl⟩
  have HX := Lib.hid (show ∀ k, k < q.size + 1 → starF F k = (decide (0 ≤ x) && decide (x ≤ (k : Int))) from fun k hk => by
    rcases hx with ⟨rfl, h⟩ | ⟨j, rfl, h1, h2, h3⟩
    · rw [starF_none h k hk]; rfl
    · rw [starF_first h2 h3 k]; simp)
  have hx1 : x ≤ 1000 := by rcases hx with ⟨rfl, h⟩ | ⟨j, rfl, h1, h2, h3⟩ <;> omega
  have hx2 : -1 ≤ x := by rcases hx with ⟨rfl, h⟩ | ⟨j, rfl, h1, h2, h3⟩ <;> omega
  clear hx CI HR
  go_wp2_with fail
  go_loopw [9, 22] (fun _ iv wr => ∃ k : Nat, iv = .int .i64 (k : Int) ∧ k ≤ q.size + 1 ∧ BRow wr w.heap.size (q.size + 1) (upto k (starF F)) ∧ Below w.heap.size w wr) (fun _ iv _ => q.size + 1 - (intOf iv).toNat)
  case atStart => exact ⟨0, rfl, Nat.zero_le _, BRow.made _ _ _, (Below.refl _ _).alloc (Nat.le_refl _) _⟩
  case round =>
    clear hmk
    obtain ⟨k, rfl, hk, hR2, hb⟩ := hrel
    have HR2 := Lib.hid hR2
    have HB := Lib.hid hb
    clear hR2 hb
    by_cases h1 : k < q.size + 1
    · have h1i : (k : Int) < (q.size : Int) + 1 := by omega
      have h0i : (0 : Int) ≤ (k : Int) := by omega
      obtain ⟨v0, hv0⟩ : ∃ v0, upto k (starF F) k = v0 := ⟨_, rfl⟩
      have hcn := HR2.out.cell (i := k) h1
      rw [hv0] at hcn
      have hfn := HR2.out.frozen k
      have HV := HX.out k h1
      clear hv0
      by_cases h2 : 0 ≤ x
      · rw [decide_eq_true h2] at HV
        by_cases h3 : x ≤ (k : Int)
        · have HV2 := Lib.hid (show true = starF F k by rw [HV, decide_eq_true h3]; rfl)
          clear HV
          go_wp2
          go_roundw
          case rel => exact ⟨k + 1, by go_num, by omega, HR2.out.put _ HV2.out, HB.out.setCell (Nat.le_refl _) _⟩
          case measure => simp [intOf]; omega
        · have HV2 := Lib.hid (show false = starF F k by rw [HV, decide_eq_false h3]; rfl)
          clear HV
          go_wp2
          go_roundw
          case rel => exact ⟨k + 1, by go_num, by omega, HR2.out.put _ HV2.out, HB.out.setCell (Nat.le_refl _) _⟩
          case measure => simp [intOf]; omega
      · have HV2 := Lib.hid (show false = starF F k by rw [HV, decide_eq_false h2]; rfl)
        clear HV
        go_wp2
        go_roundw
        case rel => exact ⟨k + 1, by go_num, by omega, HR2.out.put _ HV2.out, HB.out.setCell (Nat.le_refl _) _⟩
        case measure => simp [intOf]; omega
    · have h1i : ¬ (k : Int) < (q.size : Int) + 1 := by omega
      have hke : k = q.size + 1 := by omega
      have HF := Lib.hid (show BRow wr w.heap.size (q.size + 1) (stepF q.data.toList .star F) by have := HR2.out; rw [hke] at this; exact this.full)
      clear hke
      go_wp2
      go_ret
      exact ⟨rfl, HF.out, HB.out⟩
end Go.Proofs.YthlmkeibaaobeaaDoor
