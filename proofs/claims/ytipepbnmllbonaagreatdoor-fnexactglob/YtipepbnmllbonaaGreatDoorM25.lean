/- impl.reachedBehind. impl.reachedBehind at a piece of one byte. -/
import Derived.Test.YtipepbnmllbonaaGreatDoorM24
import Derived.Deep.RegionHeld3
import Derived.Deep.RegionWith
import Derived.Deep.DeepFit
namespace Go.Proofs.YtipepbnmllbonaaGreatDoor
open Go.RowKit

theorem BRow.on {W W' : World} {g n : Nat} {F : Nat → Bool} (h : BRow W g n F) (hb : Below W.heap.size W W') : BRow W' g n F := World.rowIs.of_block h (hb.block _ h.lt)

theorem as_star_star (W : World) : (Instr.typeAssert (.iface 171 (.agg #[])) 138 171 true).run Tryz.prog W = .ok (.tuple #[.agg #[], .bool true]) W := by kernel_rfl
theorem as_sign_star (x : Int) (W : World) : (Instr.typeAssert (.iface 173 (.int .u8 x)) 138 171 true).run Tryz.prog W = .ok (.tuple #[.agg #[], .bool false]) W := by kernel_rfl
theorem as_sign_sign (x : Int) (W : World) : (Instr.typeAssert (.iface 173 (.int .u8 x)) 138 173 true).run Tryz.prog W = .ok (.tuple #[.int .u8 x, .bool true]) W := by kernel_rfl
theorem as_sign_set (x : Int) (W : World) : (Instr.typeAssert (.iface 173 (.int .u8 x)) 138 175 true).run Tryz.prog W = .ok (.tuple #[.nilFunc, .bool false]) W := by kernel_rfl
theorem as_set_star (v : Value) (W : World) : (Instr.typeAssert (.iface 175 v) 138 171 true).run Tryz.prog W = .ok (.tuple #[.agg #[], .bool false]) W := by kernel_rfl
theorem as_set_sign (v : Value) (W : World) : (Instr.typeAssert (.iface 175 v) 138 173 true).run Tryz.prog W = .ok (.tuple #[.int .u8 0, .bool false]) W := by kernel_rfl
theorem as_set_set (v : Value) (W : World) : (Instr.typeAssert (.iface 175 v) 138 175 true).run Tryz.prog W = .ok (.tuple #[v, .bool true]) W := by kernel_rfl

set_option maxRecDepth 100000 in
set_option maxHeartbeats 4000000 in
theorem reachStar (q : ByteArray) (g : Nat) (F : Nat → Bool) (w : World) (hR : BRow w g (q.size + 1) F) (hq : q.size ≤ 900) :
    Calls Tryz.prog 121 #[.iface 171 (.agg #[]), .string q, .slice (some ⟨g, 0, none⟩) (q.size + 1) (q.size + 1)] w fun e w' => e = .returned (.slice (some ⟨w.heap.size, 0, none⟩) (q.size + 1) (q.size + 1)) ∧ BRow w' w.heap.size (q.size + 1) (stepF q.data.toList .star F) ∧ Below w.heap.size w w' := by
  have hmk := fun W => makeBools q.size (by omega) W
  have hqi : (q.size : Int) ≤ 900 := by omega
  have CI := Lib.hid (fun W (h : BRow W g (q.size + 1) F) => implIndexTrue g (q.size + 1) F W h (by omega))
  have HR := Lib.hid (fun o : Obj => hR.alloc o)
  have ha := as_star_star
  clear hR
  go_enter Tryz.func121, Tryz.ntmps121
  go_wp2_with fail
  refine (CI.out _ (HR.out _)).mono ?_
  rintro e W1 ⟨⟨x, rfl, hx⟩, rfl⟩
  have HX := Lib.hid (show ∀ k, k < q.size + 1 → starF F k = (decide (0 ≤ x) && decide (x ≤ (k : Int))) from fun k hk => by
    rcases hx with ⟨rfl, h⟩ | ⟨j, rfl, h1, h2, h3⟩
    · rw [starF_none h k hk]; rfl
    · rw [starF_first h2 h3 k]; simp)
  have hx1 : x ≤ 1000 := by rcases hx with ⟨rfl, h⟩ | ⟨j, rfl, h1, h2, h3⟩ <;> omega
  have hx2 : -1 ≤ x := by rcases hx with ⟨rfl, h⟩ | ⟨j, rfl, h1, h2, h3⟩ <;> omega
  clear hx CI HR
  go_wp2_with fail
  go_loopw [9, 22] (fun _ iv wr => ∃ k : Nat, iv = .int .i64 (k : Int) ∧ k ≤ q.size + 1 ∧ BRow wr w.heap.size (q.size + 1) (upto k (starF F)) ∧ Below w.heap.size w wr) (fun _ iv _ => q.size + 1 - (intOf iv).toNat)
  case atStart => exact ⟨0, rfl, Nat.zero_le _, BRow.made _ _ _, (Below.refl _ _).alloc (Nat.le_refl _) _⟩
  case round =>
    clear hmk
    obtain ⟨k, rfl, hk, hR2, hb⟩ := hrel
    have HR2 := Lib.hid hR2
    have HB := Lib.hid hb
    clear hR2 hb
    by_cases h1 : k < q.size + 1
    · have h1i : (k : Int) < (q.size : Int) + 1 := by omega
      have h0i : (0 : Int) ≤ (k : Int) := by omega
      obtain ⟨v0, hv0⟩ : ∃ v0, upto k (starF F) k = v0 := ⟨_, rfl⟩
      have hcn := HR2.out.cell (i := k) h1
      rw [hv0] at hcn
      have hfn := HR2.out.frozen k
      have HV := HX.out k h1
      clear hv0
      by_cases h2 : 0 ≤ x
      · rw [decide_eq_true h2] at HV
        by_cases h3 : x ≤ (k : Int)
        · have HV2 := Lib.hid (show true = starF F k by rw [HV, decide_eq_true h3]; rfl)
          clear HV
          go_wp2
          go_roundw
          case rel => exact ⟨k + 1, by go_num, by omega, HR2.out.put _ HV2.out, HB.out.setCell (Nat.le_refl _) _⟩
          case measure => simp [intOf]; omega
        · have HV2 := Lib.hid (show false = starF F k by rw [HV, decide_eq_false h3]; rfl)
          clear HV
          go_wp2
          go_roundw
          case rel => exact ⟨k + 1, by go_num, by omega, HR2.out.put _ HV2.out, HB.out.setCell (Nat.le_refl _) _⟩
          case measure => simp [intOf]; omega
      · have HV2 := Lib.hid (show false = starF F k by rw [HV, decide_eq_false h2]; rfl)
        clear HV
        go_wp2
        go_roundw
        case rel => exact ⟨k + 1, by go_num, by omega, HR2.out.put _ HV2.out, HB.out.setCell (Nat.le_refl _) _⟩
        case measure => simp [intOf]; omega
    · have h1i : ¬ (k : Int) < (q.size : Int) + 1 := by omega
      have hke : k = q.size + 1 := by omega
      have HF := Lib.hid (show BRow wr w.heap.size (q.size + 1) (stepF q.data.toList .star F) by have := HR2.out; rw [hke] at this; exact this.full)
      clear hke
      go_wp2
      go_ret
      exact ⟨rfl, HF.out, HB.out⟩
end Go.Proofs.YtipepbnmllbonaaGreatDoor
namespace Go.Proofs.YtipepbnmllbonaaGreatDoor
open Go.RowKit
open Go.Instr

theorem nil_sign (x : Int) (W : World) : (nilAhead 365 173 (.int .u8 x) "loop.example/g00704/impl.standsFor").run Tryz.prog W = .ok (some false) W := by kernel_rfl
theorem nil_set (f : Fn) (a b : Array Value) (W : World) : (nilAhead 365 175 (.func f a b) "loop.example/g00704/impl.standsFor").run Tryz.prog W = .ok (some false) W := by kernel_rfl
theorem method_sign (x : Int) (W : World) : (method 365 173 (.int .u8 x) "loop.example/g00704/impl.standsFor").run Tryz.prog W = .ok (254, .int .u8 x) W := by kernel_rfl
theorem method_set (f : Fn) (a b : Array Value) (W : World) : (method 365 175 (.func f a b) "loop.example/g00704/impl.standsFor").run Tryz.prog W = .ok (255, .func f a b) W := by kernel_rfl


set_option maxRecDepth 100000 in
set_option maxHeartbeats 2000000 in
theorem reachSign (b : UInt8) (q : ByteArray) (g : Nat) (F : Nat → Bool) (w : World) (hR : BRow w g (q.size + 1) F) (hq : q.size ≤ 900) :
    Calls Tryz.prog 121 #[.iface 173 (.int .u8 (b.toNat : Int)), .string q, .slice (some ⟨g, 0, none⟩) (q.size + 1) (q.size + 1)] w fun e w' => e = .returned (.slice (some ⟨w.heap.size, 0, none⟩) (q.size + 1) (q.size + 1)) ∧ BRow w' w.heap.size (q.size + 1) (stepF q.data.toList (.sign b) F) ∧ Below w.heap.size w w' := by
  have hmk := fun W => makeBools q.size (by omega) W
  have hqi : (q.size : Int) ≤ 900 := by omega
  have ha1 := as_sign_star (b.toNat : Int)
  have ha2 := as_sign_sign (b.toNat : Int)
  have ha3 := as_sign_set (b.toNat : Int)
  have HR := Lib.hid hR
  have hgw := hR.lt
  clear hR
  go_enter Tryz.func121, Tryz.ntmps121
  go_wp2_with fail
  go_loopw [10, 45] (fun _ iv wr => ∃ k : Nat, iv = .int .i64 (k : Int) ∧ k ≤ q.size ∧ BRow wr w.heap.size (q.size + 1) (upto (k + 1) (stepF q.data.toList (.sign b) F)) ∧ Below w.heap.size w wr) (fun _ iv _ => q.size - (intOf iv).toNat)
  case atStart => exact ⟨0, rfl, Nat.zero_le _, (BRow.made _ _ _).skip rfl, (Below.refl _ _).alloc (Nat.le_refl _) _⟩
  case round =>
    clear hmk ha1 ha2 ha3
    obtain ⟨k, rfl, hk, hR2, hb⟩ := hrel
    have HR2 := Lib.hid hR2
    have HB := Lib.hid hb
    have hR1 := HR.out.on hb
    have hwsz := hb.size
    clear hR2 hb
    by_cases h1 : k < q.size
    · have h1i : (k : Int) < (q.size : Int) := by omega
      have h1j : (k : Int) < (q.size : Int) + 1 := by omega
      have h0i : (0 : Int) ≤ (k : Int) := by omega
      have h0j : (0 : Int) ≤ (k : Int) + 1 := by omega
      have h1k : (k : Int) + 1 < (q.size : Int) + 1 := by omega
      have hw : IntKind.i64.wrap ((k : Int) + 1) = (k : Int) + 1 := IntWalk.i64_in _ (by omega)
      obtain ⟨v0, hv0⟩ : ∃ v0, upto (k + 1) (stepF q.data.toList (.sign b) F) (k + 1) = v0 := ⟨_, rfl⟩
      have hcn := HR2.out.cell (i := k + 1) (by omega)
      rw [hv0] at hcn
      have hfn := HR2.out.frozen (k + 1)
      have hcm := hR1.cell (i := k) (by omega)
      have hA := at_byte q k h1
      obtain ⟨c, hc⟩ : ∃ c : UInt8, q[k] = c := ⟨_, rfl⟩
      rw [hc] at hA
      have HV := Lib.hid (show stepF q.data.toList (.sign b) F (k + 1) = (F k && Pc.has c (.sign b)) by rw [stepF_succ F k rfl, hasAt_some hA])
      have hne : g ≠ w.heap.size := by omega
      have hlt : w.heap.size < wr.heap.size := HR2.out.lt
      have hgl : g < wr.heap.size := by omega
      clear hv0 hR1 hA
      cases hF : F k with
      | false =>
        rw [hF] at hcm
        have HV2 := Lib.hid (show false = stepF q.data.toList (.sign b) F (k + 1) by rw [HV.out, hF]; rfl)
        clear hF HV
        go_wp2_with fail
        go_region
        go_wp2
        go_roundw
        case rel => exact ⟨k + 1, by go_num, by omega, (HR2.out.put _ HV2.out).drew, (HB.out.setCell (Nat.le_refl _) _).drew⟩
        case measure => simp [intOf]; omega
      | true =>
        rw [hF] at hcm
        have CS := Lib.hid (fun W => standsSign b c W)
        have HV2 := Lib.hid (show Pc.has c (.sign b) = stepF q.data.toList (.sign b) F (k + 1) by rw [HV.out, hF]; rfl)
        have hna := nil_sign (b.toNat : Int)
        have hme := method_sign (b.toNat : Int)
        generalize Pc.has c (.sign b) = y at CS HV2
        clear hF HV
        go_wp2_with fail
        go_region_held3 (fun w' => w'.cell? ⟨g, k, none⟩ = some (.bool true)) (first | go_keep | exact (hb2.cell (p := ⟨g, k, none⟩) hgl).trans (by assumption) | exact (World.cell?_of_block (w := W2) (Below.heap_setCell W2 _ _ _ hne)).trans (by assumption)) (first | (go_at_call 254; go_fit (CS.out _); rintro e W2 ⟨rfl, hb2⟩; (have hcn2 := (hb2.cell (p := ⟨w.heap.size, k + 1, none⟩) hlt).trans hcn); (have hfn2 := (hb2.frozen (p := ⟨w.heap.size, k + 1, none⟩) hlt).trans hfn)))
        all_goals (have HB2 := Lib.hid (HB.out.drew.trans (hb2.mono hwsz)); have HR3 := Lib.hid (HR2.out.drew.on hb2); clear hb2 hcn2 hfn2; go_wp2_with fail; go_roundw)
        all_goals first
          | exact ⟨k + 1, by go_num, by omega, HR3.out.put _ HV2.out, HB2.out.setCell (Nat.le_refl _) _⟩
          | (simp [intOf]; omega)
    · have h1i : ¬ (k : Int) < (q.size : Int) := by omega
      have hke : k = q.size := by omega
      have HF := Lib.hid (show BRow wr w.heap.size (q.size + 1) (stepF q.data.toList (.sign b) F) by have := HR2.out; rw [hke] at this; exact this.full)
      clear hke
      go_wp2
      go_ret
      exact ⟨rfl, HF.out, HB.out⟩
set_option maxRecDepth 100000 in
set_option maxHeartbeats 2000000 in
theorem reachSet (p : Pc) (hst : p.isStar = false) (f : Fn) (fa fb : Array Value) (q : ByteArray) (g : Nat) (F : Nat → Bool) (w : World) (hS : ∀ (c : UInt8) (W : World), Below w.heap.size w W → Calls Tryz.prog 255 #[.func f fa fb, .int .u8 (c.toNat : Int)] W fun e w' => e = .returned (.bool (p.has c)) ∧ Below W.heap.size W w') (hR : BRow w g (q.size + 1) F) (hq : q.size ≤ 900) :
    Calls Tryz.prog 121 #[.iface 175 (.func f fa fb), .string q, .slice (some ⟨g, 0, none⟩) (q.size + 1) (q.size + 1)] w fun e w' => e = .returned (.slice (some ⟨w.heap.size, 0, none⟩) (q.size + 1) (q.size + 1)) ∧ BRow w' w.heap.size (q.size + 1) (stepF q.data.toList p F) ∧ Below w.heap.size w w' := by
  have hmk := fun W => makeBools q.size (by omega) W
  have hqi : (q.size : Int) ≤ 900 := by omega
  have ha1 := as_set_star (.func f fa fb)
  have ha2 := as_set_sign (.func f fa fb)
  have ha3 := as_set_set (.func f fa fb)
  have CT := Lib.hid hS
  have HST := Lib.hid hst
  clear hS hst
  have HR := Lib.hid hR
  have hgw := hR.lt
  clear hR
  go_enter Tryz.func121, Tryz.ntmps121
  go_wp2_with fail
  go_loopw [10, 45] (fun _ iv wr => ∃ k : Nat, iv = .int .i64 (k : Int) ∧ k ≤ q.size ∧ BRow wr w.heap.size (q.size + 1) (upto (k + 1) (stepF q.data.toList p F)) ∧ Below w.heap.size w wr) (fun _ iv _ => q.size - (intOf iv).toNat)
  case atStart => exact ⟨0, rfl, Nat.zero_le _, (BRow.made _ _ _).skip (stepF_zero F HST.out), (Below.refl _ _).alloc (Nat.le_refl _) _⟩
  case round =>
    clear hmk ha1 ha2 ha3
    obtain ⟨k, rfl, hk, hR2, hb⟩ := hrel
    have HR2 := Lib.hid hR2
    have HB := Lib.hid hb
    have hR1 := HR.out.on hb
    have hwsz := hb.size
    clear hR2 hb
    by_cases h1 : k < q.size
    · have h1i : (k : Int) < (q.size : Int) := by omega
      have h1j : (k : Int) < (q.size : Int) + 1 := by omega
      have h0i : (0 : Int) ≤ (k : Int) := by omega
      have h0j : (0 : Int) ≤ (k : Int) + 1 := by omega
      have h1k : (k : Int) + 1 < (q.size : Int) + 1 := by omega
      have hw : IntKind.i64.wrap ((k : Int) + 1) = (k : Int) + 1 := IntWalk.i64_in _ (by omega)
      obtain ⟨v0, hv0⟩ : ∃ v0, upto (k + 1) (stepF q.data.toList p F) (k + 1) = v0 := ⟨_, rfl⟩
      have hcn := HR2.out.cell (i := k + 1) (by omega)
      rw [hv0] at hcn
      have hfn := HR2.out.frozen (k + 1)
      have hcm := hR1.cell (i := k) (by omega)
      have hA := at_byte q k h1
      obtain ⟨c, hc⟩ : ∃ c : UInt8, q[k] = c := ⟨_, rfl⟩
      rw [hc] at hA
      have HV := Lib.hid (show stepF q.data.toList p F (k + 1) = (F k && p.has c) by rw [stepF_succ F k HST.out, hasAt_some hA])
      have hne : g ≠ w.heap.size := by omega
      have hlt : w.heap.size < wr.heap.size := HR2.out.lt
      have hgl : g < wr.heap.size := by omega
      clear hv0 hR1 hA
      cases hF : F k with
      | false =>
        rw [hF] at hcm
        have HV2 := Lib.hid (show false = stepF q.data.toList p F (k + 1) by rw [HV.out, hF]; rfl)
        clear hF HV
        go_wp2_with fail
        go_region
        go_wp2
        go_roundw
        case rel => exact ⟨k + 1, by go_num, by omega, (HR2.out.put _ HV2.out).drew, (HB.out.setCell (Nat.le_refl _) _).drew⟩
        case measure => simp [intOf]; omega
      | true =>
        rw [hF] at hcm
        have CS := Lib.hid (CT.out c wr.drew HB.out.drew)
        have HV2 := Lib.hid (show p.has c = stepF q.data.toList p F (k + 1) by rw [HV.out, hF]; rfl)
        have hna := nil_set f fa fb
        have hme := method_set f fa fb
        generalize p.has c = y at CS HV2
        clear hF HV
        go_wp2_with fail
        go_region_held3 (fun w' => w'.cell? ⟨g, k, none⟩ = some (.bool true)) (first | go_keep | exact (hb2.cell (p := ⟨g, k, none⟩) hgl).trans (by assumption) | exact (World.cell?_of_block (w := W2) (Below.heap_setCell W2 _ _ _ hne)).trans (by assumption)) (first | (go_at_call 255; go_fit CS.out; rintro e W2 ⟨rfl, hb2⟩; (have hcn2 := (hb2.cell (p := ⟨w.heap.size, k + 1, none⟩) hlt).trans hcn); (have hfn2 := (hb2.frozen (p := ⟨w.heap.size, k + 1, none⟩) hlt).trans hfn)))
        all_goals (have HB2 := Lib.hid (HB.out.drew.trans (hb2.mono hwsz)); have HR3 := Lib.hid (HR2.out.drew.on hb2); clear hb2 hcn2 hfn2; go_wp2_with fail; go_roundw)
        all_goals first
          | exact ⟨k + 1, by go_num, by omega, HR3.out.put _ HV2.out, HB2.out.setCell (Nat.le_refl _) _⟩
          | (simp [intOf]; omega)
    · have h1i : ¬ (k : Int) < (q.size : Int) := by omega
      have hke : k = q.size := by omega
      have HF := Lib.hid (show BRow wr w.heap.size (q.size + 1) (stepF q.data.toList p F) by have := HR2.out; rw [hke] at this; exact this.full)
      clear hke
      go_wp2
      go_ret
      exact ⟨rfl, HF.out, HB.out⟩
end Go.Proofs.YtipepbnmllbonaaGreatDoor
