/- impl.reachedBehind at a piece of one byte. -/
import Derived.Test.YthlmkeibaaobeaaDoorImplReach2
import Derived.Deep.RegionHeld3
import Derived.Deep.RegionWith
import Derived.Deep.DeepFit

namespace Go.Proofs.YthlmkeibaaobeaaDoor
open Go.RowKit
open Go.Instr

theorem nil_sign (x : Int) (W : World) : (nilAhead 219 59 (.int .u8 x) "loop.example/g00704/impl.standsFor").run Tryd.prog W = .ok (some false) W := by kernel_rfl
theorem nil_set (f : Fn) (a b : Array Value) (W : World) : (nilAhead 219 61 (.func f a b) "loop.example/g00704/impl.standsFor").run Tryd.prog W = .ok (some false) W := by kernel_rfl
theorem method_sign (x : Int) (W : World) : (method 219 59 (.int .u8 x) "loop.example/g00704/impl.standsFor").run Tryd.prog W = .ok (94, .int .u8 x) W := by kernel_rfl
theorem method_set (f : Fn) (a b : Array Value) (W : World) : (method 219 61 (.func f a b) "loop.example/g00704/impl.standsFor").run Tryd.prog W = .ok (95, .func f a b) W := by kernel_rfl


set_option maxRecDepth 100000 in
set_option maxHeartbeats 2000000 in
theorem reachSign (b : UInt8) (q : ByteArray) (g : Nat) (F : Nat → Bool) (w : World) (hR : BRow w g (q.size + 1) F) (hq : q.size ≤ 900) :
    Calls Tryd.prog 21 #[.iface 59 (.int .u8 (b.toNat : Int)), .string q, .slice (some ⟨g, 0, none⟩) (q.size + 1) (q.size + 1)] w fun e w' => e = .returned (.slice (some ⟨w.heap.size, 0, none⟩) (q.size + 1) (q.size + 1)) ∧ BRow w' w.heap.size (q.size + 1) (stepF q.data.toList (.sign b) F) ∧ Below w.heap.size w w' := by
  have hmk := fun W => makeBools q.size (by omega) W
  have hqi : (q.size : Int) ≤ 900 := by omega
  have ha1 := as_sign_star (b.toNat : Int)
  have ha2 := as_sign_sign (b.toNat : Int)
  have ha3 := as_sign_set (b.toNat : Int)
  have HR := Lib.hid hR
  have hgw := hR.lt
  clear hR
  go_enter Tryd.func21, Tryd.ntmps21
  go_wp2_with fail
  go_loopw [10, 45] (fun _ iv wr => ∃ k : Nat, iv = .int .i64 (k : Int) ∧ k ≤ q.size ∧ BRow wr w.heap.size (q.size + 1) (upto (k + 1) (stepF q.data.toList (.sign b) F)) ∧ Below w.heap.size w wr) (fun _ iv _ => q.size - (intOf iv).toNat)
  case atStart => exact ⟨0, rfl, Nat.zero_le _, (BRow.made _ _ _).skip rfl, (Below.refl _ _).alloc (Nat.le_refl _) _⟩
  case round =>
    clear hmk ha1 ha2 ha3
    obtain ⟨k, rfl, hk, hR2, hb⟩ := hrel
    have HR2 := Lib.hid hR2
    have HB := Lib.hid hb
    have hR1 := HR.out.on hb
    have hwsz := hb.size
    clear hR2 hb
    by_cases h1 : k < q.size
    · have h1i : (k : Int) < (q.size : Int) := by omega
      have h1j : (k : Int) < (q.size : Int) + 1 := by omega
      have h0i : (0 : Int) ≤ (k : Int) := by omega
      have h0j : (0 : Int) ≤ (k : Int) + 1 := by omega
      have h1k : (k : Int) + 1 < (q.size : Int) + 1 := by omega
      have hw : IntKind.i64.wrap ((k : Int) + 1) = (k : Int) + 1 := IntWalk.i64_in _ (by omega)
      obtain ⟨v0, hv0⟩ : ∃ v0, upto (k + 1) (stepF q.data.toList (.sign b) F) (k + 1) = v0 := ⟨_, rfl⟩
      have hcn := HR2.out.cell (i := k + 1) (by omega)
      rw [hv0] at hcn
      have hfn := HR2.out.frozen (k + 1)
      have hcm := hR1.cell (i := k) (by omega)
      have hA := at_byte q k h1
      obtain ⟨c, hc⟩ : ∃ c : UInt8, q[k] = c := ⟨_, rfl⟩
      rw [hc] at hA
      have HV := Lib.hid (show stepF q.data.toList (.sign b) F (k + 1) = (F k && Pc.has c (.sign b)) by rw [stepF_succ F k rfl, hasAt_some hA])
      have hne : g ≠ w.heap.size := by omega
      have hlt : w.heap.size < wr.heap.size := HR2.out.lt
      have hgl : g < wr.heap.size := by omega
      clear hv0 hR1 hA
      cases hF : F k with
      | false =>
        rw [hF] at hcm
        have HV2 := Lib.hid (show false = stepF q.data.toList (.sign b) F (k + 1) by rw [HV.out, hF]; rfl)
        clear hF HV
        go_wp2_with fail
        go_region
        go_wp2
        go_roundw
        case rel => exact ⟨k + 1, by go_num, by omega, (HR2.out.put _ HV2.out).drew, (HB.out.setCell (Nat.le_refl _) _).drew⟩
        case measure => simp [intOf]; omega
      | true =>
        rw [hF] at hcm
        have CS := Lib.hid (fun W => standsSign b c W)
        have HV2 := Lib.hid (show Pc.has c (.sign b) = stepF q.data.toList (.sign b) F (k + 1) by rw [HV.out, hF]; rfl)
        have hna := nil_sign (b.toNat : Int)
        have hme := method_sign (b.toNat : Int)
        generalize Pc.has c (.sign b) = y at CS HV2
        clear hF HV
        go_wp2_with fail
        go_region_held3 (fun w' => w'.cell? ⟨g, k, none⟩ = some (.bool true)) (first | go_keep | exact (hb2.cell (p := ⟨g, k, none⟩) hgl).trans (by assumption) | exact (World.cell?_of_block (w := W2) (Below.heap_setCell W2 _ _ _ hne)).trans (by assumption)) (first | (go_at_call 94; go_fit (CS.out _); rintro e W2 ⟨rfl, hb2⟩; (have hcn2 := (hb2.cell (p := ⟨w.heap.size, k + 1, none⟩) hlt).trans hcn); (have hfn2 := (hb2.frozen (p := ⟨w.heap.size, k + 1, none⟩) hlt).trans hfn)))
        all_goals (have HB2 := Lib.hid (HB.out.drew.trans (hb2.mono hwsz)); have HR3 := Lib.hid (HR2.out.drew.on hb2); clear hb2 hcn2 hfn2; go_wp2_with fail; go_roundw)
        all_goals first
          | exact ⟨k + 1, by go_num, by omega, HR3.out.put _ HV2.out, HB2.out.setCell (Nat.le_refl _) _⟩
          | (simp [intOf]; omega)
    · have h1i : ¬ (k : Int) < (q.size : Int) := by omega
      have hke : k = q.size := by omega
      have HF := Lib.hid (show BRow wr w.heap.size (q.size + 1) (stepF q.data.toList (.sign b) F) by have := HR2.out; rw [hke] at this; exact this.full)
      clear hke
      go_wp2
      go_ret
      exact ⟨rfl, HF.out, HB.out⟩
set_option maxRecDepth 100000 in
set_option maxHeartbeats 2000000 in
theorem reachSet (p : Pc) (hst : p.isStar = false) (f : Fn) (fa fb : Array Value) (q : ByteArray) (g : Nat) (F : Nat → Bool) (w : World) (hS : ∀ (c : UInt8) (W : World), Below w.heap.size w W → Calls Tryd.prog 95 #[.func f fa fb, .int .u8 (c.toNat : Int)] W fun e w' => e = .returned (.bool (p.has c)) ∧ Below W.heap.size W w') (hR : BRow w g (q.size + 1) F) (hq : q.size ≤ 900) :
    Calls Tryd.prog 21 #[.iface 61 (.func f fa fb), .string q, .slice (some ⟨g, 0, none⟩) (q.size + 1) (q.size + 1)] w fun e w' => e = .returned (.slice (some ⟨w.heap.size, 0, none⟩) (q.size + 1) (q.size + 1)) ∧ BRow w' w.heap.size (q.size + 1) (stepF q.data.toList p F) ∧ Below w.heap.size w w' := by
  have hmk := fun W => makeBools q.size (by omega) W
  have hqi : (q.size : Int) ≤ 900 := by omega
  have ha1 := as_set_star (.func f fa fb)
  have ha2 := as_set_sign (.func f fa fb)
  have ha3 := as_set_set (.func f fa fb)
  have CT := Lib.hid hS
  have HST := Lib.hid hst
  clear hS hst
  have HR := Lib.hid hR
  have hgw := hR.lt
  clear hR
  go_enter Tryd.func21, Tryd.ntmps21
  go_wp2_with fail
  go_loopw [10, 45] (fun _ iv wr => ∃ k : Nat, iv = .int .i64 (k : Int) ∧ k ≤ q.size ∧ BRow wr w.heap.size (q.size + 1) (upto (k + 1) (stepF q.data.toList p F)) ∧ Below w.heap.size w wr) (fun _ iv _ => q.size - (intOf iv).toNat)
  case atStart => exact ⟨0, rfl, Nat.zero_le _, (BRow.made _ _ _).skip (stepF_zero F HST.out), (Below.refl _ _).alloc (Nat.le_refl _) _⟩
  case round =>
    clear hmk ha1 ha2 ha3
    obtain ⟨k, rfl, hk, hR2, hb⟩ := hrel
    have HR2 := Lib.hid hR2
    have HB := Lib.hid hb
    have hR1 := HR.out.on hb
    have hwsz := hb.size
    clear hR2 hb
    by_cases h1 : k < q.size
    · have h1i : (k : Int) < (q.size : Int) := by omega
      have h1j : (k : Int) < (q.size : Int) + 1 := by omega
      have h0i : (0 : Int) ≤ (k : Int) := by omega
      have h0j : (0 : Int) ≤ (k : Int) + 1 := by omega
      have h1k : (k : Int) + 1 < (q.size : Int) + 1 := by omega
      have hw : IntKind.i64.wrap ((k : Int) + 1) = (k : Int) + 1 := IntWalk.i64_in _ (by omega)
      obtain ⟨v0, hv0⟩ : ∃ v0, upto (k + 1) (stepF q.data.toList p F) (k + 1) = v0 := ⟨_, rfl⟩
      have hcn := HR2.out.cell (i := k + 1) (by omega)
      rw [hv0] at hcn
      have hfn := HR2.out.frozen (k + 1)
      have hcm := hR1.cell (i := k) (by omega)
      have hA := at_byte q k h1
      obtain ⟨c, hc⟩ : ∃ c : UInt8, q[k] = c := ⟨_, rfl⟩
      rw [hc] at hA
      have HV := Lib.hid (show stepF q.data.toList p F (k + 1) = (F k && p.has c) by rw [stepF_succ F k HST.out, hasAt_some hA])
      have hne : g ≠ w.heap.size := by omega
      have hlt : w.heap.size < wr.heap.size := HR2.out.lt
      have hgl : g < wr.heap.size := by omega
      clear hv0 hR1 hA
      cases hF : F k with
      | false =>
        rw [hF] at hcm
        have HV2 := Lib.hid (show false = stepF q.data.toList p F (k + 1) by rw [HV.out, hF]; rfl)
        clear hF HV
        go_wp2_with fail
        go_region
        go_wp2
        go_roundw
        case rel => exact ⟨k + 1, by go_num, by omega, (HR2.out.put _ HV2.out).drew, (HB.out.setCell (Nat.le_refl _) _).drew⟩
        case measure => simp [intOf]; omega
      | true =>
        rw [hF] at hcm
        have CS := Lib.hid (CT.out c wr.drew HB.out.drew)
        have HV2 := Lib.hid (show p.has c = stepF q.data.toList p F (k + 1) by rw [HV.out, hF]; rfl)
        have hna := nil_set f fa fb
        have hme := method_set f fa fb
        generalize p.has c = y at CS HV2
        clear hF HV
        go_wp2_with fail
        go_region_held3 (fun w' => w'.cell? ⟨g, k, none⟩ = some (.bool true)) (first | go_keep | exact (hb2.cell (p := ⟨g, k, none⟩) hgl).trans (by assumption) | exact (World.cell?_of_block (w := W2) (Below.heap_setCell W2 _ _ _ hne)).trans (by assumption)) (first | (go_at_call 95; go_fit CS.out; rintro e W2 ⟨rfl, hb2⟩; (have hcn2 := (hb2.cell (p := ⟨w.heap.size, k + 1, none⟩) hlt).trans hcn); (have hfn2 := (hb2.frozen (p := ⟨w.heap.size, k + 1, none⟩) hlt).trans hfn)))
        all_goals (have HB2 := Lib.hid (HB.out.drew.trans (hb2.mono hwsz)); have HR3 := Lib.hid (HR2.out.drew.on hb2); clear hb2 hcn2 hfn2; go_wp2_with fail; go_roundw)
        all_goals first
          | exact ⟨k + 1, by go_num, by omega, HR3.out.put _ HV2.out, HB2.out.setCell (Nat.le_refl _) _⟩
          | (simp [intOf]; omega)
    · have h1i : ¬ (k : Int) < (q.size : Int) := by omega
      have hke : k = q.size := by omega
      have HF := Lib.hid (show BRow wr w.heap.size (q.size + 1) (stepF q.data.toList p F) by have := HR2.out; rw [hke] at this; exact this.full)
      clear hke
      go_wp2
      go_ret
      exact ⟨rfl, HF.out, HB.out⟩
end Go.Proofs.YthlmkeibaaobeaaDoor
