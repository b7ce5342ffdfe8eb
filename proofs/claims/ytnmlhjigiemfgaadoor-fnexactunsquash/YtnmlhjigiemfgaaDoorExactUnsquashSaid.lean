/- Proved: laws.FnExactUnsquash answers true at every text: impl.Unsquash answers as spec.Unsquash does, though impl.Runs has the bytes sent to it by a goroutine; the argument reads as before. The listed tables of the standard library are tied to the text of the program; the card speaks of the pruned copy of the project that the seat holds. -/
import Derived.Test.YtnmlhjigiemfgaaDoorRows
import Derived.Test.YtnmlhjigiemfgaaDoorCards
import Derived.Test.YtnmlhjigiemfgaaDoorTie
import Derived.Test.YtnmlhjigiemfgaaDoorGoesCard
import Derived.Test.YtnmlhjigiemfgaaDoorExactUnsquash
import Derived.WalkKit
import Derived.ProofKit
import Derived.OpenShut
import Derived.ShutString
import Derived.ChangeOld
import Derived.Below
namespace Go.Proofs.YtnmlhjigiemfgaaDoor.fnExactUnsquash
open Go Go.ChangeShapes Go.WideShapes Go.ChangeAt Go.RowKit Go.Conc
open Go.ChangeMaps (open_string shut_string)

theorem own : ownKnob Tryd.prog.godebug = none := by kernel_rfl
theorem door_met (os : Os) (args : Array Value) : laidMetH Tryd.prog Rows.fnExactUnsquashRow.laid ((World.doorLaid Tryd.prog 400 os).forCall (fun _ _ => 0) ⟨#[], args, []⟩).memory :=
  laidMetH_of_parts3 (fuel := 8) (laidMet_of_run' 8 (by kernel_rfl) (by kernel_rfl)) (by kernel_rfl) (by kernel_rfl)

set_option maxRecDepth 100000 in
theorem lifted (os : Os) (started : os.Started) (H : Type) (enc : TypeId × Value → H) :
    ReturnsInLeavingWide {} Tryd.checked os 6 .any (fun w args => (Rows.fnExactUnsquashSpec.pre enc Tryd.prog Tryd.f6 [] false w args ∧ laidMetH Tryd.prog Rows.fnExactUnsquashRow.laid w) ∧ sizedMet enc Tryd.prog Tryd.f6 (OpenSpec.ofChange Rows.fnExactUnsquashSpec) false w args)
      (Rows.fnExactUnsquashSpec.post enc Tryd.prog Tryd.f6 false true false false) := by
  refine leaving_of_change_and (C := Tryd.checked) (X := fun w _ => laidMetH Tryd.prog Rows.fnExactUnsquashRow.laid w) (fun _ _ _ hh h => h.of_heap hh) own started Tryd.func6
    (ChangeSpec.witness_shaped (enc := enc) (C := Tryd.checked) (os := os) (X := fun w _ => laidMetH Tryd.prog Rows.fnExactUnsquashRow.laid w) false (World.doorLaid Tryd.prog 400 os) #[.string ByteArray.empty] 8 rfl (World.shaped_of_RefB (by kernel_rfl) (by kernel_rfl)) (by kernel_rfl) (by kernel_rfl) (by kernel_rfl) (door_met os _)) ?_
  intro W base args ds gs before hval0 hW hL
  have hval : ∀ (j : Nat) t v, Tryd.f6.params[j]? = some t → args[j]? = some v → Value.okWide Tryd.prog W .any base t v := hval0
  have hW' := hW
  obtain ⟨p, q, hA0, hV, rfl, hfz, hnd⟩ := hW
  have hA : DataW.TrodAll enc Tryd.prog W 0 (fun _ => true) true Tryd.f6.params.toList args.toList ds p := hA0
  rw [Tryd.params6] at hA hval
  obtain ⟨v0, vs0, d0, ds0, p0, q0, hargs, rfl, rfl, h0, r0⟩ := trodAll_cons hA
  obtain ⟨rfl, rfl, rfl⟩ := trodAll_nil r0
  obtain rfl : args = #[v0] := by cases args; simp_all
  obtain ⟨rfl, rfl⟩ := trodVars_none hV
  obtain ⟨a0, rfl, rfl, rfl, w0⟩ := open_string Tryd.underlying9 (hval 0 9 v0 rfl rfl) h0
  clear hA0 hval0
  simp only [List.append_nil] at hW'
  obtain ⟨M, last, o, w', t', r1, r2, r3, r4⟩ := exactUnsquash_run a0 W (tabs_of (by kernel_rfl) (by kernel_rfl) hL)
  refine ⟨M, last, o, w', t', r1, r2, r3, r4.mono fun v hF => ?_⟩
  obtain ⟨rfl, hg⟩ : PostR W v w' := hF
  have hfr : ∀ may, W.keptBut w' may := fun may => by
    refine ⟨hg.os, hg.output, fun i hi => ?_⟩
    rw [hg.block i hi]
    split <;> simp_all
  exact ⟨_, _, _, [], _, [], hW', (trodAll_cons_mk (shut_bool Tryd.underlying4 _) trodAll_mk0), (trodAll_cons_mk (shut_string Tryd.underlying9 w0) trodAll_mk0), rfl, hfr _, fun h => by cases h⟩

theorem over : Rows.fnExactUnsquashRow.holds Tryd.pinned (OpenSpec.ofChange Rows.fnExactUnsquashSpec) :=
  OpenClaim.holds_of_wide_leaving 6 Tryd.f6 rfl rfl rfl rfl rfl rfl rfl ⟨rfl, rfl, rfl, rfl, rfl⟩ rfl rfl rfl rfl rfl (by kernel_rfl) Tryd.func6 (by kernel_rfl)
    (of_decide_eq_true (by kernel_rfl)) (by unfold Func.isWrapper; first | (rw [if_pos (by decide +kernel)]; kernel_rfl) | (rw [if_neg (by decide +kernel)]; exact ⟨rfl, rfl⟩))
    (fun os started H enc _ => lifted os started H enc)
theorem proved : Rows.FnExactUnsquashSaid :=
  over
end Go.Proofs.YtnmlhjigiemfgaaDoor.fnExactUnsquash
namespace Go.Proofs.YtnmlhjigiemfgaaDoor
/-- ████ THE STATEMENT ████ -/
theorem fnExactUnsquash_card_holds : Rows.FnExactUnsquashCardSaid :=
  card_goes .later [.data, .data, .data] true Rows.fnExactUnsquashCard.stood.harness false
    fnExactUnsquash.proved (by kernel_rfl) fnExactUnsquash_row_tie rfl ⟨rfl, rfl⟩ (by kernel_rfl) rfl
    (fun f fn hf hfn => by
      obtain rfl : f = 6 := Option.some.inj ((show Tryd.prog.funcNamed "loop.example/g00704/laws.FnExactUnsquash" = some 6 by kernel_rfl).symm.trans hf) |>.symm
      obtain rfl : fn = Tryd.f6 := (Option.some.inj (Tryd.func6.symm.trans hfn)).symm
      exact ⟨by kernel_rfl, fun j t ht => by
        rw [Tryd.params6] at ht
        have hm : t ∈ [9] := by have hm0 := Array.mem_of_getElem? ht; simpa using hm0
        have hall : ([9].all fun u => !Tryd.prog.wantsStandIn u) = true := by kernel_rfl
        exact (show Tryd.prog.wantsStandIn t = false by simpa using List.all_eq_true.1 hall t hm)⟩)
    (by kernel_rfl)
end Go.Proofs.YtnmlhjigiemfgaaDoor
