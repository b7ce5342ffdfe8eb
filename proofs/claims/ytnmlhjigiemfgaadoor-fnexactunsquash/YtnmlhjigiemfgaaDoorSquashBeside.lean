/- impl.Squash, beside leavers. -/
import Derived.Test.YtnmlhjigiemfgaaDoorSmallHead
import Derived.Test.YtnmlhjigiemfgaaDoorSpreadBeside
namespace Go.Proofs.YtnmlhjigiemfgaaDoor
open Go Go.Conc Go.RowKit

theorem plain_exec {o : Oper} {a : Act} {w : World} (h : okOper [] o = true) : ∀ e ∈ (execOp a.eval o).events Tryd.prog w #[], Plain e :=
  (tame_runT _ (execOp_tame (L := []) ⟨by simp, no_init (by kernel_rfl)⟩ (fun f => rfl) h) w #[] (by simp)).plain

noncomputable def bodyQ : Code := Tryd.f9.body.getD .skip
noncomputable def oQ : Array Oper := match bodyQ with | .seq _ (.seq _ (.seq (.region _ ops _) _)) => ops | _ => #[]
noncomputable def TQ : Code := match bodyQ with | .seq _ (.seq _ (.seq _ r)) => r | _ => .skip
noncomputable def frQ1 (s : ByteArray) : Frame := (base 9).at ⟨#[.string s, undef, .string ⟨#[]⟩, .string s, .int .i64 s.size, .bool false, .string s, undef, undef, undef, undef], []⟩ [.inRegion oQ [1, 2, 3, 4, 5], .code TQ]
noncomputable def frQ2 (s : ByteArray) (h : List UInt8) : Frame := (base 9).at ⟨#[.string s, undef, .string ⟨#[]⟩, .string s, .int .i64 s.size, .bool false, .string s, .string (strOf h), .string s, undef, undef], []⟩ [.inRegion oQ [3, 4, 5], .code TQ]

section
variable (W : World) (s : ByteArray) (fr : Frame) (cs : List Frame)
set_option maxRecDepth 100000 in
theorem squash0 (hl : ¬ s.size ≤ 3000) (w : World) (hF : Grew W w) :
    Goes Tryd.prog true R0 D1 (fun g w => g = G (fr.finish (.string ⟨#[]⟩)) cs ∧ Grew W w) 60 (G (Frame.enter Tryd.prog 9 #[.string s] .normal) (fr :: cs)) w := by
  have e : Frame.enter Tryd.prog 9 #[.string s] .normal = (base 9).at ⟨#[.string s, undef, undef, undef, undef, undef, undef, undef, undef, undef, undef], []⟩ [.code bodyQ] := by
    simp [Frame.enter, Frame.at, Tryd.func9, base, bodyQ, Tryd.f9]
  rw [e]
  have hlen := events_len_string s
  have hi : (3000 : Int) < (s.size : Int) := by omega
  simp only [bodyQ, Tryd.f9, Option.getD_some]
  repeat (refine Goes.step rfl (fun _ h₁ => ?_); replace hF := hF.r0 h₁; clear h₁; (first | own_rw | (rw [stepG_ret']; simp only [goes_go])); refine ⟨⟨rfl, by simp⟩, ?_⟩)
  (refine Goes.step rfl (fun w₁ h₁ => ?_); replace hF := hF.r0 h₁; clear h₁; refine goes_oper_k rfl rfl (by decide) (fun K hK => ?_); go_simp; refine hK _ _ ⟨⟨rfl, fun e he => ?_⟩, ?_⟩; (have hm := mem_listed he; simp [go_sem, *] at hm); clear hK K)
  repeat (refine Goes.step rfl (fun _ h₁ => ?_); replace hF := hF.r0 h₁; clear h₁; (first | own_rw | (rw [stepG_ret']; simp only [goes_go])); refine ⟨⟨rfl, by simp⟩, ?_⟩)
  (refine Goes.step rfl (fun w₁ h₁ => ?_); replace hF := hF.r0 h₁; clear h₁; refine goes_oper_k rfl rfl (by decide) (fun K hK => ?_); go_simp; refine hK _ _ ⟨⟨rfl, fun e he => ?_⟩, ?_⟩; (have hm := mem_listed he; simp [go_sem, *] at hm); clear hK K)
  (refine Goes.step rfl (fun w₁ h₁ => ?_); replace hF := hF.r0 h₁; clear h₁; refine goes_oper_k rfl rfl (by decide) (fun K hK => ?_); go_simp; refine hK _ _ ⟨⟨rfl, fun e he => ?_⟩, ?_⟩; (have hm := mem_listed he; simp [go_sem, *] at hm); clear hK K)
  (refine Goes.step rfl (fun w₁ h₁ => ?_); replace hF := hF.r0 h₁; clear h₁; refine goes_oper_k rfl rfl (by decide) (fun K hK => ?_); go_simp; refine hK _ _ ⟨⟨rfl, fun e he => ?_⟩, ?_⟩; (have hm := mem_listed he; simp [go_sem, *] at hm); clear hK K)
  repeat (refine Goes.step rfl (fun _ h₁ => ?_); replace hF := hF.r0 h₁; clear h₁; (first | own_rw | (rw [stepG_ret']; simp only [goes_go])); refine ⟨⟨rfl, by simp⟩, ?_⟩)
  (refine Goes.step rfl (fun _ h₁ => ?_); replace hF := hF.r0 h₁; clear h₁; rw [stepG_cond (t := true) rfl]; simp only [goes_go, if_true, if_false, Bool.false_eq_true, ↓reduceIte]; refine ⟨⟨rfl, by simp⟩, ?_⟩)
  repeat (refine Goes.step rfl (fun _ h₁ => ?_); replace hF := hF.r0 h₁; clear h₁; (first | own_rw | (rw [stepG_ret']; simp only [goes_go])); refine ⟨⟨rfl, by simp⟩, ?_⟩)
  (refine Goes.step rfl (fun w₁ h₁ => ?_); replace hF := hF.r0 h₁; clear h₁; refine goes_oper_k rfl rfl (by decide) (fun K hK => ?_); go_simp; refine hK _ _ ⟨⟨rfl, fun e he => ?_⟩, ?_⟩; (have hm := mem_listed he; simp [go_sem, *] at hm); clear hK K)
  repeat (refine Goes.step rfl (fun _ h₁ => ?_); replace hF := hF.r0 h₁; clear h₁; (first | own_rw | (rw [stepG_ret']; simp only [goes_go])); refine ⟨⟨rfl, by simp⟩, ?_⟩)
  (refine Goes.step rfl (fun w₁ h₁ => ?_); replace hF := hF.r0 h₁; clear h₁; refine goes_leaveF rfl rfl Tryd.func9 (resultsC_tmp (by rfl) _) ⟨⟨rfl, by simp⟩, ?_⟩; refine Goes.stop fun w₂ h₂ => ?_; replace hF := hF.r0 h₂; clear h₂)
  exact ⟨rfl, hF⟩
set_option maxRecDepth 100000 in
theorem squash1 (hl : s.size ≤ 3000) (w : World) (hF : Grew W w) :
    Goes Tryd.prog true R0 D1 (fun g w => g = G (Frame.enter Tryd.prog 23 #[.string s] .normal) (frQ1 s :: fr :: cs) ∧ Grew W w) 60 (G (Frame.enter Tryd.prog 9 #[.string s] .normal) (fr :: cs)) w := by
  have e : Frame.enter Tryd.prog 9 #[.string s] .normal = (base 9).at ⟨#[.string s, undef, undef, undef, undef, undef, undef, undef, undef, undef, undef], []⟩ [.code bodyQ] := by
    simp [Frame.enter, Frame.at, Tryd.func9, base, bodyQ, Tryd.f9]
  rw [e]
  have hlen := events_len_string s
  have hi : ¬ (3000 : Int) < (s.size : Int) := by omega
  simp only [frQ1, oQ, TQ, bodyQ, Tryd.f9, Option.getD_some]
  repeat (refine Goes.step rfl (fun _ h₁ => ?_); replace hF := hF.r0 h₁; clear h₁; (first | own_rw | (rw [stepG_ret']; simp only [goes_go])); refine ⟨⟨rfl, by simp⟩, ?_⟩)
  (refine Goes.step rfl (fun w₁ h₁ => ?_); replace hF := hF.r0 h₁; clear h₁; refine goes_oper_k rfl rfl (by decide) (fun K hK => ?_); go_simp; refine hK _ _ ⟨⟨rfl, fun e he => ?_⟩, ?_⟩; (have hm := mem_listed he; simp [go_sem, *] at hm); clear hK K)
  repeat (refine Goes.step rfl (fun _ h₁ => ?_); replace hF := hF.r0 h₁; clear h₁; (first | own_rw | (rw [stepG_ret']; simp only [goes_go])); refine ⟨⟨rfl, by simp⟩, ?_⟩)
  (refine Goes.step rfl (fun w₁ h₁ => ?_); replace hF := hF.r0 h₁; clear h₁; refine goes_oper_k rfl rfl (by decide) (fun K hK => ?_); go_simp; refine hK _ _ ⟨⟨rfl, fun e he => ?_⟩, ?_⟩; (have hm := mem_listed he; simp [go_sem, *] at hm); clear hK K)
  (refine Goes.step rfl (fun w₁ h₁ => ?_); replace hF := hF.r0 h₁; clear h₁; refine goes_oper_k rfl rfl (by decide) (fun K hK => ?_); go_simp; refine hK _ _ ⟨⟨rfl, fun e he => ?_⟩, ?_⟩; (have hm := mem_listed he; simp [go_sem, *] at hm); clear hK K)
  (refine Goes.step rfl (fun w₁ h₁ => ?_); replace hF := hF.r0 h₁; clear h₁; refine goes_oper_k rfl rfl (by decide) (fun K hK => ?_); go_simp; refine hK _ _ ⟨⟨rfl, fun e he => ?_⟩, ?_⟩; (have hm := mem_listed he; simp [go_sem, *] at hm); clear hK K)
  repeat (refine Goes.step rfl (fun _ h₁ => ?_); replace hF := hF.r0 h₁; clear h₁; (first | own_rw | (rw [stepG_ret']; simp only [goes_go])); refine ⟨⟨rfl, by simp⟩, ?_⟩)
  (refine Goes.step rfl (fun _ h₁ => ?_); replace hF := hF.r0 h₁; clear h₁; rw [stepG_cond (t := false) rfl]; simp only [goes_go, if_true, if_false, Bool.false_eq_true, ↓reduceIte]; refine ⟨⟨rfl, by simp⟩, ?_⟩)
  repeat (refine Goes.step rfl (fun _ h₁ => ?_); replace hF := hF.r0 h₁; clear h₁; (first | own_rw | (rw [stepG_ret']; simp only [goes_go])); refine ⟨⟨rfl, by simp⟩, ?_⟩)
  (refine Goes.step rfl (fun w₁ h₁ => ?_); replace hF := hF.r0 h₁; clear h₁; refine goes_oper_k rfl rfl (by decide) (fun K hK => ?_); go_simp; refine hK _ _ ⟨⟨rfl, fun e he => ?_⟩, ?_⟩; (have hm := mem_listed he; simp [go_sem, *] at hm); clear hK K)
  (refine Goes.step rfl (fun w₁ h₁ => ?_); replace hF := hF.r0 h₁; clear h₁; refine goes_enterF (f := 23) rfl rfl (by decide) rfl Tryd.func23 (by rfl) rfl ⟨⟨rfl, by simp⟩, ?_⟩; walk_nrm; refine Goes.stop fun w₂ h₂ => ?_; replace hF := hF.r0 h₂; clear h₂)
  exact ⟨rfl, hF⟩
set_option maxRecDepth 100000 in
theorem squash2 (h : List UInt8) (w : World) (hF : Grew W w) :
    Goes Tryd.prog true R0 D1 (fun g w => g = G (Frame.enter Tryd.prog 12 #[.string s] .normal) (frQ2 s h :: fr :: cs) ∧ Grew W w) 60 (G ((frQ1 s).finish (.string (strOf h))) (fr :: cs)) w := by
  show Goes Tryd.prog true R0 D1 _ 60 (G ((base 9).at ⟨#[.string s, undef, .string ⟨#[]⟩, .string s, .int .i64 s.size, .bool false, .string s, .string (strOf h), undef, undef, undef], []⟩ [.inRegion oQ [2, 3, 4, 5], .code TQ]) (fr :: cs)) w
  simp only [frQ2, oQ, TQ, bodyQ, Tryd.f9, Option.getD_some]
  (refine Goes.step rfl (fun w₁ h₁ => ?_); replace hF := hF.r0 h₁; clear h₁; refine goes_oper_k rfl rfl (by decide) (fun K hK => ?_); go_simp; refine hK _ _ ⟨⟨rfl, fun e he => ?_⟩, ?_⟩; (have hm := mem_listed he; simp [go_sem, *] at hm); clear hK K)
  (refine Goes.step rfl (fun w₁ h₁ => ?_); replace hF := hF.r0 h₁; clear h₁; refine goes_enterF (f := 12) rfl rfl (by decide) rfl Tryd.func12 (by rfl) rfl ⟨⟨rfl, by simp⟩, ?_⟩; walk_nrm; refine Goes.stop fun w₂ h₂ => ?_; replace hF := hF.r0 h₂; clear h₂)
  exact ⟨rfl, hF⟩
set_option maxRecDepth 100000 in
theorem squash3 (h r : List UInt8) (hlen : h.length + r.length ≤ 1000000000) (w : World) (hF : Grew W w) :
    Goes Tryd.prog true R0 D1 (fun g w => g = G (fr.finish (.string (strOf (h ++ r)))) cs ∧ Grew W w) 60 (G ((frQ2 s h).finish (.string (strOf r))) (fr :: cs)) w := by
  show Goes Tryd.prog true R0 D1 _ 60 (G ((base 9).at ⟨#[.string s, undef, .string ⟨#[]⟩, .string s, .int .i64 s.size, .bool false, .string s, .string (strOf h), .string s, .string (strOf r), undef], []⟩ [.inRegion oQ [4, 5], .code TQ]) (fr :: cs)) w
  have a4 := run_add h r (by omega)
  simp only [oQ, TQ, bodyQ, Tryd.f9, Option.getD_some]
  (refine Goes.step rfl (fun w₁ h₁ => ?_); replace hF := hF.r0 h₁; clear h₁; refine goes_oper_k rfl rfl (by decide) (fun K hK => ?_); go_simp; refine hK _ _ ⟨⟨rfl, fun e he => ?_⟩, ?_⟩; (have hm := mem_listed he; first | (simp [go_sem, *] at hm; done) | exact plain_exec (by rfl) _ hm); clear hK K)
  (refine Goes.step rfl (fun w₁ h₁ => ?_); replace hF := hF.r0 h₁; clear h₁; refine goes_oper_k rfl rfl (by decide) (fun K hK => ?_); go_simp; refine hK _ _ ⟨⟨rfl, fun e he => ?_⟩, ?_⟩; (have hm := mem_listed he; simp [go_sem, *] at hm); clear hK K)
  repeat (refine Goes.step rfl (fun _ h₁ => ?_); replace hF := hF.r0 h₁; clear h₁; (first | own_rw | (rw [stepG_ret']; simp only [goes_go])); refine ⟨⟨rfl, by simp⟩, ?_⟩)
  (refine Goes.step rfl (fun w₁ h₁ => ?_); replace hF := hF.r0 h₁; clear h₁; refine goes_leaveF rfl rfl Tryd.func9 (resultsC_tmp (by rfl) _) ⟨⟨rfl, by simp⟩, ?_⟩; refine Goes.stop fun w₂ h₂ => ?_; replace hF := hF.r0 h₂; clear h₂)
  exact ⟨rfl, hF⟩
end

/-- ████ SQUASH, WHOLE, BESIDE LEAVERS. ████ -/
theorem squash_beside (W : World) (s : ByteArray) (fr : Frame) (cs : List Frame) (hT : Tabs W) :
    Beside Tryd.prog (G (Frame.enter Tryd.prog 9 #[.string s] .normal) (fr :: cs)) W (fun g' w' => g' = G (fr.finish (.string (strOf (squashV s.data.toList)))) cs ∧ Grew W w') := by
  have hsz : s.data.toList.length = s.size := by simp
  by_cases hl : s.size ≤ 3000
  · rw [squashV_eq (by omega), hsz]
    refine Beside.trans (Q := fun g w => g = G (Frame.enter Tryd.prog 23 #[.string s] .normal) (frQ1 s :: fr :: cs) ∧ Grew W w) (beside_of_T fun t => goes_beside (fun g w h => by rw [h.1]; rfl) _ _ _ (squash1 W s fr cs hl _ ((Grew.refl W).re t 0))) ?_
    rintro g w ⟨rfl, hF⟩
    refine (headB w s hl (hT.grew hF) (frQ1 s) (fr :: cs)).trans ?_
    rintro g w1 ⟨rfl, hF1⟩
    refine Beside.trans (Q := fun g w => g = G (Frame.enter Tryd.prog 12 #[.string s] .normal) (frQ2 s (hdrV s.size (crcV s.data.toList)) :: fr :: cs) ∧ Grew W w) (beside_of_T fun t => goes_beside (fun g w h => by rw [h.1]; rfl) _ _ _ (squash2 W s fr cs _ _ ((hF.trans hF1).re t 0))) ?_
    rintro g w2 ⟨rfl, hF2⟩
    refine (runs_beside w2 s (frQ2 s (hdrV s.size (crcV s.data.toList))) (fr :: cs) (by omega) _ (tell_runs _)).trans ?_
    rintro g w3 ⟨rfl, hF3⟩
    have h1 : (hdrV s.size (crcV s.data.toList)).length = 18 := hdrV_len (by omega) (crcV_lt _)
    have h2 := runsV_len _ s.data.toList (Nat.le_refl _)
    exact beside_of_T fun t => goes_beside (fun g w h => by rw [h.1]; rfl) _ _ _ (squash3 W s fr cs _ _ (by omega) _ ((hF2.trans hF3).re t 0))
  · rw [squashV_long (by omega)]
    exact beside_of_T fun t => goes_beside (fun g w h => by rw [h.1]; rfl) _ _ _ (squash0 W s fr cs hl _ ((Grew.refl W).re t 0))
end Go.Proofs.YtnmlhjigiemfgaaDoor
