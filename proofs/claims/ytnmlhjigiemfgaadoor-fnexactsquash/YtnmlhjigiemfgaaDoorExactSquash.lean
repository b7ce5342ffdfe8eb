/- Proved: laws.FnExactSquash answers true at every text: impl.Squash answers as spec.Squash does, though impl.Runs has the bytes sent to it by a goroutine. The listed tables of the standard library are tied to the text of the program; the card speaks of the pruned copy of the project that the seat holds. -/
import Derived.Test.YtnmlhjigiemfgaaDoorSquashBeside
namespace Go.Proofs.YtnmlhjigiemfgaaDoor
open Go Go.Conc Go.RowKit

def LSS : List FuncId := [17, 30, 31, 27, 40, 39]
theorem closedSpecSquash : Closed Tryd.prog LSS := closed_of (E := []) (by kernel_rfl) (fun f hf => by cases hf) (by kernel_rfl)
theorem specSquashB (W : World) (s : ByteArray) (hs : s.size ≤ 1048576) (fr : Frame) (cs : List Frame) :
    Beside Tryd.prog (G (Frame.enter Tryd.prog 17 #[.string s] .normal) (fr :: cs)) W fun g' w' => g' = G (fr.finish (.string (strOf (squashV s.data.toList)))) cs ∧ Grew W w' := by
  refine (beside_calls closedSpecSquash Tryd.func17 rfl (by kernel_rfl) (fun tmps => ⟨_, resultsC_tmp (by rfl) tmps⟩) (R := fun v w' => v = .string (strOf (squashV s.data.toList)) ∧ Grew W w') (fun v w t d h => ⟨h.1, h.2.re t d⟩)
    (fun t => (specSquash s (reT W t 0) hs).mono fun e w' h => ⟨_, h.1, rfl, ⟨h.2.os, h.2.output, h.2.size, h.2.block⟩⟩) fr cs).mono ?_
  rintro g' w' ⟨v, rfl, rfl, h⟩
  exact ⟨rfl, h⟩

noncomputable def bodyR : Code := Tryd.f5.body.getD .skip
noncomputable def oR3 : Array Oper := match bodyR with | .seq _ (.seq _ (.seq (.region _ ops _) _)) => ops | _ => #[]
noncomputable def TR3 : Code := match bodyR with | .seq _ (.seq _ (.seq _ r)) => r | _ => .skip
noncomputable def oR4 : Array Oper := match TR3 with | .seq (.region _ ops _) _ => ops | _ => #[]
noncomputable def TR4 : Code := match TR3 with | .seq _ r => r | _ => .skip
noncomputable def frR1 (s : ByteArray) : Frame := (base 5).at ⟨#[.string s, undef, .bool false, undef, undef, .string s, .int .i64 s.size, .bool false, .string s, undef, undef, undef, undef, undef, undef], []⟩ [.inRegion oR3 [1, 2], .code TR3]
noncomputable def frR2 (s x : ByteArray) : Frame := (base 5).at ⟨#[.string s, undef, .bool false, .string x, undef, .string s, .int .i64 s.size, .bool false, .string s, .string x, .string s, undef, undef, undef, undef], []⟩ [.inRegion oR4 [1, 2], .code TR4]

set_option maxRecDepth 100000 in
/-- From the entry to the first call. -/
theorem stage1 (W : World) (s : ByteArray) (hl : s.size ≤ 1048576) (w : World) (hF : Grew W w) :
    Goes Tryd.prog true R0 D1 (fun g w => g = G (Frame.enter Tryd.prog 17 #[.string s] .normal) [frR1 s] ∧ Grew W w) 60 (G (Frame.enter Tryd.prog 5 #[.string s] .normal) []) w := by
  have e : Frame.enter Tryd.prog 5 #[.string s] .normal = (base 5).at ⟨#[.string s, undef, undef, undef, undef, undef, undef, undef, undef, undef, undef, undef, undef, undef, undef], []⟩ [.code bodyR] := by
    simp [Frame.enter, Frame.at, Tryd.func5, base, bodyR, Tryd.f5]
  rw [e]
  have hlen := events_len_string s
  have hi : ¬ (1048576 : Int) < (s.size : Int) := by omega
  simp only [frR1, oR3, TR3, bodyR, Tryd.f5, Option.getD_some]
  repeat (refine Goes.step rfl (fun _ h₁ => ?_); replace hF := hF.r0 h₁; clear h₁; (first | own_rw | (rw [stepG_ret']; simp only [goes_go])); refine ⟨⟨rfl, by simp⟩, ?_⟩)
  (refine Goes.step rfl (fun w₁ h₁ => ?_); replace hF := hF.r0 h₁; clear h₁; refine goes_oper_k rfl rfl (by decide) (fun K hK => ?_); go_simp; refine hK _ _ ⟨⟨rfl, fun e he => ?_⟩, ?_⟩; (have hm := mem_listed he; simp [go_sem, *] at hm); clear hK K)
  repeat (refine Goes.step rfl (fun _ h₁ => ?_); replace hF := hF.r0 h₁; clear h₁; (first | own_rw | (rw [stepG_ret']; simp only [goes_go])); refine ⟨⟨rfl, by simp⟩, ?_⟩)
  (refine Goes.step rfl (fun w₁ h₁ => ?_); replace hF := hF.r0 h₁; clear h₁; refine goes_oper_k rfl rfl (by decide) (fun K hK => ?_); go_simp; refine hK _ _ ⟨⟨rfl, fun e he => ?_⟩, ?_⟩; (have hm := mem_listed he; simp [go_sem, *] at hm); clear hK K)
  (refine Goes.step rfl (fun w₁ h₁ => ?_); replace hF := hF.r0 h₁; clear h₁; refine goes_oper_k rfl rfl (by decide) (fun K hK => ?_); go_simp; refine hK _ _ ⟨⟨rfl, fun e he => ?_⟩, ?_⟩; (have hm := mem_listed he; simp [go_sem, *] at hm); clear hK K)
  (refine Goes.step rfl (fun w₁ h₁ => ?_); replace hF := hF.r0 h₁; clear h₁; refine goes_oper_k rfl rfl (by decide) (fun K hK => ?_); go_simp; refine hK _ _ ⟨⟨rfl, fun e he => ?_⟩, ?_⟩; (have hm := mem_listed he; simp [go_sem, *] at hm); clear hK K)
  repeat (refine Goes.step rfl (fun _ h₁ => ?_); replace hF := hF.r0 h₁; clear h₁; (first | own_rw | (rw [stepG_ret']; simp only [goes_go])); refine ⟨⟨rfl, by simp⟩, ?_⟩)
  (refine Goes.step rfl (fun _ h₁ => ?_); replace hF := hF.r0 h₁; clear h₁; rw [stepG_cond (t := false) rfl]; simp only [goes_go, if_true, if_false, Bool.false_eq_true, ↓reduceIte]; refine ⟨⟨rfl, by simp⟩, ?_⟩)
  repeat (refine Goes.step rfl (fun _ h₁ => ?_); replace hF := hF.r0 h₁; clear h₁; (first | own_rw | (rw [stepG_ret']; simp only [goes_go])); refine ⟨⟨rfl, by simp⟩, ?_⟩)
  (refine Goes.step rfl (fun w₁ h₁ => ?_); replace hF := hF.r0 h₁; clear h₁; refine goes_oper_k rfl rfl (by decide) (fun K hK => ?_); go_simp; refine hK _ _ ⟨⟨rfl, fun e he => ?_⟩, ?_⟩; (have hm := mem_listed he; simp [go_sem, *] at hm); clear hK K)
  (refine Goes.step rfl (fun w₁ h₁ => ?_); replace hF := hF.r0 h₁; clear h₁; refine goes_enterF (f := 17) rfl rfl (by decide) rfl Tryd.func17 (by rfl) rfl ⟨⟨rfl, by simp⟩, ?_⟩; walk_nrm; refine Goes.stop fun w₂ h₂ => ?_; replace hF := hF.r0 h₂; clear h₂)
  exact ⟨rfl, hF⟩

set_option maxRecDepth 100000 in
/-- From the first call to the second. -/
theorem stage2 (W : World) (s x : ByteArray) (w : World) (hF : Grew W w) :
    Goes Tryd.prog true R0 D1 (fun g w => g = G (Frame.enter Tryd.prog 9 #[.string s] .normal) [frR2 s x] ∧ Grew W w) 60 (G ((frR1 s).finish (.string x)) []) w := by
  show Goes Tryd.prog true R0 D1 _ 60 (G ((base 5).at ⟨#[.string s, undef, .bool false, undef, undef, .string s, .int .i64 s.size, .bool false, .string s, .string x, undef, undef, undef, undef, undef], []⟩ [.inRegion oR3 [2], .code TR3]) []) w
  simp only [frR2, oR3, oR4, TR4, TR3, bodyR, Tryd.f5, Option.getD_some]
  (refine Goes.step rfl (fun w₁ h₁ => ?_); replace hF := hF.r0 h₁; clear h₁; refine goes_oper_k rfl rfl (by decide) (fun K hK => ?_); go_simp; refine hK _ _ ⟨⟨rfl, fun e he => ?_⟩, ?_⟩; (have hm := mem_listed he; simp [go_sem, *] at hm); clear hK K)
  repeat (refine Goes.step rfl (fun _ h₁ => ?_); replace hF := hF.r0 h₁; clear h₁; (first | own_rw | (rw [stepG_ret']; simp only [goes_go])); refine ⟨⟨rfl, by simp⟩, ?_⟩)
  (refine Goes.step rfl (fun w₁ h₁ => ?_); replace hF := hF.r0 h₁; clear h₁; refine goes_oper_k rfl rfl (by decide) (fun K hK => ?_); go_simp; refine hK _ _ ⟨⟨rfl, fun e he => ?_⟩, ?_⟩; (have hm := mem_listed he; simp [go_sem, *] at hm); clear hK K)
  (refine Goes.step rfl (fun w₁ h₁ => ?_); replace hF := hF.r0 h₁; clear h₁; refine goes_enterF (f := 9) rfl rfl (by decide) rfl Tryd.func9 (by rfl) rfl ⟨⟨rfl, by simp⟩, ?_⟩; walk_nrm; refine Goes.stop fun w₂ h₂ => ?_; replace hF := hF.r0 h₂; clear h₂)
  exact ⟨rfl, hF⟩

set_option maxRecDepth 100000 in
/-- From the second call to the end. -/
theorem stage3 (W : World) (s x : ByteArray) (w : World) (hF : Grew W w) :
    Goes Tryd.prog true R0 D1 (EndS Tryd.prog (PostR W)) 60 (G ((frR2 s x).finish (.string x)) []) w := by
  show Goes Tryd.prog true R0 D1 _ 60 (G ((base 5).at ⟨#[.string s, undef, .bool false, .string x, undef, .string s, .int .i64 s.size, .bool false, .string s, .string x, .string s, .string x, undef, undef, undef], []⟩ [.inRegion oR4 [2], .code TR4]) []) w
  simp only [oR4, TR4, TR3, bodyR, Tryd.f5, Option.getD_some]
  repeat (first | (refine Goes.step rfl (fun _ h₁ => ?_); replace hF := hF.r0 h₁; clear h₁; (first | own_rw | (rw [stepG_ret']; simp only [goes_go])); refine ⟨⟨rfl, by simp⟩, ?_⟩) | (refine Goes.step rfl (fun w₁ h₁ => ?_); replace hF := hF.r0 h₁; clear h₁; refine goes_oper_k rfl rfl (by decide) (fun K hK => ?_); go_simp; refine hK _ _ ⟨⟨rfl, fun e he => ?_⟩, ?_⟩; (have hm := mem_listed he; simp [go_sem, *] at hm); clear hK K))
  (refine Goes.step rfl (fun _ h₁ => ?_); replace hF := hF.r0 h₁; clear h₁; rw [stepG_cond (t := false) rfl]; simp only [goes_go, if_true, if_false, Bool.false_eq_true, ↓reduceIte]; refine ⟨⟨rfl, by simp⟩, ?_⟩)
  repeat (first | (refine Goes.step rfl (fun _ h₁ => ?_); replace hF := hF.r0 h₁; clear h₁; (first | own_rw | (rw [stepG_ret']; simp only [goes_go])); refine ⟨⟨rfl, by simp⟩, ?_⟩) | (refine Goes.step rfl (fun w₁ h₁ => ?_); replace hF := hF.r0 h₁; clear h₁; refine goes_oper_k rfl rfl (by decide) (fun K hK => ?_); go_simp; refine hK _ _ ⟨⟨rfl, fun e he => ?_⟩, ?_⟩; (have hm := mem_listed he; simp [go_sem, *] at hm); clear hK K))
  exact Goes.stop fun w' h' => ⟨rfl, .bool true, fun w => by simp [G, stepG, unwind, doReturn, results, Frame.at, base, Tryd.func5, Tryd.f5, seen, GStep.after], rfl, hF.r0 h'⟩

set_option maxRecDepth 100000 in
/-- A text that is too long. -/
theorem stage0 (W : World) (s : ByteArray) (hl : ¬ s.size ≤ 1048576) (w : World) (hF : Grew W w) :
    Goes Tryd.prog true R0 D1 (EndS Tryd.prog (PostR W)) 60 (G (Frame.enter Tryd.prog 5 #[.string s] .normal) []) w := by
  have e : Frame.enter Tryd.prog 5 #[.string s] .normal = (base 5).at ⟨#[.string s, undef, undef, undef, undef, undef, undef, undef, undef, undef, undef, undef, undef, undef, undef], []⟩ [.code bodyR] := by
    simp [Frame.enter, Frame.at, Tryd.func5, base, bodyR, Tryd.f5]
  rw [e]
  have hlen := events_len_string s
  have hi : (1048576 : Int) < (s.size : Int) := by omega
  simp only [bodyR, Tryd.f5, Option.getD_some]
  repeat (refine Goes.step rfl (fun _ h₁ => ?_); replace hF := hF.r0 h₁; clear h₁; (first | own_rw | (rw [stepG_ret']; simp only [goes_go])); refine ⟨⟨rfl, by simp⟩, ?_⟩)
  (refine Goes.step rfl (fun w₁ h₁ => ?_); replace hF := hF.r0 h₁; clear h₁; refine goes_oper_k rfl rfl (by decide) (fun K hK => ?_); go_simp; refine hK _ _ ⟨⟨rfl, fun e he => ?_⟩, ?_⟩; (have hm := mem_listed he; simp [go_sem, *] at hm); clear hK K)
  repeat (refine Goes.step rfl (fun _ h₁ => ?_); replace hF := hF.r0 h₁; clear h₁; (first | own_rw | (rw [stepG_ret']; simp only [goes_go])); refine ⟨⟨rfl, by simp⟩, ?_⟩)
  (refine Goes.step rfl (fun w₁ h₁ => ?_); replace hF := hF.r0 h₁; clear h₁; refine goes_oper_k rfl rfl (by decide) (fun K hK => ?_); go_simp; refine hK _ _ ⟨⟨rfl, fun e he => ?_⟩, ?_⟩; (have hm := mem_listed he; simp [go_sem, *] at hm); clear hK K)
  (refine Goes.step rfl (fun w₁ h₁ => ?_); replace hF := hF.r0 h₁; clear h₁; refine goes_oper_k rfl rfl (by decide) (fun K hK => ?_); go_simp; refine hK _ _ ⟨⟨rfl, fun e he => ?_⟩, ?_⟩; (have hm := mem_listed he; simp [go_sem, *] at hm); clear hK K)
  (refine Goes.step rfl (fun w₁ h₁ => ?_); replace hF := hF.r0 h₁; clear h₁; refine goes_oper_k rfl rfl (by decide) (fun K hK => ?_); go_simp; refine hK _ _ ⟨⟨rfl, fun e he => ?_⟩, ?_⟩; (have hm := mem_listed he; simp [go_sem, *] at hm); clear hK K)
  repeat (refine Goes.step rfl (fun _ h₁ => ?_); replace hF := hF.r0 h₁; clear h₁; (first | own_rw | (rw [stepG_ret']; simp only [goes_go])); refine ⟨⟨rfl, by simp⟩, ?_⟩)
  (refine Goes.step rfl (fun _ h₁ => ?_); replace hF := hF.r0 h₁; clear h₁; rw [stepG_cond (t := true) rfl]; simp only [goes_go, if_true, if_false, Bool.false_eq_true, ↓reduceIte]; refine ⟨⟨rfl, by simp⟩, ?_⟩)
  repeat (refine Goes.step rfl (fun _ h₁ => ?_); replace hF := hF.r0 h₁; clear h₁; (first | own_rw | (rw [stepG_ret']; simp only [goes_go])); refine ⟨⟨rfl, by simp⟩, ?_⟩)
  (refine Goes.step rfl (fun w₁ h₁ => ?_); replace hF := hF.r0 h₁; clear h₁; refine goes_oper_k rfl rfl (by decide) (fun K hK => ?_); go_simp; refine hK _ _ ⟨⟨rfl, fun e he => ?_⟩, ?_⟩; (have hm := mem_listed he; simp [go_sem, *] at hm); clear hK K)
  repeat (refine Goes.step rfl (fun _ h₁ => ?_); replace hF := hF.r0 h₁; clear h₁; (first | own_rw | (rw [stepG_ret']; simp only [goes_go])); refine ⟨⟨rfl, by simp⟩, ?_⟩)
  exact Goes.stop fun w' h' => ⟨rfl, .bool true, fun w => by simp [G, stepG, unwind, doReturn, results, Frame.at, base, Tryd.func5, Tryd.f5, seen, GStep.after], rfl, hF.r0 h'⟩

/-- ████ THE LAW's RUN. ████ -/
theorem exactSquash_run (s : ByteArray) (W : World) (hT : Tabs W) : ∃ M last o w' t', runNT Tryd.prog (M + 1) (solo (G (Frame.enter Tryd.prog 5 #[.string s] .normal) []) W) #[] = (.ended o w', t') ∧
    runN Tryd.prog M (solo (G (Frame.enter Tryd.prog 5 #[.string s] .normal) []) W) = .next last ∧ step Tryd.prog last = .ended o w' ∧ Conc.Good Tryd.prog (PostR W) last o w' t' := by
  refine the_end (fun v w d h => ⟨h.1, h.2.r0 ⟨d, rfl⟩⟩) ?_
  by_cases hl : s.size ≤ 1048576
  · refine Beside.trans (Q := fun g w => g = G (Frame.enter Tryd.prog 17 #[.string s] .normal) [frR1 s] ∧ Grew W w) (beside_of_T fun t => goes_beside (fun g w h => by rw [h.1]; rfl) _ _ _ (stage1 W s hl _ ((Grew.refl W).re t 0))) ?_
    rintro g w ⟨rfl, hF⟩
    refine (specSquashB w s hl (frR1 s) []).trans ?_
    rintro g w1 ⟨rfl, hF1⟩
    refine Beside.trans (Q := fun g w => g = G (Frame.enter Tryd.prog 9 #[.string s] .normal) [frR2 s (strOf (squashV s.data.toList))] ∧ Grew W w) (beside_of_T fun t => goes_beside (fun g w h => by rw [h.1]; rfl) _ _ _ (stage2 W s _ _ ((hF.trans hF1).re t 0))) ?_
    rintro g w2 ⟨rfl, hF2⟩
    refine (squash_beside w2 s (frR2 s (strOf (squashV s.data.toList))) [] (hT.grew hF2)).trans ?_
    rintro g w3 ⟨rfl, hF3⟩
    exact beside_of_T fun t => goes_beside (fun g w h => h.1) _ _ _ (stage3 W s _ _ ((hF2.trans hF3).re t 0))
  · exact beside_of_T fun t => goes_beside (fun g w h => h.1) _ _ _ (stage0 W s hl _ ((Grew.refl W).re t 0))
end Go.Proofs.YtnmlhjigiemfgaaDoor
