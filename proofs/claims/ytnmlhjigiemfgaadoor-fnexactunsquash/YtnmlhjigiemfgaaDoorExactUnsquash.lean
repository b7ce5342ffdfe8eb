/- Proved: laws.FnExactUnsquash answers true at every text: impl.Unsquash answers as spec.Unsquash does, though impl.Runs has the bytes sent to it by a goroutine. The listed tables of the standard library are tied to the text of the program; the card speaks of the pruned copy of the project that the seat holds. -/
import Derived.Test.YtnmlhjigiemfgaaDoorUnsquashBeside
namespace Go.Proofs.YtnmlhjigiemfgaaDoor
open Go Go.Conc Go.RowKit

def LSU : List FuncId := [18, 15, 17, 30, 31, 27, 40, 39]
theorem closedSpecUnsquash : Closed Tryd.prog LSU := closed_of (E := []) (by kernel_rfl) (fun f hf => by cases hf) (by kernel_rfl)
theorem specUnsquashB (W : World) (s : ByteArray) (hs : s.size ≤ 1048576) (fr : Frame) (cs : List Frame) :
    Beside Tryd.prog (G (Frame.enter Tryd.prog 18 #[.string s] .normal) (fr :: cs)) W fun g' w' => g' = G (fr.finish (sprT (unsqO s.data.toList))) cs ∧ Grew W w' := by
  refine (beside_calls closedSpecUnsquash Tryd.func18 rfl (by kernel_rfl) (fun tmps => ⟨_, resultsC_tmp2 (by rfl) tmps⟩) (R := fun v w' => v = sprT (unsqO s.data.toList) ∧ Grew W w') (fun v w t d h => ⟨h.1, h.2.re t d⟩)
    (fun t => (specUnsquash s (reT W t 0) hs).mono fun e w' h => ⟨_, h.1, rfl, ⟨h.2.os, h.2.output, h.2.size, h.2.block⟩⟩) fr cs).mono ?_
  rintro g' w' ⟨v, rfl, rfl, h⟩
  exact ⟨rfl, h⟩

noncomputable def bodyX : Code := Tryd.f6.body.getD .skip
noncomputable def oX3 : Array Oper := match bodyX with | .seq _ (.seq _ (.seq (.region _ ops _) _)) => ops | _ => #[]
noncomputable def TX3 : Code := match bodyX with | .seq _ (.seq _ (.seq _ r)) => r | _ => .skip
noncomputable def oX4 : Array Oper := match TX3 with | .seq (.region _ ops _) _ => ops | _ => #[]
noncomputable def TX4 : Code := match TX3 with | .seq _ r => r | _ => .skip
noncomputable def frX1 (s : ByteArray) : Frame := (base 6).at ⟨#[.string s, undef, .bool false, undef, undef, undef, undef, .string s, .int .i64 s.size, .bool false, undef, .string s, undef, undef, undef, undef, undef, undef, undef, undef, undef, undef, undef, undef, undef, undef, undef, undef], []⟩ [.inRegion oX3 [1, 2, 3, 4, 5, 6], .code TX3]
noncomputable def frX2 (s x : ByteArray) (y : Bool) : Frame := (base 6).at ⟨#[.string s, undef, .bool false, .string x, .bool y, undef, undef, .string s, .int .i64 s.size, .bool false, .tuple #[.string x, .bool y], .string s, .tuple #[.string x, .bool y], .string x, .bool y, undef, .string s, undef, undef, undef, undef, undef, undef, undef, undef, undef, undef, undef], []⟩ [.inRegion oX4 [1, 2, 3, 4, 5, 6], .code TX4]

set_option maxRecDepth 100000 in
theorem stageX1 (W : World) (s : ByteArray) (hl : s.size ≤ 1048576) (w : World) (hF : Grew W w) :
    Goes Tryd.prog true R0 D1 (fun g w => g = G (Frame.enter Tryd.prog 18 #[.string s] .normal) [frX1 s] ∧ Grew W w) 60 (G (Frame.enter Tryd.prog 6 #[.string s] .normal) []) w := by
  have e : Frame.enter Tryd.prog 6 #[.string s] .normal = (base 6).at ⟨#[.string s, undef, undef, undef, undef, undef, undef, undef, undef, undef, undef, undef, undef, undef, undef, undef, undef, undef, undef, undef, undef, undef, undef, undef, undef, undef, undef, undef], []⟩ [.code bodyX] := by
    simp [Frame.enter, Frame.at, Tryd.func6, base, bodyX, Tryd.f6]
  rw [e]
  have hlen := events_len_string s
  have hi : ¬ (1048576 : Int) < (s.size : Int) := by omega
  simp only [frX1, oX3, TX3, bodyX, Tryd.f6, Option.getD_some]
  repeat (refine Goes.step rfl (fun _ h₁ => ?_); replace hF := hF.r0 h₁; clear h₁; (first | own_rw | (rw [stepG_ret']; simp only [goes_go])); refine ⟨⟨rfl, by simp⟩, ?_⟩)
  (refine Goes.step rfl (fun w₁ h₁ => ?_); replace hF := hF.r0 h₁; clear h₁; refine goes_oper_k rfl rfl (by decide) (fun K hK => ?_); go_simp; refine hK _ _ ⟨⟨rfl, fun e he => ?_⟩, ?_⟩; (have hm := mem_listed he; simp [go_sem, *] at hm); clear hK K)
  repeat (refine Goes.step rfl (fun _ h₁ => ?_); replace hF := hF.r0 h₁; clear h₁; (first | own_rw | (rw [stepG_ret']; simp only [goes_go])); refine ⟨⟨rfl, by simp⟩, ?_⟩)
  (refine Goes.step rfl (fun w₁ h₁ => ?_); replace hF := hF.r0 h₁; clear h₁; refine goes_oper_k rfl rfl (by decide) (fun K hK => ?_); go_simp; refine hK _ _ ⟨⟨rfl, fun e he => ?_⟩, ?_⟩; (have hm := mem_listed he; simp [go_sem, *] at hm); clear hK K)
  (refine Goes.step rfl (fun w₁ h₁ => ?_); replace hF := hF.r0 h₁; clear h₁; refine goes_oper_k rfl rfl (by decide) (fun K hK => ?_); go_simp; refine hK _ _ ⟨⟨rfl, fun e he => ?_⟩, ?_⟩; (have hm := mem_listed he; simp [go_sem, *] at hm); clear hK K)
  (refine Goes.step rfl (fun w₁ h₁ => ?_); replace hF := hF.r0 h₁; clear h₁; refine goes_oper_k rfl rfl (by decide) (fun K hK => ?_); go_simp; refine hK _ _ ⟨⟨rfl, fun e he => ?_⟩, ?_⟩; (have hm := mem_listed he; simp [go_sem, *] at hm); clear hK K)
  repeat (refine Goes.step rfl (fun _ h₁ => ?_); replace hF := hF.r0 h₁; clear h₁; (first | own_rw | (rw [stepG_ret']; simp only [goes_go])); refine ⟨⟨rfl, by simp⟩, ?_⟩)
  (refine Goes.step rfl (fun _ h₁ => ?_); replace hF := hF.r0 h₁; clear h₁; rw [stepG_cond (t := false) rfl]; simp only [goes_go, if_true, if_false, Bool.false_eq_true, ↓reduceIte]; refine ⟨⟨rfl, by simp⟩, ?_⟩)
  repeat (refine Goes.step rfl (fun _ h₁ => ?_); replace hF := hF.r0 h₁; clear h₁; (first | own_rw | (rw [stepG_ret']; simp only [goes_go])); refine ⟨⟨rfl, by simp⟩, ?_⟩)
  (refine Goes.step rfl (fun w₁ h₁ => ?_); replace hF := hF.r0 h₁; clear h₁; refine goes_oper_k rfl rfl (by decide) (fun K hK => ?_); go_simp; refine hK _ _ ⟨⟨rfl, fun e he => ?_⟩, ?_⟩; (have hm := mem_listed he; simp [go_sem, *] at hm); clear hK K)
  (refine Goes.step rfl (fun w₁ h₁ => ?_); replace hF := hF.r0 h₁; clear h₁; refine goes_enterF (f := 18) rfl rfl (by decide) rfl Tryd.func18 (by rfl) rfl ⟨⟨rfl, by simp⟩, ?_⟩; walk_nrm; refine Goes.stop fun w₂ h₂ => ?_; replace hF := hF.r0 h₂; clear h₂)
  exact ⟨rfl, hF⟩

set_option maxRecDepth 100000 in
theorem stageX2 (W : World) (s x : ByteArray) (y : Bool) (w : World) (hF : Grew W w) :
    Goes Tryd.prog true R0 D1 (fun g w => g = G (Frame.enter Tryd.prog 10 #[.string s] .normal) [frX2 s x y] ∧ Grew W w) 60 (G ((frX1 s).finish (.tuple #[.string x, .bool y])) []) w := by
  show Goes Tryd.prog true R0 D1 _ 60 (G ((base 6).at ⟨#[.string s, undef, .bool false, undef, undef, undef, undef, .string s, .int .i64 s.size, .bool false, undef, .string s, .tuple #[.string x, .bool y], undef, undef, undef, undef, undef, undef, undef, undef, undef, undef, undef, undef, undef, undef, undef], []⟩ [.inRegion oX3 [2, 3, 4, 5, 6], .code TX3]) []) w
  simp only [frX2, oX3, oX4, TX4, TX3, bodyX, Tryd.f6, Option.getD_some]
  (refine Goes.step rfl (fun w₁ h₁ => ?_); replace hF := hF.r0 h₁; clear h₁; refine goes_oper_k rfl rfl (by decide) (fun K hK => ?_); go_simp; refine hK _ _ ⟨⟨rfl, fun e he => ?_⟩, ?_⟩; (have hm := mem_listed he; simp [go_sem, *] at hm); clear hK K)
  (refine Goes.step rfl (fun w₁ h₁ => ?_); replace hF := hF.r0 h₁; clear h₁; refine goes_oper_k rfl rfl (by decide) (fun K hK => ?_); go_simp; refine hK _ _ ⟨⟨rfl, fun e he => ?_⟩, ?_⟩; (have hm := mem_listed he; simp [go_sem, *] at hm); clear hK K)
  (refine Goes.step rfl (fun w₁ h₁ => ?_); replace hF := hF.r0 h₁; clear h₁; refine goes_oper_k rfl rfl (by decide) (fun K hK => ?_); go_simp; refine hK _ _ ⟨⟨rfl, fun e he => ?_⟩, ?_⟩; (have hm := mem_listed he; simp [go_sem, *] at hm); clear hK K)
  (refine Goes.step rfl (fun w₁ h₁ => ?_); replace hF := hF.r0 h₁; clear h₁; refine goes_oper_k rfl rfl (by decide) (fun K hK => ?_); go_simp; refine hK _ _ ⟨⟨rfl, fun e he => ?_⟩, ?_⟩; (have hm := mem_listed he; simp [go_sem, *] at hm); clear hK K)
  (refine Goes.step rfl (fun w₁ h₁ => ?_); replace hF := hF.r0 h₁; clear h₁; refine goes_oper_k rfl rfl (by decide) (fun K hK => ?_); go_simp; refine hK _ _ ⟨⟨rfl, fun e he => ?_⟩, ?_⟩; (have hm := mem_listed he; simp [go_sem, *] at hm); clear hK K)
  repeat (refine Goes.step rfl (fun _ h₁ => ?_); replace hF := hF.r0 h₁; clear h₁; (first | own_rw | (rw [stepG_ret']; simp only [goes_go])); refine ⟨⟨rfl, by simp⟩, ?_⟩)
  (refine Goes.step rfl (fun w₁ h₁ => ?_); replace hF := hF.r0 h₁; clear h₁; refine goes_oper_k rfl rfl (by decide) (fun K hK => ?_); go_simp; refine hK _ _ ⟨⟨rfl, fun e he => ?_⟩, ?_⟩; (have hm := mem_listed he; simp [go_sem, *] at hm); clear hK K)
  (refine Goes.step rfl (fun w₁ h₁ => ?_); replace hF := hF.r0 h₁; clear h₁; refine goes_enterF (f := 10) rfl rfl (by decide) rfl Tryd.func10 (by rfl) rfl ⟨⟨rfl, by simp⟩, ?_⟩; walk_nrm; refine Goes.stop fun w₂ h₂ => ?_; replace hF := hF.r0 h₂; clear h₂)
  exact ⟨rfl, hF⟩

set_option maxRecDepth 100000 in
theorem stageX3 (W : World) (s x : ByteArray) (y : Bool) (w : World) (hF : Grew W w) :
    Goes Tryd.prog true R0 D1 (EndS Tryd.prog (PostR W)) 60 (G ((frX2 s x y).finish (.tuple #[.string x, .bool y])) []) w := by
  show Goes Tryd.prog true R0 D1 _ 60 (G ((base 6).at ⟨#[.string s, undef, .bool false, .string x, .bool y, undef, undef, .string s, .int .i64 s.size, .bool false, .tuple #[.string x, .bool y], .string s, .tuple #[.string x, .bool y], .string x, .bool y, undef, .string s, .tuple #[.string x, .bool y], undef, undef, undef, undef, undef, undef, undef, undef, undef, undef], []⟩ [.inRegion oX4 [2, 3, 4, 5, 6], .code TX4]) []) w
  simp only [oX4, TX4, TX3, bodyX, Tryd.f6, Option.getD_some]
  (refine Goes.step rfl (fun w₁ h₁ => ?_); replace hF := hF.r0 h₁; clear h₁; refine goes_oper_k rfl rfl (by decide) (fun K hK => ?_); go_simp; refine hK _ _ ⟨⟨rfl, fun e he => ?_⟩, ?_⟩; (have hm := mem_listed he; simp [go_sem, *] at hm); clear hK K)
  (refine Goes.step rfl (fun w₁ h₁ => ?_); replace hF := hF.r0 h₁; clear h₁; refine goes_oper_k rfl rfl (by decide) (fun K hK => ?_); go_simp; refine hK _ _ ⟨⟨rfl, fun e he => ?_⟩, ?_⟩; (have hm := mem_listed he; simp [go_sem, *] at hm); clear hK K)
  (refine Goes.step rfl (fun w₁ h₁ => ?_); replace hF := hF.r0 h₁; clear h₁; refine goes_oper_k rfl rfl (by decide) (fun K hK => ?_); go_simp; refine hK _ _ ⟨⟨rfl, fun e he => ?_⟩, ?_⟩; (have hm := mem_listed he; simp [go_sem, *] at hm); clear hK K)
  (refine Goes.step rfl (fun w₁ h₁ => ?_); replace hF := hF.r0 h₁; clear h₁; refine goes_oper_k rfl rfl (by decide) (fun K hK => ?_); go_simp; refine hK _ _ ⟨⟨rfl, fun e he => ?_⟩, ?_⟩; (have hm := mem_listed he; simp [go_sem, *] at hm); clear hK K)
  (refine Goes.step rfl (fun w₁ h₁ => ?_); replace hF := hF.r0 h₁; clear h₁; refine goes_oper_k rfl rfl (by decide) (fun K hK => ?_); go_simp; refine hK _ _ ⟨⟨rfl, fun e he => ?_⟩, ?_⟩; (have hm := mem_listed he; simp [go_sem, *] at hm); clear hK K)
  repeat (refine Goes.step rfl (fun _ h₁ => ?_); replace hF := hF.r0 h₁; clear h₁; (first | own_rw | (rw [stepG_ret']; simp only [goes_go])); refine ⟨⟨rfl, by simp⟩, ?_⟩)
  (refine Goes.step rfl (fun w₁ h₁ => ?_); replace hF := hF.r0 h₁; clear h₁; refine goes_oper_k rfl rfl (by decide) (fun K hK => ?_); go_simp; refine hK _ _ ⟨⟨rfl, fun e he => ?_⟩, ?_⟩; (have hm := mem_listed he; simp [go_sem, *] at hm); clear hK K)
  (refine Goes.step rfl (fun w₁ h₁ => ?_); replace hF := hF.r0 h₁; clear h₁; refine goes_oper_k rfl rfl (by decide) (fun K hK => ?_); go_simp; refine hK _ _ ⟨⟨rfl, fun e he => ?_⟩, ?_⟩; (have hm := mem_listed he; simp [go_sem, *] at hm); clear hK K)
  (refine Goes.step rfl (fun w₁ h₁ => ?_); replace hF := hF.r0 h₁; clear h₁; refine goes_oper_k rfl rfl (by decide) (fun K hK => ?_); go_simp; refine hK _ _ ⟨⟨rfl, fun e he => ?_⟩, ?_⟩; (have hm := mem_listed he; simp [go_sem, *] at hm); clear hK K)
  (refine Goes.step rfl (fun w₁ h₁ => ?_); replace hF := hF.r0 h₁; clear h₁; refine goes_oper_k rfl rfl (by decide) (fun K hK => ?_); go_simp; refine hK _ _ ⟨⟨rfl, fun e he => ?_⟩, ?_⟩; (have hm := mem_listed he; simp [go_sem, *] at hm); clear hK K)
  (refine Goes.step rfl (fun w₁ h₁ => ?_); replace hF := hF.r0 h₁; clear h₁; refine goes_oper_k rfl rfl (by decide) (fun K hK => ?_); go_simp; refine hK _ _ ⟨⟨rfl, fun e he => ?_⟩, ?_⟩; (have hm := mem_listed he; simp [go_sem, *] at hm); clear hK K)
  (refine Goes.step rfl (fun w₁ h₁ => ?_); replace hF := hF.r0 h₁; clear h₁; refine goes_oper_k rfl rfl (by decide) (fun K hK => ?_); go_simp; refine hK _ _ ⟨⟨rfl, fun e he => ?_⟩, ?_⟩; (have hm := mem_listed he; simp [go_sem, *] at hm); clear hK K)
  (refine Goes.step rfl (fun w₁ h₁ => ?_); replace hF := hF.r0 h₁; clear h₁; refine goes_oper_k rfl rfl (by decide) (fun K hK => ?_); go_simp; refine hK _ _ ⟨⟨rfl, fun e he => ?_⟩, ?_⟩; (have hm := mem_listed he; first | (simp [go_sem, *] at hm; done) | exact plain_exec (by rfl) _ hm); clear hK K)
  (refine Goes.step rfl (fun w₁ h₁ => ?_); replace hF := hF.r0 h₁; clear h₁; refine goes_oper_k rfl rfl (by decide) (fun K hK => ?_); go_simp; refine hK _ _ ⟨⟨rfl, fun e he => ?_⟩, ?_⟩; (have hm := mem_listed he; simp [go_sem, *] at hm); clear hK K)
  repeat (refine Goes.step rfl (fun _ h₁ => ?_); replace hF := hF.r0 h₁; clear h₁; (first | own_rw | (rw [stepG_ret']; simp only [goes_go])); refine ⟨⟨rfl, by simp⟩, ?_⟩)
  (refine Goes.step rfl (fun _ h₁ => ?_); replace hF := hF.r0 h₁; clear h₁; rw [stepG_cond (t := false) rfl]; simp only [goes_go, if_true, if_false, Bool.false_eq_true, ↓reduceIte]; refine ⟨⟨rfl, by simp⟩, ?_⟩)
  repeat (refine Goes.step rfl (fun _ h₁ => ?_); replace hF := hF.r0 h₁; clear h₁; (first | own_rw | (rw [stepG_ret']; simp only [goes_go])); refine ⟨⟨rfl, by simp⟩, ?_⟩)
  (refine Goes.step rfl (fun w₁ h₁ => ?_); replace hF := hF.r0 h₁; clear h₁; refine goes_oper_k rfl rfl (by decide) (fun K hK => ?_); go_simp; refine hK _ _ ⟨⟨rfl, fun e he => ?_⟩, ?_⟩; (have hm := mem_listed he; simp [go_sem, *] at hm); clear hK K)
  repeat (refine Goes.step rfl (fun _ h₁ => ?_); replace hF := hF.r0 h₁; clear h₁; (first | own_rw | (rw [stepG_ret']; simp only [goes_go])); refine ⟨⟨rfl, by simp⟩, ?_⟩)
  exact Goes.stop fun w' h' => ⟨rfl, .bool true, fun w => by simp [G, stepG, unwind, doReturn, results, Frame.at, base, Tryd.func6, Tryd.f6, seen, GStep.after], rfl, hF.r0 h'⟩

set_option maxRecDepth 100000 in
theorem stageX0 (W : World) (s : ByteArray) (hl : ¬ s.size ≤ 1048576) (w : World) (hF : Grew W w) :
    Goes Tryd.prog true R0 D1 (EndS Tryd.prog (PostR W)) 60 (G (Frame.enter Tryd.prog 6 #[.string s] .normal) []) w := by
  have e : Frame.enter Tryd.prog 6 #[.string s] .normal = (base 6).at ⟨#[.string s, undef, undef, undef, undef, undef, undef, undef, undef, undef, undef, undef, undef, undef, undef, undef, undef, undef, undef, undef, undef, undef, undef, undef, undef, undef, undef, undef], []⟩ [.code bodyX] := by
    simp [Frame.enter, Frame.at, Tryd.func6, base, bodyX, Tryd.f6]
  rw [e]
  have hlen := events_len_string s
  have hi : (1048576 : Int) < (s.size : Int) := by omega
  simp only [bodyX, Tryd.f6, Option.getD_some]
  repeat (refine Goes.step rfl (fun _ h₁ => ?_); replace hF := hF.r0 h₁; clear h₁; (first | own_rw | (rw [stepG_ret']; simp only [goes_go])); refine ⟨⟨rfl, by simp⟩, ?_⟩)
  (refine Goes.step rfl (fun w₁ h₁ => ?_); replace hF := hF.r0 h₁; clear h₁; refine goes_oper_k rfl rfl (by decide) (fun K hK => ?_); go_simp; refine hK _ _ ⟨⟨rfl, fun e he => ?_⟩, ?_⟩; (have hm := mem_listed he; simp [go_sem, *] at hm); clear hK K)
  repeat (refine Goes.step rfl (fun _ h₁ => ?_); replace hF := hF.r0 h₁; clear h₁; (first | own_rw | (rw [stepG_ret']; simp only [goes_go])); refine ⟨⟨rfl, by simp⟩, ?_⟩)
  (refine Goes.step rfl (fun w₁ h₁ => ?_); replace hF := hF.r0 h₁; clear h₁; refine goes_oper_k rfl rfl (by decide) (fun K hK => ?_); go_simp; refine hK _ _ ⟨⟨rfl, fun e he => ?_⟩, ?_⟩; (have hm := mem_listed he; simp [go_sem, *] at hm); clear hK K)
  (refine Goes.step rfl (fun w₁ h₁ => ?_); replace hF := hF.r0 h₁; clear h₁; refine goes_oper_k rfl rfl (by decide) (fun K hK => ?_); go_simp; refine hK _ _ ⟨⟨rfl, fun e he => ?_⟩, ?_⟩; (have hm := mem_listed he; simp [go_sem, *] at hm); clear hK K)
  (refine Goes.step rfl (fun w₁ h₁ => ?_); replace hF := hF.r0 h₁; clear h₁; refine goes_oper_k rfl rfl (by decide) (fun K hK => ?_); go_simp; refine hK _ _ ⟨⟨rfl, fun e he => ?_⟩, ?_⟩; (have hm := mem_listed he; simp [go_sem, *] at hm); clear hK K)
  repeat (refine Goes.step rfl (fun _ h₁ => ?_); replace hF := hF.r0 h₁; clear h₁; (first | own_rw | (rw [stepG_ret']; simp only [goes_go])); refine ⟨⟨rfl, by simp⟩, ?_⟩)
  (refine Goes.step rfl (fun _ h₁ => ?_); replace hF := hF.r0 h₁; clear h₁; rw [stepG_cond (t := true) rfl]; simp only [goes_go, if_true, if_false, Bool.false_eq_true, ↓reduceIte]; refine ⟨⟨rfl, by simp⟩, ?_⟩)
  repeat (refine Goes.step rfl (fun _ h₁ => ?_); replace hF := hF.r0 h₁; clear h₁; (first | own_rw | (rw [stepG_ret']; simp only [goes_go])); refine ⟨⟨rfl, by simp⟩, ?_⟩)
  (refine Goes.step rfl (fun w₁ h₁ => ?_); replace hF := hF.r0 h₁; clear h₁; refine goes_oper_k rfl rfl (by decide) (fun K hK => ?_); go_simp; refine hK _ _ ⟨⟨rfl, fun e he => ?_⟩, ?_⟩; (have hm := mem_listed he; simp [go_sem, *] at hm); clear hK K)
  repeat (refine Goes.step rfl (fun _ h₁ => ?_); replace hF := hF.r0 h₁; clear h₁; (first | own_rw | (rw [stepG_ret']; simp only [goes_go])); refine ⟨⟨rfl, by simp⟩, ?_⟩)
  exact Goes.stop fun w' h' => ⟨rfl, .bool true, fun w => by simp [G, stepG, unwind, doReturn, results, Frame.at, base, Tryd.func6, Tryd.f6, seen, GStep.after], rfl, hF.r0 h'⟩

/-- ████ THE LAW's RUN. ████ -/
theorem exactUnsquash_run (s : ByteArray) (W : World) (hT : Tabs W) : ∃ M last o w' t', runNT Tryd.prog (M + 1) (solo (G (Frame.enter Tryd.prog 6 #[.string s] .normal) []) W) #[] = (.ended o w', t') ∧
    runN Tryd.prog M (solo (G (Frame.enter Tryd.prog 6 #[.string s] .normal) []) W) = .next last ∧ step Tryd.prog last = .ended o w' ∧ Conc.Good Tryd.prog (PostR W) last o w' t' := by
  refine the_end (fun v w d h => ⟨h.1, h.2.r0 ⟨d, rfl⟩⟩) ?_
  by_cases hl : s.size ≤ 1048576
  · refine Beside.trans (Q := fun g w => g = G (Frame.enter Tryd.prog 18 #[.string s] .normal) [frX1 s] ∧ Grew W w) (beside_of_T fun t => goes_beside (fun g w h => by rw [h.1]; rfl) _ _ _ (stageX1 W s hl _ ((Grew.refl W).re t 0))) ?_
    rintro g w ⟨rfl, hF⟩
    refine (specUnsquashB w s hl (frX1 s) []).trans ?_
    rintro g w1 ⟨rfl, hF1⟩
    refine Beside.trans (Q := fun g w => g = G (Frame.enter Tryd.prog 10 #[.string s] .normal) [frX2 s (strOf ((unsqO s.data.toList).getD [])) (unsqO s.data.toList).isSome] ∧ Grew W w) (beside_of_T fun t => goes_beside (fun g w h => by rw [h.1]; rfl) _ _ _ (stageX2 W s _ _ _ ((hF.trans hF1).re t 0))) ?_
    rintro g w2 ⟨rfl, hF2⟩
    refine (unsquash_beside w2 s (frX2 s (strOf ((unsqO s.data.toList).getD [])) (unsqO s.data.toList).isSome) [] hl (hT.grew hF2)).trans ?_
    rintro g w3 ⟨rfl, hF3⟩
    exact beside_of_T fun t => goes_beside (fun g w h => h.1) _ _ _ (stageX3 W s _ _ _ ((hF2.trans hF3).re t 0))
  · exact beside_of_T fun t => goes_beside (fun g w h => h.1) _ _ _ (stageX0 W s hl _ ((Grew.refl W).re t 0))
end Go.Proofs.YtnmlhjigiemfgaaDoor
