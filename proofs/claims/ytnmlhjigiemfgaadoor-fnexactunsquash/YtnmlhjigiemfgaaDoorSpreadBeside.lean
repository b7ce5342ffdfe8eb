/- impl.Spread, beside leavers. -/
import Derived.Test.YtnmlhjigiemfgaaDoorBesideKit
import Derived.Test.YtnmlhjigiemfgaaDoorImplSpreadRuns2
namespace Go.Proofs.YtnmlhjigiemfgaaDoor
open Go Go.Conc Go.RowKit

theorem goes_leaveF {P : Program} {main : Bool} {b : Frame} {a : Act} {todo : List Item} {fr : Frame} {cs : List Frame} {w : World} {fn : Func} {K : Goroutine → World → Array Event → Prop} {v : Value} (hn : b.kind = .normal) (hd : a.defers = []) (hf : P.funcs[b.fn]? = some fn) (hr : ResultsC P fn a.tmps v)
    (h : K (G (fr.finish v) cs) w #[]) : (stepG P main (G { b.at a todo with mode := .returning } (fr :: cs)) w).goes K := by
  rw [stepG_leave hn hd hf (hr w).1 (hr w).2]
  exact h

theorem closedSpread : Closed Tryd.prog [24, 37, 36] := by
  refine ⟨fun f hf => ?_, no_init (by kernel_rfl)⟩
  simp at hf
  rcases hf with rfl | rfl | rfl
  · exact .body _ _ Tryd.func24 (by rfl) rfl (by kernel_rfl)
  · exact .body _ _ Tryd.func37 (by rfl) rfl (by kernel_rfl)
  · exact .body _ _ Tryd.func36 (by rfl) rfl (by kernel_rfl)
theorem spreadRunsB (W : World) (s : ByteArray) (hs : s.size ≤ 1048576) (fr : Frame) (cs : List Frame) :
    Beside Tryd.prog (G (Frame.enter Tryd.prog 24 #[.string s] .normal) (fr :: cs)) W fun g' w' => g' = G (fr.finish (sprT (sprM s.data.toList))) cs ∧ Grew W w' := by
  refine (beside_calls closedSpread Tryd.func24 rfl (by kernel_rfl) (fun tmps => ⟨_, resultsC_tmp2 (by rfl) tmps⟩) (R := fun v w' => v = sprT (sprM s.data.toList) ∧ Grew W w') (fun v w t d h => ⟨h.1, h.2.re t d⟩)
    (fun t => (implSpreadRuns s (reT W t 0) hs).mono fun e w' h => ⟨_, h.1, rfl, ⟨h.2.os, h.2.output, h.2.size, h.2.block⟩⟩) fr cs).mono ?_
  rintro g' w' ⟨v, rfl, rfl, h⟩
  exact ⟨rfl, h⟩
theorem sprM_some {l t : List UInt8} (h : sprM l = some t) : sprL l = some t ∧ t.length ≤ 3000 := by
  unfold sprM at h
  split at h
  · cases h
  · rename_i x hx
    split at h
    · rename_i hl; cases h; exact ⟨hx, hl⟩
    · cases h
theorem sprM_none {l : List UInt8} (h : sprM l = none) : spreadO l = none := by
  unfold sprM at h
  split at h
  · rename_i hx; exact spreadO_none hx
  · rename_i x hx
    split at h
    · cases h
    · rename_i hl; rw [spreadO_some hx, if_neg (fun y => hl y.1)]

noncomputable def bodyS : Code := Tryd.f11.body.getD .skip
noncomputable def oS1 : Array Oper := match bodyS with | .seq _ (.seq (.region _ ops _) _) => ops | _ => #[]
noncomputable def TS1 : Code := match bodyS with | .seq _ (.seq _ r) => r | _ => .skip
noncomputable def oS2 : Array Oper := match TS1 with | .seq (.seq (.region _ ops _) _) _ => ops | _ => #[]
noncomputable def CS2 : Code := match TS1 with | .seq (.seq _ c) _ => c | _ => .skip
noncomputable def RS2 : Code := match TS1 with | .seq _ r => r | _ => .skip
noncomputable def frS1 (s : ByteArray) : Frame := (base 11).at ⟨#[.string s, undef, .string ⟨#[]⟩, .bool false, undef, undef, undef, .string s, undef, undef, undef, undef, undef, undef, undef, undef, undef, undef, undef, undef], []⟩ [.inRegion oS1 [1, 2, 3, 4, 5, 6], .code TS1]
noncomputable def frS2 (s : ByteArray) (t : List UInt8) : Frame := (base 11).at ⟨#[.string s, undef, .string ⟨#[]⟩, .bool false, .string (strOf t), .bool true, sprT (some t), .string s, sprT (some t), .string (strOf t), .bool true, .bool true, .bool false, .bool false, .string (strOf t), undef, undef, undef, undef, undef], []⟩ [.inRegion oS2 [4, 5, 6, 7], .code CS2, .code RS2]

section
variable (W : World) (s : ByteArray) (fr : Frame) (cs : List Frame)
set_option maxRecDepth 100000 in
theorem spread1 (w : World) (hF : Grew W w) :
    Goes Tryd.prog true R0 D1 (fun g w => g = G (Frame.enter Tryd.prog 24 #[.string s] .normal) (frS1 s :: fr :: cs) ∧ Grew W w) 60 (G (Frame.enter Tryd.prog 11 #[.string s] .normal) (fr :: cs)) w := by
  have e : Frame.enter Tryd.prog 11 #[.string s] .normal = (base 11).at ⟨#[.string s, undef, undef, undef, undef, undef, undef, undef, undef, undef, undef, undef, undef, undef, undef, undef, undef, undef, undef, undef], []⟩ [.code bodyS] := by
    simp [Frame.enter, Frame.at, Tryd.func11, base, bodyS, Tryd.f11]
  rw [e]
  simp only [frS1, oS1, TS1, bodyS, Tryd.f11, Option.getD_some]
  repeat (refine Goes.step rfl (fun _ h₁ => ?_); replace hF := hF.r0 h₁; clear h₁; (first | own_rw | (rw [stepG_ret']; simp only [goes_go])); refine ⟨⟨rfl, by simp⟩, ?_⟩)
  (refine Goes.step rfl (fun w₁ h₁ => ?_); replace hF := hF.r0 h₁; clear h₁; refine goes_oper_k rfl rfl (by decide) (fun K hK => ?_); go_simp; refine hK _ _ ⟨⟨rfl, fun e he => ?_⟩, ?_⟩; (have hm := mem_listed he; simp [go_sem, *] at hm); clear hK K)
  (refine Goes.step rfl (fun w₁ h₁ => ?_); replace hF := hF.r0 h₁; clear h₁; refine goes_oper_k rfl rfl (by decide) (fun K hK => ?_); go_simp; refine hK _ _ ⟨⟨rfl, fun e he => ?_⟩, ?_⟩; (have hm := mem_listed he; simp [go_sem, *] at hm); clear hK K)
  repeat (refine Goes.step rfl (fun _ h₁ => ?_); replace hF := hF.r0 h₁; clear h₁; (first | own_rw | (rw [stepG_ret']; simp only [goes_go])); refine ⟨⟨rfl, by simp⟩, ?_⟩)
  (refine Goes.step rfl (fun w₁ h₁ => ?_); replace hF := hF.r0 h₁; clear h₁; refine goes_oper_k rfl rfl (by decide) (fun K hK => ?_); go_simp; refine hK _ _ ⟨⟨rfl, fun e he => ?_⟩, ?_⟩; (have hm := mem_listed he; simp [go_sem, *] at hm); clear hK K)
  (refine Goes.step rfl (fun w₁ h₁ => ?_); replace hF := hF.r0 h₁; clear h₁; refine goes_enterF (f := 24) rfl rfl (by decide) rfl Tryd.func24 (by rfl) rfl ⟨⟨rfl, by simp⟩, ?_⟩; walk_nrm; refine Goes.stop fun w₂ h₂ => ?_; replace hF := hF.r0 h₂; clear h₂)
  exact ⟨rfl, hF⟩

set_option maxRecDepth 100000 in
theorem spread2n (w : World) (hF : Grew W w) :
    Goes Tryd.prog true R0 D1 (fun g w => g = G (fr.finish (sprT none)) cs ∧ Grew W w) 60 (G ((frS1 s).finish (sprT none)) (fr :: cs)) w := by
  show Goes Tryd.prog true R0 D1 _ 60 (G ((base 11).at ⟨#[.string s, undef, .string ⟨#[]⟩, .bool false, undef, undef, undef, .string s, sprT none, undef, undef, undef, undef, undef, undef, undef, undef, undef, undef, undef], []⟩ [.inRegion oS1 [2, 3, 4, 5, 6], .code TS1]) (fr :: cs)) w
  simp only [oS1, TS1, bodyS, Tryd.f11, Option.getD_some, sprT]
  (refine Goes.step rfl (fun w₁ h₁ => ?_); replace hF := hF.r0 h₁; clear h₁; refine goes_oper_k rfl rfl (by decide) (fun K hK => ?_); go_simp; refine hK _ _ ⟨⟨rfl, fun e he => ?_⟩, ?_⟩; (have hm := mem_listed he; simp [go_sem, *] at hm); clear hK K)
  (refine Goes.step rfl (fun w₁ h₁ => ?_); replace hF := hF.r0 h₁; clear h₁; refine goes_oper_k rfl rfl (by decide) (fun K hK => ?_); go_simp; refine hK _ _ ⟨⟨rfl, fun e he => ?_⟩, ?_⟩; (have hm := mem_listed he; simp [go_sem, *] at hm); clear hK K)
  (refine Goes.step rfl (fun w₁ h₁ => ?_); replace hF := hF.r0 h₁; clear h₁; refine goes_oper_k rfl rfl (by decide) (fun K hK => ?_); go_simp; refine hK _ _ ⟨⟨rfl, fun e he => ?_⟩, ?_⟩; (have hm := mem_listed he; simp [go_sem, *] at hm); clear hK K)
  (refine Goes.step rfl (fun w₁ h₁ => ?_); replace hF := hF.r0 h₁; clear h₁; refine goes_oper_k rfl rfl (by decide) (fun K hK => ?_); go_simp; refine hK _ _ ⟨⟨rfl, fun e he => ?_⟩, ?_⟩; (have hm := mem_listed he; simp [go_sem, *] at hm); clear hK K)
  (refine Goes.step rfl (fun w₁ h₁ => ?_); replace hF := hF.r0 h₁; clear h₁; refine goes_oper_k rfl rfl (by decide) (fun K hK => ?_); go_simp; refine hK _ _ ⟨⟨rfl, fun e he => ?_⟩, ?_⟩; (have hm := mem_listed he; simp [go_sem, *] at hm); clear hK K)
  repeat (refine Goes.step rfl (fun _ h₁ => ?_); replace hF := hF.r0 h₁; clear h₁; (first | own_rw | (rw [stepG_ret']; simp only [goes_go])); refine ⟨⟨rfl, by simp⟩, ?_⟩)
  (refine Goes.step rfl (fun w₁ h₁ => ?_); replace hF := hF.r0 h₁; clear h₁; refine goes_oper_k rfl rfl (by decide) (fun K hK => ?_); go_simp; refine hK _ _ ⟨⟨rfl, fun e he => ?_⟩, ?_⟩; (have hm := mem_listed he; simp [go_sem, *] at hm); clear hK K)
  (refine Goes.step rfl (fun w₁ h₁ => ?_); replace hF := hF.r0 h₁; clear h₁; refine goes_oper_k rfl rfl (by decide) (fun K hK => ?_); go_simp; refine hK _ _ ⟨⟨rfl, fun e he => ?_⟩, ?_⟩; (have hm := mem_listed he; simp [go_sem, *] at hm); clear hK K)
  (refine Goes.step rfl (fun w₁ h₁ => ?_); replace hF := hF.r0 h₁; clear h₁; refine goes_oper_k rfl rfl (by decide) (fun K hK => ?_); go_simp; refine hK _ _ ⟨⟨rfl, fun e he => ?_⟩, ?_⟩; (have hm := mem_listed he; simp [go_sem, *] at hm); clear hK K)
  (refine Goes.step rfl (fun w₁ h₁ => ?_); replace hF := hF.r0 h₁; clear h₁; rw [stepG_unwanted rfl rfl]; simp only [goes_go]; refine ⟨⟨rfl, by simp⟩, ?_⟩; walk_nrm)
  (refine Goes.step rfl (fun w₁ h₁ => ?_); replace hF := hF.r0 h₁; clear h₁; rw [stepG_unwanted rfl rfl]; simp only [goes_go]; refine ⟨⟨rfl, by simp⟩, ?_⟩; walk_nrm)
  (refine Goes.step rfl (fun w₁ h₁ => ?_); replace hF := hF.r0 h₁; clear h₁; rw [stepG_unwanted rfl rfl]; simp only [goes_go]; refine ⟨⟨rfl, by simp⟩, ?_⟩; walk_nrm)
  (refine Goes.step rfl (fun w₁ h₁ => ?_); replace hF := hF.r0 h₁; clear h₁; rw [stepG_unwanted rfl rfl]; simp only [goes_go]; refine ⟨⟨rfl, by simp⟩, ?_⟩; walk_nrm)
  (refine Goes.step rfl (fun w₁ h₁ => ?_); replace hF := hF.r0 h₁; clear h₁; refine goes_oper_k rfl rfl (by decide) (fun K hK => ?_); go_simp; refine hK _ _ ⟨⟨rfl, fun e he => ?_⟩, ?_⟩; (have hm := mem_listed he; simp [go_sem, *] at hm); clear hK K)
  repeat (refine Goes.step rfl (fun _ h₁ => ?_); replace hF := hF.r0 h₁; clear h₁; (first | own_rw | (rw [stepG_ret']; simp only [goes_go])); refine ⟨⟨rfl, by simp⟩, ?_⟩)
  (refine Goes.step rfl (fun _ h₁ => ?_); replace hF := hF.r0 h₁; clear h₁; rw [stepG_cond (t := true) rfl]; simp only [goes_go, if_true, if_false, Bool.false_eq_true, ↓reduceIte]; refine ⟨⟨rfl, by simp⟩, ?_⟩)
  repeat (refine Goes.step rfl (fun _ h₁ => ?_); replace hF := hF.r0 h₁; clear h₁; (first | own_rw | (rw [stepG_ret']; simp only [goes_go])); refine ⟨⟨rfl, by simp⟩, ?_⟩)
  (refine Goes.step rfl (fun w₁ h₁ => ?_); replace hF := hF.r0 h₁; clear h₁; refine goes_oper_k rfl rfl (by decide) (fun K hK => ?_); go_simp; refine hK _ _ ⟨⟨rfl, fun e he => ?_⟩, ?_⟩; (have hm := mem_listed he; simp [go_sem, *] at hm); clear hK K)
  (refine Goes.step rfl (fun w₁ h₁ => ?_); replace hF := hF.r0 h₁; clear h₁; refine goes_oper_k rfl rfl (by decide) (fun K hK => ?_); go_simp; refine hK _ _ ⟨⟨rfl, fun e he => ?_⟩, ?_⟩; (have hm := mem_listed he; simp [go_sem, *] at hm); clear hK K)
  repeat (refine Goes.step rfl (fun _ h₁ => ?_); replace hF := hF.r0 h₁; clear h₁; (first | own_rw | (rw [stepG_ret']; simp only [goes_go])); refine ⟨⟨rfl, by simp⟩, ?_⟩)
  (refine Goes.step rfl (fun w₁ h₁ => ?_); replace hF := hF.r0 h₁; clear h₁; refine goes_leaveF rfl rfl Tryd.func11 (resultsC_tmp2 (by rfl) _) ⟨⟨rfl, by simp⟩, ?_⟩; refine Goes.stop fun w₂ h₂ => ?_; replace hF := hF.r0 h₂; clear h₂)
  exact ⟨rfl, hF⟩

set_option maxRecDepth 100000 in
theorem spread2s (t : List UInt8) (w : World) (hF : Grew W w) :
    Goes Tryd.prog true R0 D1 (fun g w => g = G (Frame.enter Tryd.prog 12 #[.string (strOf t)] .normal) (frS2 s t :: fr :: cs) ∧ Grew W w) 60 (G ((frS1 s).finish (sprT (some t))) (fr :: cs)) w := by
  show Goes Tryd.prog true R0 D1 _ 60 (G ((base 11).at ⟨#[.string s, undef, .string ⟨#[]⟩, .bool false, undef, undef, undef, .string s, sprT (some t), undef, undef, undef, undef, undef, undef, undef, undef, undef, undef, undef], []⟩ [.inRegion oS1 [2, 3, 4, 5, 6], .code TS1]) (fr :: cs)) w
  simp only [frS2, oS1, oS2, CS2, RS2, TS1, bodyS, Tryd.f11, Option.getD_some, sprT]
  (refine Goes.step rfl (fun w₁ h₁ => ?_); replace hF := hF.r0 h₁; clear h₁; refine goes_oper_k rfl rfl (by decide) (fun K hK => ?_); go_simp; refine hK _ _ ⟨⟨rfl, fun e he => ?_⟩, ?_⟩; (have hm := mem_listed he; simp [go_sem, *] at hm); clear hK K)
  (refine Goes.step rfl (fun w₁ h₁ => ?_); replace hF := hF.r0 h₁; clear h₁; refine goes_oper_k rfl rfl (by decide) (fun K hK => ?_); go_simp; refine hK _ _ ⟨⟨rfl, fun e he => ?_⟩, ?_⟩; (have hm := mem_listed he; simp [go_sem, *] at hm); clear hK K)
  (refine Goes.step rfl (fun w₁ h₁ => ?_); replace hF := hF.r0 h₁; clear h₁; refine goes_oper_k rfl rfl (by decide) (fun K hK => ?_); go_simp; refine hK _ _ ⟨⟨rfl, fun e he => ?_⟩, ?_⟩; (have hm := mem_listed he; simp [go_sem, *] at hm); clear hK K)
  (refine Goes.step rfl (fun w₁ h₁ => ?_); replace hF := hF.r0 h₁; clear h₁; refine goes_oper_k rfl rfl (by decide) (fun K hK => ?_); go_simp; refine hK _ _ ⟨⟨rfl, fun e he => ?_⟩, ?_⟩; (have hm := mem_listed he; simp [go_sem, *] at hm); clear hK K)
  (refine Goes.step rfl (fun w₁ h₁ => ?_); replace hF := hF.r0 h₁; clear h₁; refine goes_oper_k rfl rfl (by decide) (fun K hK => ?_); go_simp; refine hK _ _ ⟨⟨rfl, fun e he => ?_⟩, ?_⟩; (have hm := mem_listed he; simp [go_sem, *] at hm); clear hK K)
  repeat (refine Goes.step rfl (fun _ h₁ => ?_); replace hF := hF.r0 h₁; clear h₁; (first | own_rw | (rw [stepG_ret']; simp only [goes_go])); refine ⟨⟨rfl, by simp⟩, ?_⟩)
  (refine Goes.step rfl (fun w₁ h₁ => ?_); replace hF := hF.r0 h₁; clear h₁; refine goes_oper_k rfl rfl (by decide) (fun K hK => ?_); go_simp; refine hK _ _ ⟨⟨rfl, fun e he => ?_⟩, ?_⟩; (have hm := mem_listed he; simp [go_sem, *] at hm); clear hK K)
  (refine Goes.step rfl (fun w₁ h₁ => ?_); replace hF := hF.r0 h₁; clear h₁; refine goes_oper_k rfl rfl (by decide) (fun K hK => ?_); go_simp; refine hK _ _ ⟨⟨rfl, fun e he => ?_⟩, ?_⟩; (have hm := mem_listed he; simp [go_sem, *] at hm); clear hK K)
  (refine Goes.step rfl (fun w₁ h₁ => ?_); replace hF := hF.r0 h₁; clear h₁; refine goes_oper_k rfl rfl (by decide) (fun K hK => ?_); go_simp; refine hK _ _ ⟨⟨rfl, fun e he => ?_⟩, ?_⟩; (have hm := mem_listed he; simp [go_sem, *] at hm); clear hK K)
  (refine Goes.step rfl (fun w₁ h₁ => ?_); replace hF := hF.r0 h₁; clear h₁; refine goes_oper_k rfl rfl (by decide) (fun K hK => ?_); go_simp; refine hK _ _ ⟨⟨rfl, fun e he => ?_⟩, ?_⟩; (have hm := mem_listed he; simp [go_sem, *] at hm); clear hK K)
  (refine Goes.step rfl (fun w₁ h₁ => ?_); replace hF := hF.r0 h₁; clear h₁; refine goes_enterF (f := 12) rfl rfl (by decide) rfl Tryd.func12 (by rfl) rfl ⟨⟨rfl, by simp⟩, ?_⟩; walk_nrm; refine Goes.stop fun w₂ h₂ => ?_; replace hF := hF.r0 h₂; clear h₂)
  exact ⟨rfl, hF⟩

set_option maxRecDepth 100000 in
theorem spread3t (t : List UInt8) (x : ByteArray) (hb : (x.toList == s.toList) = true) (w : World) (hF : Grew W w) :
    Goes Tryd.prog true R0 D1 (fun g w => g = G (fr.finish (sprT (some t))) cs ∧ Grew W w) 60 (G ((frS2 s t).finish (.string x)) (fr :: cs)) w := by
  show Goes Tryd.prog true R0 D1 _ 60 (G ((base 11).at ⟨#[.string s, undef, .string ⟨#[]⟩, .bool false, .string (strOf t), .bool true, sprT (some t), .string s, sprT (some t), .string (strOf t), .bool true, .bool true, .bool false, .bool false, .string (strOf t), .string x, undef, undef, undef, undef], []⟩ [.inRegion oS2 [5, 6, 7], .code CS2, .code RS2]) (fr :: cs)) w
  simp only [oS2, CS2, RS2, TS1, bodyS, Tryd.f11, Option.getD_some, sprT]
  (refine Goes.step rfl (fun w₁ h₁ => ?_); replace hF := hF.r0 h₁; clear h₁; refine goes_oper_k rfl rfl (by decide) (fun K hK => ?_); go_simp; refine hK _ _ ⟨⟨rfl, fun e he => ?_⟩, ?_⟩; (have hm := mem_listed he; simp [go_sem, *] at hm); clear hK K)
  (refine Goes.step rfl (fun w₁ h₁ => ?_); replace hF := hF.r0 h₁; clear h₁; refine goes_oper_k rfl rfl (by decide) (fun K hK => ?_); go_simp; refine hK _ _ ⟨⟨rfl, fun e he => ?_⟩, ?_⟩; (have hm := mem_listed he; simp [go_sem, *] at hm); clear hK K)
  (refine Goes.step rfl (fun w₁ h₁ => ?_); replace hF := hF.r0 h₁; clear h₁; refine goes_oper_k rfl rfl (by decide) (fun K hK => ?_); go_simp; refine hK _ _ ⟨⟨rfl, fun e he => ?_⟩, ?_⟩; (have hm := mem_listed he; simp [go_sem, *] at hm); clear hK K)
  repeat (refine Goes.step rfl (fun _ h₁ => ?_); replace hF := hF.r0 h₁; clear h₁; (first | own_rw | (rw [stepG_ret']; simp only [goes_go])); refine ⟨⟨rfl, by simp⟩, ?_⟩)
  (refine Goes.step rfl (fun _ h₁ => ?_); replace hF := hF.r0 h₁; clear h₁; rw [stepG_cond (t := false) rfl]; simp only [goes_go, if_true, if_false, Bool.false_eq_true, ↓reduceIte]; refine ⟨⟨rfl, by simp⟩, ?_⟩)
  repeat (refine Goes.step rfl (fun _ h₁ => ?_); replace hF := hF.r0 h₁; clear h₁; (first | own_rw | (rw [stepG_ret']; simp only [goes_go])); refine ⟨⟨rfl, by simp⟩, ?_⟩)
  (refine Goes.step rfl (fun w₁ h₁ => ?_); replace hF := hF.r0 h₁; clear h₁; refine goes_oper_k rfl rfl (by decide) (fun K hK => ?_); go_simp; refine hK _ _ ⟨⟨rfl, fun e he => ?_⟩, ?_⟩; (have hm := mem_listed he; simp [go_sem, *] at hm); clear hK K)
  (refine Goes.step rfl (fun w₁ h₁ => ?_); replace hF := hF.r0 h₁; clear h₁; refine goes_oper_k rfl rfl (by decide) (fun K hK => ?_); go_simp; refine hK _ _ ⟨⟨rfl, fun e he => ?_⟩, ?_⟩; (have hm := mem_listed he; simp [go_sem, *] at hm); clear hK K)
  (refine Goes.step rfl (fun w₁ h₁ => ?_); replace hF := hF.r0 h₁; clear h₁; refine goes_oper_k rfl rfl (by decide) (fun K hK => ?_); go_simp; refine hK _ _ ⟨⟨rfl, fun e he => ?_⟩, ?_⟩; (have hm := mem_listed he; simp [go_sem, *] at hm); clear hK K)
  repeat (refine Goes.step rfl (fun _ h₁ => ?_); replace hF := hF.r0 h₁; clear h₁; (first | own_rw | (rw [stepG_ret']; simp only [goes_go])); refine ⟨⟨rfl, by simp⟩, ?_⟩)
  (refine Goes.step rfl (fun w₁ h₁ => ?_); replace hF := hF.r0 h₁; clear h₁; refine goes_leaveF rfl rfl Tryd.func11 (resultsC_tmp2 (by rfl) _) ⟨⟨rfl, by simp⟩, ?_⟩; refine Goes.stop fun w₂ h₂ => ?_; replace hF := hF.r0 h₂; clear h₂)
  exact ⟨rfl, hF⟩

set_option maxRecDepth 100000 in
theorem spread3f (t : List UInt8) (x : ByteArray) (hb : (x.toList == s.toList) = false) (w : World) (hF : Grew W w) :
    Goes Tryd.prog true R0 D1 (fun g w => g = G (fr.finish (sprT none)) cs ∧ Grew W w) 60 (G ((frS2 s t).finish (.string x)) (fr :: cs)) w := by
  show Goes Tryd.prog true R0 D1 _ 60 (G ((base 11).at ⟨#[.string s, undef, .string ⟨#[]⟩, .bool false, .string (strOf t), .bool true, sprT (some t), .string s, sprT (some t), .string (strOf t), .bool true, .bool true, .bool false, .bool false, .string (strOf t), .string x, undef, undef, undef, undef], []⟩ [.inRegion oS2 [5, 6, 7], .code CS2, .code RS2]) (fr :: cs)) w
  simp only [oS2, CS2, RS2, TS1, bodyS, Tryd.f11, Option.getD_some, sprT]
  (refine Goes.step rfl (fun w₁ h₁ => ?_); replace hF := hF.r0 h₁; clear h₁; refine goes_oper_k rfl rfl (by decide) (fun K hK => ?_); go_simp; refine hK _ _ ⟨⟨rfl, fun e he => ?_⟩, ?_⟩; (have hm := mem_listed he; simp [go_sem, *] at hm); clear hK K)
  (refine Goes.step rfl (fun w₁ h₁ => ?_); replace hF := hF.r0 h₁; clear h₁; refine goes_oper_k rfl rfl (by decide) (fun K hK => ?_); go_simp; refine hK _ _ ⟨⟨rfl, fun e he => ?_⟩, ?_⟩; (have hm := mem_listed he; simp [go_sem, *] at hm); clear hK K)
  (refine Goes.step rfl (fun w₁ h₁ => ?_); replace hF := hF.r0 h₁; clear h₁; refine goes_oper_k rfl rfl (by decide) (fun K hK => ?_); go_simp; refine hK _ _ ⟨⟨rfl, fun e he => ?_⟩, ?_⟩; (have hm := mem_listed he; simp [go_sem, *] at hm); clear hK K)
  repeat (refine Goes.step rfl (fun _ h₁ => ?_); replace hF := hF.r0 h₁; clear h₁; (first | own_rw | (rw [stepG_ret']; simp only [goes_go])); refine ⟨⟨rfl, by simp⟩, ?_⟩)
  (refine Goes.step rfl (fun _ h₁ => ?_); replace hF := hF.r0 h₁; clear h₁; rw [stepG_cond (t := true) rfl]; simp only [goes_go, if_true, if_false, Bool.false_eq_true, ↓reduceIte]; refine ⟨⟨rfl, by simp⟩, ?_⟩)
  repeat (refine Goes.step rfl (fun _ h₁ => ?_); replace hF := hF.r0 h₁; clear h₁; (first | own_rw | (rw [stepG_ret']; simp only [goes_go])); refine ⟨⟨rfl, by simp⟩, ?_⟩)
  (refine Goes.step rfl (fun w₁ h₁ => ?_); replace hF := hF.r0 h₁; clear h₁; refine goes_oper_k rfl rfl (by decide) (fun K hK => ?_); go_simp; refine hK _ _ ⟨⟨rfl, fun e he => ?_⟩, ?_⟩; (have hm := mem_listed he; simp [go_sem, *] at hm); clear hK K)
  (refine Goes.step rfl (fun w₁ h₁ => ?_); replace hF := hF.r0 h₁; clear h₁; refine goes_oper_k rfl rfl (by decide) (fun K hK => ?_); go_simp; refine hK _ _ ⟨⟨rfl, fun e he => ?_⟩, ?_⟩; (have hm := mem_listed he; simp [go_sem, *] at hm); clear hK K)
  repeat (refine Goes.step rfl (fun _ h₁ => ?_); replace hF := hF.r0 h₁; clear h₁; (first | own_rw | (rw [stepG_ret']; simp only [goes_go])); refine ⟨⟨rfl, by simp⟩, ?_⟩)
  (refine Goes.step rfl (fun w₁ h₁ => ?_); replace hF := hF.r0 h₁; clear h₁; refine goes_leaveF rfl rfl Tryd.func11 (resultsC_tmp2 (by rfl) _) ⟨⟨rfl, by simp⟩, ?_⟩; refine Goes.stop fun w₂ h₂ => ?_; replace hF := hF.r0 h₂; clear h₂)
  exact ⟨rfl, hF⟩
end

/-- ████ SPREAD, WHOLE, BESIDE LEAVERS. ████ 'hst': where it stands behind is running. -/
theorem spread_beside (W : World) (s : ByteArray) (fr : Frame) (cs : List Frame) (hs : s.size ≤ 1048576) :
    Beside Tryd.prog (G (Frame.enter Tryd.prog 11 #[.string s] .normal) (fr :: cs)) W (fun g' w' => g' = G (fr.finish (sprT (spreadO s.data.toList))) cs ∧ Grew W w') := by
  refine Beside.trans (Q := fun g w => g = G (Frame.enter Tryd.prog 24 #[.string s] .normal) (frS1 s :: fr :: cs) ∧ Grew W w) (beside_of_T fun t => goes_beside (fun g w h => by rw [h.1]; rfl) _ _ _ (spread1 W s fr cs _ ((Grew.refl W).re t 0))) ?_
  rintro g w ⟨rfl, hF⟩
  refine (spreadRunsB w s hs (frS1 s) (fr :: cs)).trans ?_
  rintro g w1 ⟨rfl, hF1⟩
  have hF2 := hF.trans hF1
  cases hm : sprM s.data.toList with
  | none =>
    rw [sprM_none hm]
    exact beside_of_T fun t => goes_beside (fun g w h => by rw [h.1]; rfl) _ _ _ (spread2n W s fr cs _ (hF2.re t 0))
  | some t =>
    obtain ⟨h1, h2⟩ := sprM_some hm
    refine Beside.trans (Q := fun g w => g = G (Frame.enter Tryd.prog 12 #[.string (strOf t)] .normal) (frS2 s t :: fr :: cs) ∧ Grew W w) (beside_of_T fun t' => goes_beside (fun g w h => by rw [h.1]; rfl) _ _ _ (spread2s W s fr cs t _ (hF2.re t' 0))) ?_
    rintro g w3 ⟨rfl, hF3⟩
    refine (runs_beside w3 (strOf t) (frS2 s t) (fr :: cs) (by rw [strOf_size]; omega) _ (tell_runs _)).trans ?_
    rintro g w4 ⟨rfl, hF4⟩
    rw [strOf_data]
    rw [spreadO_some h1]
    by_cases he : runsV t = s.data.toList
    · rw [if_pos ⟨h2, he⟩]
      have hb : ((strOf (runsV t)).toList == s.toList) = true := by
        rw [he]
        have : strOf s.data.toList = s := by cases s; simp [strOf]
        rw [this]; exact beq_self_eq_true _
      exact beside_of_T fun t' => goes_beside (fun g w h => by rw [h.1]; rfl) _ _ _ (spread3t W s fr cs t _ hb _ ((hF3.trans hF4).re t' 0))
    · rw [if_neg (fun y => he y.2)]
      have hb : ((strOf (runsV t)).toList == s.toList) = false := by
        rw [Lib.toList_data, Lib.toList_data, strOf_data]
        simpa using he
      exact beside_of_T fun t' => goes_beside (fun g w h => by rw [h.1]; rfl) _ _ _ (spread3f W s fr cs t _ hb _ ((hF3.trans hF4).re t' 0))
end Go.Proofs.YtnmlhjigiemfgaaDoor
