/- impl.Unsquash, beside leavers. -/
import Derived.Test.YtnmlhjigiemfgaaDoorSquashBeside
namespace Go.Proofs.YtnmlhjigiemfgaaDoor
open Go Go.Conc Go.RowKit

theorem schedule_of {ops : Array Oper} {n : Nat} {O : List (List Nat)} (hs : ops.size = n) (h : allOrd .any ops n (Array.replicate n false) = O) (t : Nat) : Region.schedule true ops t ∈ O := by
  rw [← h]
  have : Region.schedule true ops t = Region.linearise.go .any ops n t (Array.replicate n false) [] := by
    simp only [Region.schedule, Bool.true_or, if_true]
    rw [← hs]
    rfl
  rw [this]
  exact linearise_in _ _ _ _ _
theorem extractT (q : ByteArray) (k : Nat) : q.extract 0 k = strOf (q.data.toList.take k) := by
  have e : (q.extract 0 k).data.toList = q.data.toList.take k := by
    rw [ByteArray.data_extract, Array.toList_extract, List.extract_eq_take_drop, List.drop_zero, Nat.sub_zero]
  have e2 : strOf ((q.extract 0 k).data.toList) = q.extract 0 k := by simp only [strOf, Array.toArray_toList]
  rw [← e2, e]

noncomputable def bodyU : Code := Tryd.f10.body.getD .skip
noncomputable def oU3 : Array Oper := match bodyU with | .seq _ (.seq _ (.seq (.region _ ops _) _)) => ops | _ => #[]
noncomputable def TU : Code := match bodyU with | .seq _ (.seq _ (.seq _ r)) => r | _ => .skip
noncomputable def oU4 : Array Oper := match TU with | .seq (.seq (.region _ ops _) _) _ => ops | _ => #[]
noncomputable def CU : Code := match TU with | .seq (.seq _ c) _ => c | _ => .skip
noncomputable def RU : Code := match TU with | .seq _ r => r | _ => .skip
noncomputable def frU1 (s q : ByteArray) : Frame := (base 10).at ⟨#[.string s, undef, .string ⟨#[]⟩, .bool false, undef, undef, .string s, .int .i64 s.size, .bool false, undef, .string s, .string q, undef, undef, undef, undef, undef, undef, undef, undef, undef, undef, undef, undef, undef], []⟩ [.inRegion oU3 [2, 3, 4, 5, 6, 7], .code TU]
noncomputable def frU2 (s q : ByteArray) (t : List UInt8) (v20 v21 : Value) (rest : List Nat) : Frame := (base 10).at ⟨#[.string s, undef, .string ⟨#[]⟩, .bool false, .string (strOf t), .bool true, .string s, .int .i64 s.size, .bool false, sprT (some t), .string s, .string q, sprT (some t), .string (strOf t), .bool true, .bool true, .bool false, .bool false, .string (strOf t), undef, v20, v21, undef, undef, undef], []⟩ [.inRegion oU4 (4 :: rest), .code CU, .code RU]
theorem ordersU : allOrd .any oU4 9 (Array.replicate 9 false) = [[0, 1, 2, 3, 4, 5, 6, 7, 8], [0, 1, 2, 3, 5, 4, 6, 7, 8], [0, 1, 2, 3, 5, 6, 4, 7, 8], [0, 1, 2, 5, 3, 4, 6, 7, 8], [0, 1, 2, 5, 3, 6, 4, 7, 8], [0, 1, 2, 5, 6, 3, 4, 7, 8]] := by kernel_rfl

section
variable (W : World) (s : ByteArray) (fr : Frame) (cs : List Frame)
set_option maxRecDepth 100000 in
theorem unsq0 (hl : s.size < 18) (w : World) (hF : Grew W w) :
    Goes Tryd.prog true R0 D1 (fun g w => g = G (fr.finish (sprT none)) cs ∧ Grew W w) 60 (G (Frame.enter Tryd.prog 10 #[.string s] .normal) (fr :: cs)) w := by
  have e : Frame.enter Tryd.prog 10 #[.string s] .normal = (base 10).at ⟨#[.string s, undef, undef, undef, undef, undef, undef, undef, undef, undef, undef, undef, undef, undef, undef, undef, undef, undef, undef, undef, undef, undef, undef, undef, undef], []⟩ [.code bodyU] := by
    simp [Frame.enter, Frame.at, Tryd.func10, base, bodyU, Tryd.f10]
  rw [e]
  have hlen := events_len_string s
  have hi : (s.size : Int) < 18 := by omega
  simp only [bodyU, Tryd.f10, Option.getD_some]
  repeat (refine Goes.step rfl (fun _ h₁ => ?_); replace hF := hF.r0 h₁; clear h₁; (first | own_rw | (rw [stepG_ret']; simp only [goes_go])); refine ⟨⟨rfl, by simp⟩, ?_⟩)
  (refine Goes.step rfl (fun w₁ h₁ => ?_); replace hF := hF.r0 h₁; clear h₁; refine goes_oper_k rfl rfl (by decide) (fun K hK => ?_); go_simp; refine hK _ _ ⟨⟨rfl, fun e he => ?_⟩, ?_⟩; (have hm := mem_listed he; simp [go_sem, *] at hm); clear hK K)
  (refine Goes.step rfl (fun w₁ h₁ => ?_); replace hF := hF.r0 h₁; clear h₁; refine goes_oper_k rfl rfl (by decide) (fun K hK => ?_); go_simp; refine hK _ _ ⟨⟨rfl, fun e he => ?_⟩, ?_⟩; (have hm := mem_listed he; simp [go_sem, *] at hm); clear hK K)
  repeat (refine Goes.step rfl (fun _ h₁ => ?_); replace hF := hF.r0 h₁; clear h₁; (first | own_rw | (rw [stepG_ret']; simp only [goes_go])); refine ⟨⟨rfl, by simp⟩, ?_⟩)
  (refine Goes.step rfl (fun w₁ h₁ => ?_); replace hF := hF.r0 h₁; clear h₁; refine goes_oper_k rfl rfl (by decide) (fun K hK => ?_); go_simp; refine hK _ _ ⟨⟨rfl, fun e he => ?_⟩, ?_⟩; (have hm := mem_listed he; simp [go_sem, *] at hm); clear hK K)
  (refine Goes.step rfl (fun w₁ h₁ => ?_); replace hF := hF.r0 h₁; clear h₁; refine goes_oper_k rfl rfl (by decide) (fun K hK => ?_); go_simp; refine hK _ _ ⟨⟨rfl, fun e he => ?_⟩, ?_⟩; (have hm := mem_listed he; simp [go_sem, *] at hm); clear hK K)
  (refine Goes.step rfl (fun w₁ h₁ => ?_); replace hF := hF.r0 h₁; clear h₁; refine goes_oper_k rfl rfl (by decide) (fun K hK => ?_); go_simp; refine hK _ _ ⟨⟨rfl, fun e he => ?_⟩, ?_⟩; (have hm := mem_listed he; simp [go_sem, *] at hm); clear hK K)
  repeat (refine Goes.step rfl (fun _ h₁ => ?_); replace hF := hF.r0 h₁; clear h₁; (first | own_rw | (rw [stepG_ret']; simp only [goes_go])); refine ⟨⟨rfl, by simp⟩, ?_⟩)
  (refine Goes.step rfl (fun _ h₁ => ?_); replace hF := hF.r0 h₁; clear h₁; rw [stepG_cond (t := true) rfl]; simp only [goes_go, if_true, if_false, Bool.false_eq_true, ↓reduceIte]; refine ⟨⟨rfl, by simp⟩, ?_⟩)
  repeat (refine Goes.step rfl (fun _ h₁ => ?_); replace hF := hF.r0 h₁; clear h₁; (first | own_rw | (rw [stepG_ret']; simp only [goes_go])); refine ⟨⟨rfl, by simp⟩, ?_⟩)
  (refine Goes.step rfl (fun w₁ h₁ => ?_); replace hF := hF.r0 h₁; clear h₁; refine goes_oper_k rfl rfl (by decide) (fun K hK => ?_); go_simp; refine hK _ _ ⟨⟨rfl, fun e he => ?_⟩, ?_⟩; (have hm := mem_listed he; simp [go_sem, *] at hm); clear hK K)
  (refine Goes.step rfl (fun w₁ h₁ => ?_); replace hF := hF.r0 h₁; clear h₁; refine goes_oper_k rfl rfl (by decide) (fun K hK => ?_); go_simp; refine hK _ _ ⟨⟨rfl, fun e he => ?_⟩, ?_⟩; (have hm := mem_listed he; simp [go_sem, *] at hm); clear hK K)
  repeat (refine Goes.step rfl (fun _ h₁ => ?_); replace hF := hF.r0 h₁; clear h₁; (first | own_rw | (rw [stepG_ret']; simp only [goes_go])); refine ⟨⟨rfl, by simp⟩, ?_⟩)
  (refine Goes.step rfl (fun w₁ h₁ => ?_); replace hF := hF.r0 h₁; clear h₁; refine goes_leaveF rfl rfl Tryd.func10 (resultsC_tmp2 (by rfl) _) ⟨⟨rfl, by simp⟩, ?_⟩; refine Goes.stop fun w₂ h₂ => ?_; replace hF := hF.r0 h₂; clear h₂)
  exact ⟨rfl, hF⟩
set_option maxRecDepth 100000 in
theorem unsq1 (hl : ¬ s.size < 18) (w : World) (hF : Grew W w) (q : ByteArray) (HE : s.extract 18 s.size = q) :
    Goes Tryd.prog true R0 D1 (fun g w => g = G (Frame.enter Tryd.prog 11 #[.string q] .normal) (frU1 s q :: fr :: cs) ∧ Grew W w) 60 (G (Frame.enter Tryd.prog 10 #[.string s] .normal) (fr :: cs)) w := by
  have e : Frame.enter Tryd.prog 10 #[.string s] .normal = (base 10).at ⟨#[.string s, undef, undef, undef, undef, undef, undef, undef, undef, undef, undef, undef, undef, undef, undef, undef, undef, undef, undef, undef, undef, undef, undef, undef, undef], []⟩ [.code bodyU] := by
    simp [Frame.enter, Frame.at, Tryd.func10, base, bodyU, Tryd.f10]
  rw [e]
  have hlen := events_len_string s
  have hi : ¬ (s.size : Int) < 18 := by omega
  have hi2 : (18 : Int) ≤ (s.size : Int) := by omega
  simp only [frU1, oU3, TU, bodyU, Tryd.f10, Option.getD_some]
  repeat (refine Goes.step rfl (fun _ h₁ => ?_); replace hF := hF.r0 h₁; clear h₁; (first | own_rw | (rw [stepG_ret']; simp only [goes_go])); refine ⟨⟨rfl, by simp⟩, ?_⟩)
  (refine Goes.step rfl (fun w₁ h₁ => ?_); replace hF := hF.r0 h₁; clear h₁; refine goes_oper_k rfl rfl (by decide) (fun K hK => ?_); go_simp; refine hK _ _ ⟨⟨rfl, fun e he => ?_⟩, ?_⟩; (have hm := mem_listed he; simp [go_sem, *] at hm); clear hK K)
  (refine Goes.step rfl (fun w₁ h₁ => ?_); replace hF := hF.r0 h₁; clear h₁; refine goes_oper_k rfl rfl (by decide) (fun K hK => ?_); go_simp; refine hK _ _ ⟨⟨rfl, fun e he => ?_⟩, ?_⟩; (have hm := mem_listed he; simp [go_sem, *] at hm); clear hK K)
  repeat (refine Goes.step rfl (fun _ h₁ => ?_); replace hF := hF.r0 h₁; clear h₁; (first | own_rw | (rw [stepG_ret']; simp only [goes_go])); refine ⟨⟨rfl, by simp⟩, ?_⟩)
  (refine Goes.step rfl (fun w₁ h₁ => ?_); replace hF := hF.r0 h₁; clear h₁; refine goes_oper_k rfl rfl (by decide) (fun K hK => ?_); go_simp; refine hK _ _ ⟨⟨rfl, fun e he => ?_⟩, ?_⟩; (have hm := mem_listed he; simp [go_sem, *] at hm); clear hK K)
  (refine Goes.step rfl (fun w₁ h₁ => ?_); replace hF := hF.r0 h₁; clear h₁; refine goes_oper_k rfl rfl (by decide) (fun K hK => ?_); go_simp; refine hK _ _ ⟨⟨rfl, fun e he => ?_⟩, ?_⟩; (have hm := mem_listed he; simp [go_sem, *] at hm); clear hK K)
  (refine Goes.step rfl (fun w₁ h₁ => ?_); replace hF := hF.r0 h₁; clear h₁; refine goes_oper_k rfl rfl (by decide) (fun K hK => ?_); go_simp; refine hK _ _ ⟨⟨rfl, fun e he => ?_⟩, ?_⟩; (have hm := mem_listed he; simp [go_sem, *] at hm); clear hK K)
  repeat (refine Goes.step rfl (fun _ h₁ => ?_); replace hF := hF.r0 h₁; clear h₁; (first | own_rw | (rw [stepG_ret']; simp only [goes_go])); refine ⟨⟨rfl, by simp⟩, ?_⟩)
  (refine Goes.step rfl (fun _ h₁ => ?_); replace hF := hF.r0 h₁; clear h₁; rw [stepG_cond (t := false) rfl]; simp only [goes_go, if_true, if_false, Bool.false_eq_true, ↓reduceIte]; refine ⟨⟨rfl, by simp⟩, ?_⟩)
  repeat (refine Goes.step rfl (fun _ h₁ => ?_); replace hF := hF.r0 h₁; clear h₁; (first | own_rw | (rw [stepG_ret']; simp only [goes_go])); refine ⟨⟨rfl, by simp⟩, ?_⟩)
  (refine Goes.step rfl (fun w₁ h₁ => ?_); replace hF := hF.r0 h₁; clear h₁; refine goes_oper_k rfl rfl (by decide) (fun K hK => ?_); go_simp; refine hK _ _ ⟨⟨rfl, fun e he => ?_⟩, ?_⟩; (have hm := mem_listed he; simp [go_sem, *] at hm); clear hK K)
  (refine Goes.step rfl (fun w₁ h₁ => ?_); replace hF := hF.r0 h₁; clear h₁; refine goes_oper_k rfl rfl (by decide) (fun K hK => ?_); go_simp; (try rw [HE]); refine hK _ _ ⟨⟨rfl, fun e he => ?_⟩, ?_⟩; (have hm := mem_listed he; first | (simp [go_sem, *] at hm; done) | exact plain_exec (by rfl) _ hm); clear hK K)
  (refine Goes.step rfl (fun w₁ h₁ => ?_); replace hF := hF.r0 h₁; clear h₁; refine goes_enterF (f := 11) rfl rfl (by decide) rfl Tryd.func11 (by rfl) rfl ⟨⟨rfl, by simp⟩, ?_⟩; walk_nrm; refine Goes.stop fun w₂ h₂ => ?_; replace hF := hF.r0 h₂; clear h₂)
  exact ⟨rfl, hF⟩

set_option maxRecDepth 100000 in
theorem unsq2n (q : ByteArray) (w : World) (hF : Grew W w) :
    Goes Tryd.prog true R0 D1 (fun g w => g = G (fr.finish (sprT none)) cs ∧ Grew W w) 80 (G ((frU1 s q).finish (sprT none)) (fr :: cs)) w := by
  show Goes Tryd.prog true R0 D1 _ 80 (G ((base 10).at ⟨#[.string s, undef, .string ⟨#[]⟩, .bool false, undef, undef, .string s, .int .i64 s.size, .bool false, undef, .string s, .string q, sprT none, undef, undef, undef, undef, undef, undef, undef, undef, undef, undef, undef, undef], []⟩ [.inRegion oU3 [3, 4, 5, 6, 7], .code TU]) (fr :: cs)) w
  have hord := schedule_of (ops := oU4) rfl ordersU
  simp only [oU3, oU4, TU, bodyU, Tryd.f10, Option.getD_some, sprT] at hord ⊢
  (refine Goes.step rfl (fun w₁ h₁ => ?_); replace hF := hF.r0 h₁; clear h₁; refine goes_oper_k rfl rfl (by decide) (fun K hK => ?_); go_simp; refine hK _ _ ⟨⟨rfl, fun e he => ?_⟩, ?_⟩; (have hm := mem_listed he; simp [go_sem, *] at hm); clear hK K)
  (refine Goes.step rfl (fun w₁ h₁ => ?_); replace hF := hF.r0 h₁; clear h₁; refine goes_oper_k rfl rfl (by decide) (fun K hK => ?_); go_simp; refine hK _ _ ⟨⟨rfl, fun e he => ?_⟩, ?_⟩; (have hm := mem_listed he; simp [go_sem, *] at hm); clear hK K)
  (refine Goes.step rfl (fun w₁ h₁ => ?_); replace hF := hF.r0 h₁; clear h₁; refine goes_oper_k rfl rfl (by decide) (fun K hK => ?_); go_simp; refine hK _ _ ⟨⟨rfl, fun e he => ?_⟩, ?_⟩; (have hm := mem_listed he; simp [go_sem, *] at hm); clear hK K)
  (refine Goes.step rfl (fun w₁ h₁ => ?_); replace hF := hF.r0 h₁; clear h₁; refine goes_oper_k rfl rfl (by decide) (fun K hK => ?_); go_simp; refine hK _ _ ⟨⟨rfl, fun e he => ?_⟩, ?_⟩; (have hm := mem_listed he; simp [go_sem, *] at hm); clear hK K)
  (refine Goes.step rfl (fun w₁ h₁ => ?_); replace hF := hF.r0 h₁; clear h₁; refine goes_oper_k rfl rfl (by decide) (fun K hK => ?_); go_simp; refine hK _ _ ⟨⟨rfl, fun e he => ?_⟩, ?_⟩; (have hm := mem_listed he; simp [go_sem, *] at hm); clear hK K)
  repeat (refine Goes.step rfl (fun _ h₁ => ?_); replace hF := hF.r0 h₁; clear h₁; (first | own_rw | (rw [stepG_ret']; simp only [goes_go])); refine ⟨⟨rfl, by simp⟩, ?_⟩)
  refine Goes.step rfl (fun w₁ h₁ => ?_)
  replace hF := hF.r0 h₁
  clear h₁
  rw [stepG_region_draw, follows25]
  simp only [goes_go]
  refine ⟨⟨rfl, by simp⟩, ?_⟩
  have hF : Grew W { w₁ with drawn := w₁.drawn + 1 } := ⟨hF.os, hF.output, hF.size, hF.block⟩
  have hin := hord (w₁.tape w₁.drawn (.order (base 10).fn 4))
  generalize Region.schedule true _ (w₁.tape w₁.drawn (.order (base 10).fn 4)) = l at hin ⊢
  clear hord
  simp only [List.mem_cons, List.not_mem_nil, or_false] at hin
  rcases hin with rfl | rfl | rfl | rfl | rfl | rfl
  all_goals
    (refine Goes.step rfl (fun w₁ h₁ => ?_); replace hF := hF.r0 h₁; clear h₁; refine goes_oper_k rfl rfl (by decide) (fun K hK => ?_); go_simp; refine hK _ _ ⟨⟨rfl, fun e he => ?_⟩, ?_⟩; (have hm := mem_listed he; simp [go_sem, *] at hm); clear hK K)
    (refine Goes.step rfl (fun w₁ h₁ => ?_); replace hF := hF.r0 h₁; clear h₁; refine goes_oper_k rfl rfl (by decide) (fun K hK => ?_); go_simp; refine hK _ _ ⟨⟨rfl, fun e he => ?_⟩, ?_⟩; (have hm := mem_listed he; simp [go_sem, *] at hm); clear hK K)
    (refine Goes.step rfl (fun w₁ h₁ => ?_); replace hF := hF.r0 h₁; clear h₁; refine goes_oper_k rfl rfl (by decide) (fun K hK => ?_); go_simp; refine hK _ _ ⟨⟨rfl, fun e he => ?_⟩, ?_⟩; (have hm := mem_listed he; simp [go_sem, *] at hm); clear hK K)
    (refine Goes.step rfl (fun w₁ h₁ => ?_); replace hF := hF.r0 h₁; clear h₁; rw [stepG_unwanted rfl rfl]; simp only [goes_go]; refine ⟨⟨rfl, by simp⟩, ?_⟩; walk_nrm)
    (refine Goes.step rfl (fun w₁ h₁ => ?_); replace hF := hF.r0 h₁; clear h₁; rw [stepG_unwanted rfl rfl]; simp only [goes_go]; refine ⟨⟨rfl, by simp⟩, ?_⟩; walk_nrm)
    (refine Goes.step rfl (fun w₁ h₁ => ?_); replace hF := hF.r0 h₁; clear h₁; rw [stepG_unwanted rfl rfl]; simp only [goes_go]; refine ⟨⟨rfl, by simp⟩, ?_⟩; walk_nrm)
    (refine Goes.step rfl (fun w₁ h₁ => ?_); replace hF := hF.r0 h₁; clear h₁; rw [stepG_unwanted rfl rfl]; simp only [goes_go]; refine ⟨⟨rfl, by simp⟩, ?_⟩; walk_nrm)
    (refine Goes.step rfl (fun w₁ h₁ => ?_); replace hF := hF.r0 h₁; clear h₁; rw [stepG_unwanted rfl rfl]; simp only [goes_go]; refine ⟨⟨rfl, by simp⟩, ?_⟩; walk_nrm)
    (refine Goes.step rfl (fun w₁ h₁ => ?_); replace hF := hF.r0 h₁; clear h₁; refine goes_oper_k rfl rfl (by decide) (fun K hK => ?_); go_simp; refine hK _ _ ⟨⟨rfl, fun e he => ?_⟩, ?_⟩; (have hm := mem_listed he; simp [go_sem, *] at hm); clear hK K)
    repeat (refine Goes.step rfl (fun _ h₁ => ?_); replace hF := hF.r0 h₁; clear h₁; (first | own_rw | (rw [stepG_ret']; simp only [goes_go])); refine ⟨⟨rfl, by simp⟩, ?_⟩)
    (refine Goes.step rfl (fun _ h₁ => ?_); replace hF := hF.r0 h₁; clear h₁; rw [stepG_cond (t := true) rfl]; simp only [goes_go, if_true, if_false, Bool.false_eq_true, ↓reduceIte]; refine ⟨⟨rfl, by simp⟩, ?_⟩)
    repeat (refine Goes.step rfl (fun _ h₁ => ?_); replace hF := hF.r0 h₁; clear h₁; (first | own_rw | (rw [stepG_ret']; simp only [goes_go])); refine ⟨⟨rfl, by simp⟩, ?_⟩)
    (refine Goes.step rfl (fun w₁ h₁ => ?_); replace hF := hF.r0 h₁; clear h₁; refine goes_oper_k rfl rfl (by decide) (fun K hK => ?_); go_simp; refine hK _ _ ⟨⟨rfl, fun e he => ?_⟩, ?_⟩; (have hm := mem_listed he; simp [go_sem, *] at hm); clear hK K)
    (refine Goes.step rfl (fun w₁ h₁ => ?_); replace hF := hF.r0 h₁; clear h₁; refine goes_oper_k rfl rfl (by decide) (fun K hK => ?_); go_simp; refine hK _ _ ⟨⟨rfl, fun e he => ?_⟩, ?_⟩; (have hm := mem_listed he; simp [go_sem, *] at hm); clear hK K)
    repeat (refine Goes.step rfl (fun _ h₁ => ?_); replace hF := hF.r0 h₁; clear h₁; (first | own_rw | (rw [stepG_ret']; simp only [goes_go])); refine ⟨⟨rfl, by simp⟩, ?_⟩)
    (refine Goes.step rfl (fun w₁ h₁ => ?_); replace hF := hF.r0 h₁; clear h₁; refine goes_leaveF rfl rfl Tryd.func10 (resultsC_tmp2 (by rfl) _) ⟨⟨rfl, by simp⟩, ?_⟩; refine Goes.stop fun w₂ h₂ => ?_; replace hF := hF.r0 h₂; clear h₂)
    exact ⟨rfl, hF⟩

/-- Where the call stands among the operations that may come in several orders. -/
def OptU (s : ByteArray) (rest : List Nat) (v20 v21 : Value) : Prop :=
  (rest = [5, 6, 7, 8] ∧ v20 = undef ∧ v21 = undef) ∨ (rest = [6, 7, 8] ∧ v20 = .string s ∧ v21 = undef) ∨ (rest = [7, 8] ∧ v20 = .string s ∧ v21 = .string (s.extract 0 18))
set_option maxRecDepth 100000 in
theorem unsq2s (q : ByteArray) (t : List UInt8) (hl : ¬ s.size < 18) (w : World) (hF : Grew W w) :
    Goes Tryd.prog true R0 D1 (fun g w => (∃ rest v20 v21, OptU s rest v20 v21 ∧ g = G (Frame.enter Tryd.prog 23 #[.string (strOf t)] .normal) (frU2 s q t v20 v21 rest :: fr :: cs)) ∧ Grew W w) 80 (G ((frU1 s q).finish (sprT (some t))) (fr :: cs)) w := by
  show Goes Tryd.prog true R0 D1 _ 80 (G ((base 10).at ⟨#[.string s, undef, .string ⟨#[]⟩, .bool false, undef, undef, .string s, .int .i64 s.size, .bool false, undef, .string s, .string q, sprT (some t), undef, undef, undef, undef, undef, undef, undef, undef, undef, undef, undef, undef], []⟩ [.inRegion oU3 [3, 4, 5, 6, 7], .code TU]) (fr :: cs)) w
  have hord := schedule_of (ops := oU4) rfl ordersU
  have hi2 : (18 : Int) ≤ (s.size : Int) := by omega
  simp only [frU2, oU3, oU4, CU, RU, TU, bodyU, Tryd.f10, Option.getD_some, sprT] at hord ⊢
  (refine Goes.step rfl (fun w₁ h₁ => ?_); replace hF := hF.r0 h₁; clear h₁; refine goes_oper_k rfl rfl (by decide) (fun K hK => ?_); go_simp; refine hK _ _ ⟨⟨rfl, fun e he => ?_⟩, ?_⟩; (have hm := mem_listed he; simp [go_sem, *] at hm); clear hK K)
  (refine Goes.step rfl (fun w₁ h₁ => ?_); replace hF := hF.r0 h₁; clear h₁; refine goes_oper_k rfl rfl (by decide) (fun K hK => ?_); go_simp; refine hK _ _ ⟨⟨rfl, fun e he => ?_⟩, ?_⟩; (have hm := mem_listed he; simp [go_sem, *] at hm); clear hK K)
  (refine Goes.step rfl (fun w₁ h₁ => ?_); replace hF := hF.r0 h₁; clear h₁; refine goes_oper_k rfl rfl (by decide) (fun K hK => ?_); go_simp; refine hK _ _ ⟨⟨rfl, fun e he => ?_⟩, ?_⟩; (have hm := mem_listed he; simp [go_sem, *] at hm); clear hK K)
  (refine Goes.step rfl (fun w₁ h₁ => ?_); replace hF := hF.r0 h₁; clear h₁; refine goes_oper_k rfl rfl (by decide) (fun K hK => ?_); go_simp; refine hK _ _ ⟨⟨rfl, fun e he => ?_⟩, ?_⟩; (have hm := mem_listed he; simp [go_sem, *] at hm); clear hK K)
  (refine Goes.step rfl (fun w₁ h₁ => ?_); replace hF := hF.r0 h₁; clear h₁; refine goes_oper_k rfl rfl (by decide) (fun K hK => ?_); go_simp; refine hK _ _ ⟨⟨rfl, fun e he => ?_⟩, ?_⟩; (have hm := mem_listed he; simp [go_sem, *] at hm); clear hK K)
  repeat (refine Goes.step rfl (fun _ h₁ => ?_); replace hF := hF.r0 h₁; clear h₁; (first | own_rw | (rw [stepG_ret']; simp only [goes_go])); refine ⟨⟨rfl, by simp⟩, ?_⟩)
  refine Goes.step rfl (fun w₁ h₁ => ?_)
  replace hF := hF.r0 h₁
  clear h₁
  rw [stepG_region_draw, follows25]
  simp only [goes_go]
  refine ⟨⟨rfl, by simp⟩, ?_⟩
  have hF : Grew W { w₁ with drawn := w₁.drawn + 1 } := ⟨hF.os, hF.output, hF.size, hF.block⟩
  have hin := hord (w₁.tape w₁.drawn (.order (base 10).fn 4))
  generalize Region.schedule true _ (w₁.tape w₁.drawn (.order (base 10).fn 4)) = l at hin ⊢
  clear hord
  simp only [List.mem_cons, List.not_mem_nil, or_false] at hin
  rcases hin with rfl | rfl | rfl | rfl | rfl | rfl
  · (refine Goes.step rfl (fun w₁ h₁ => ?_); replace hF := hF.r0 h₁; clear h₁; refine goes_oper_k rfl rfl (by decide) (fun K hK => ?_); go_simp; refine hK _ _ ⟨⟨rfl, fun e he => ?_⟩, ?_⟩; (have hm := mem_listed he; simp [go_sem, *] at hm); clear hK K)
    (refine Goes.step rfl (fun w₁ h₁ => ?_); replace hF := hF.r0 h₁; clear h₁; refine goes_oper_k rfl rfl (by decide) (fun K hK => ?_); go_simp; refine hK _ _ ⟨⟨rfl, fun e he => ?_⟩, ?_⟩; (have hm := mem_listed he; simp [go_sem, *] at hm); clear hK K)
    (refine Goes.step rfl (fun w₁ h₁ => ?_); replace hF := hF.r0 h₁; clear h₁; refine goes_oper_k rfl rfl (by decide) (fun K hK => ?_); go_simp; refine hK _ _ ⟨⟨rfl, fun e he => ?_⟩, ?_⟩; (have hm := mem_listed he; simp [go_sem, *] at hm); clear hK K)
    (refine Goes.step rfl (fun w₁ h₁ => ?_); replace hF := hF.r0 h₁; clear h₁; refine goes_oper_k rfl rfl (by decide) (fun K hK => ?_); go_simp; refine hK _ _ ⟨⟨rfl, fun e he => ?_⟩, ?_⟩; (have hm := mem_listed he; simp [go_sem, *] at hm); clear hK K)
    (refine Goes.step rfl (fun w₁ h₁ => ?_); replace hF := hF.r0 h₁; clear h₁; refine goes_enterF (f := 23) rfl rfl (by decide) rfl Tryd.func23 (by rfl) rfl ⟨⟨rfl, by simp⟩, ?_⟩; walk_nrm; refine Goes.stop fun w₂ h₂ => ?_; replace hF := hF.r0 h₂; clear h₂)
    exact ⟨⟨_, _, _, .inl ⟨rfl, rfl, rfl⟩, rfl⟩, hF⟩
  · (refine Goes.step rfl (fun w₁ h₁ => ?_); replace hF := hF.r0 h₁; clear h₁; refine goes_oper_k rfl rfl (by decide) (fun K hK => ?_); go_simp; refine hK _ _ ⟨⟨rfl, fun e he => ?_⟩, ?_⟩; (have hm := mem_listed he; simp [go_sem, *] at hm); clear hK K)
    (refine Goes.step rfl (fun w₁ h₁ => ?_); replace hF := hF.r0 h₁; clear h₁; refine goes_oper_k rfl rfl (by decide) (fun K hK => ?_); go_simp; refine hK _ _ ⟨⟨rfl, fun e he => ?_⟩, ?_⟩; (have hm := mem_listed he; simp [go_sem, *] at hm); clear hK K)
    (refine Goes.step rfl (fun w₁ h₁ => ?_); replace hF := hF.r0 h₁; clear h₁; refine goes_oper_k rfl rfl (by decide) (fun K hK => ?_); go_simp; refine hK _ _ ⟨⟨rfl, fun e he => ?_⟩, ?_⟩; (have hm := mem_listed he; simp [go_sem, *] at hm); clear hK K)
    (refine Goes.step rfl (fun w₁ h₁ => ?_); replace hF := hF.r0 h₁; clear h₁; refine goes_oper_k rfl rfl (by decide) (fun K hK => ?_); go_simp; refine hK _ _ ⟨⟨rfl, fun e he => ?_⟩, ?_⟩; (have hm := mem_listed he; simp [go_sem, *] at hm); clear hK K)
    (refine Goes.step rfl (fun w₁ h₁ => ?_); replace hF := hF.r0 h₁; clear h₁; refine goes_oper_k rfl rfl (by decide) (fun K hK => ?_); go_simp; refine hK _ _ ⟨⟨rfl, fun e he => ?_⟩, ?_⟩; (have hm := mem_listed he; simp [go_sem, *] at hm); clear hK K)
    (refine Goes.step rfl (fun w₁ h₁ => ?_); replace hF := hF.r0 h₁; clear h₁; refine goes_enterF (f := 23) rfl rfl (by decide) rfl Tryd.func23 (by rfl) rfl ⟨⟨rfl, by simp⟩, ?_⟩; walk_nrm; refine Goes.stop fun w₂ h₂ => ?_; replace hF := hF.r0 h₂; clear h₂)
    exact ⟨⟨_, _, _, .inr (.inl ⟨rfl, rfl, rfl⟩), rfl⟩, hF⟩
  · (refine Goes.step rfl (fun w₁ h₁ => ?_); replace hF := hF.r0 h₁; clear h₁; refine goes_oper_k rfl rfl (by decide) (fun K hK => ?_); go_simp; refine hK _ _ ⟨⟨rfl, fun e he => ?_⟩, ?_⟩; (have hm := mem_listed he; simp [go_sem, *] at hm); clear hK K)
    (refine Goes.step rfl (fun w₁ h₁ => ?_); replace hF := hF.r0 h₁; clear h₁; refine goes_oper_k rfl rfl (by decide) (fun K hK => ?_); go_simp; refine hK _ _ ⟨⟨rfl, fun e he => ?_⟩, ?_⟩; (have hm := mem_listed he; simp [go_sem, *] at hm); clear hK K)
    (refine Goes.step rfl (fun w₁ h₁ => ?_); replace hF := hF.r0 h₁; clear h₁; refine goes_oper_k rfl rfl (by decide) (fun K hK => ?_); go_simp; refine hK _ _ ⟨⟨rfl, fun e he => ?_⟩, ?_⟩; (have hm := mem_listed he; simp [go_sem, *] at hm); clear hK K)
    (refine Goes.step rfl (fun w₁ h₁ => ?_); replace hF := hF.r0 h₁; clear h₁; refine goes_oper_k rfl rfl (by decide) (fun K hK => ?_); go_simp; refine hK _ _ ⟨⟨rfl, fun e he => ?_⟩, ?_⟩; (have hm := mem_listed he; simp [go_sem, *] at hm); clear hK K)
    (refine Goes.step rfl (fun w₁ h₁ => ?_); replace hF := hF.r0 h₁; clear h₁; refine goes_oper_k rfl rfl (by decide) (fun K hK => ?_); go_simp; refine hK _ _ ⟨⟨rfl, fun e he => ?_⟩, ?_⟩; (have hm := mem_listed he; simp [go_sem, *] at hm); clear hK K)
    (refine Goes.step rfl (fun w₁ h₁ => ?_); replace hF := hF.r0 h₁; clear h₁; refine goes_oper_k rfl rfl (by decide) (fun K hK => ?_); go_simp; refine hK _ _ ⟨⟨rfl, fun e he => ?_⟩, ?_⟩; (have hm := mem_listed he; first | (simp [go_sem, *] at hm; done) | exact plain_exec (by rfl) _ hm); clear hK K)
    (refine Goes.step rfl (fun w₁ h₁ => ?_); replace hF := hF.r0 h₁; clear h₁; refine goes_enterF (f := 23) rfl rfl (by decide) rfl Tryd.func23 (by rfl) rfl ⟨⟨rfl, by simp⟩, ?_⟩; walk_nrm; refine Goes.stop fun w₂ h₂ => ?_; replace hF := hF.r0 h₂; clear h₂)
    exact ⟨⟨_, _, _, .inr (.inr ⟨rfl, rfl, rfl⟩), rfl⟩, hF⟩
  · (refine Goes.step rfl (fun w₁ h₁ => ?_); replace hF := hF.r0 h₁; clear h₁; refine goes_oper_k rfl rfl (by decide) (fun K hK => ?_); go_simp; refine hK _ _ ⟨⟨rfl, fun e he => ?_⟩, ?_⟩; (have hm := mem_listed he; simp [go_sem, *] at hm); clear hK K)
    (refine Goes.step rfl (fun w₁ h₁ => ?_); replace hF := hF.r0 h₁; clear h₁; refine goes_oper_k rfl rfl (by decide) (fun K hK => ?_); go_simp; refine hK _ _ ⟨⟨rfl, fun e he => ?_⟩, ?_⟩; (have hm := mem_listed he; simp [go_sem, *] at hm); clear hK K)
    (refine Goes.step rfl (fun w₁ h₁ => ?_); replace hF := hF.r0 h₁; clear h₁; refine goes_oper_k rfl rfl (by decide) (fun K hK => ?_); go_simp; refine hK _ _ ⟨⟨rfl, fun e he => ?_⟩, ?_⟩; (have hm := mem_listed he; simp [go_sem, *] at hm); clear hK K)
    (refine Goes.step rfl (fun w₁ h₁ => ?_); replace hF := hF.r0 h₁; clear h₁; refine goes_oper_k rfl rfl (by decide) (fun K hK => ?_); go_simp; refine hK _ _ ⟨⟨rfl, fun e he => ?_⟩, ?_⟩; (have hm := mem_listed he; simp [go_sem, *] at hm); clear hK K)
    (refine Goes.step rfl (fun w₁ h₁ => ?_); replace hF := hF.r0 h₁; clear h₁; refine goes_oper_k rfl rfl (by decide) (fun K hK => ?_); go_simp; refine hK _ _ ⟨⟨rfl, fun e he => ?_⟩, ?_⟩; (have hm := mem_listed he; simp [go_sem, *] at hm); clear hK K)
    (refine Goes.step rfl (fun w₁ h₁ => ?_); replace hF := hF.r0 h₁; clear h₁; refine goes_enterF (f := 23) rfl rfl (by decide) rfl Tryd.func23 (by rfl) rfl ⟨⟨rfl, by simp⟩, ?_⟩; walk_nrm; refine Goes.stop fun w₂ h₂ => ?_; replace hF := hF.r0 h₂; clear h₂)
    exact ⟨⟨_, _, _, .inr (.inl ⟨rfl, rfl, rfl⟩), rfl⟩, hF⟩
  · (refine Goes.step rfl (fun w₁ h₁ => ?_); replace hF := hF.r0 h₁; clear h₁; refine goes_oper_k rfl rfl (by decide) (fun K hK => ?_); go_simp; refine hK _ _ ⟨⟨rfl, fun e he => ?_⟩, ?_⟩; (have hm := mem_listed he; simp [go_sem, *] at hm); clear hK K)
    (refine Goes.step rfl (fun w₁ h₁ => ?_); replace hF := hF.r0 h₁; clear h₁; refine goes_oper_k rfl rfl (by decide) (fun K hK => ?_); go_simp; refine hK _ _ ⟨⟨rfl, fun e he => ?_⟩, ?_⟩; (have hm := mem_listed he; simp [go_sem, *] at hm); clear hK K)
    (refine Goes.step rfl (fun w₁ h₁ => ?_); replace hF := hF.r0 h₁; clear h₁; refine goes_oper_k rfl rfl (by decide) (fun K hK => ?_); go_simp; refine hK _ _ ⟨⟨rfl, fun e he => ?_⟩, ?_⟩; (have hm := mem_listed he; simp [go_sem, *] at hm); clear hK K)
    (refine Goes.step rfl (fun w₁ h₁ => ?_); replace hF := hF.r0 h₁; clear h₁; refine goes_oper_k rfl rfl (by decide) (fun K hK => ?_); go_simp; refine hK _ _ ⟨⟨rfl, fun e he => ?_⟩, ?_⟩; (have hm := mem_listed he; simp [go_sem, *] at hm); clear hK K)
    (refine Goes.step rfl (fun w₁ h₁ => ?_); replace hF := hF.r0 h₁; clear h₁; refine goes_oper_k rfl rfl (by decide) (fun K hK => ?_); go_simp; refine hK _ _ ⟨⟨rfl, fun e he => ?_⟩, ?_⟩; (have hm := mem_listed he; simp [go_sem, *] at hm); clear hK K)
    (refine Goes.step rfl (fun w₁ h₁ => ?_); replace hF := hF.r0 h₁; clear h₁; refine goes_oper_k rfl rfl (by decide) (fun K hK => ?_); go_simp; refine hK _ _ ⟨⟨rfl, fun e he => ?_⟩, ?_⟩; (have hm := mem_listed he; first | (simp [go_sem, *] at hm; done) | exact plain_exec (by rfl) _ hm); clear hK K)
    (refine Goes.step rfl (fun w₁ h₁ => ?_); replace hF := hF.r0 h₁; clear h₁; refine goes_enterF (f := 23) rfl rfl (by decide) rfl Tryd.func23 (by rfl) rfl ⟨⟨rfl, by simp⟩, ?_⟩; walk_nrm; refine Goes.stop fun w₂ h₂ => ?_; replace hF := hF.r0 h₂; clear h₂)
    exact ⟨⟨_, _, _, .inr (.inr ⟨rfl, rfl, rfl⟩), rfl⟩, hF⟩
  · (refine Goes.step rfl (fun w₁ h₁ => ?_); replace hF := hF.r0 h₁; clear h₁; refine goes_oper_k rfl rfl (by decide) (fun K hK => ?_); go_simp; refine hK _ _ ⟨⟨rfl, fun e he => ?_⟩, ?_⟩; (have hm := mem_listed he; simp [go_sem, *] at hm); clear hK K)
    (refine Goes.step rfl (fun w₁ h₁ => ?_); replace hF := hF.r0 h₁; clear h₁; refine goes_oper_k rfl rfl (by decide) (fun K hK => ?_); go_simp; refine hK _ _ ⟨⟨rfl, fun e he => ?_⟩, ?_⟩; (have hm := mem_listed he; simp [go_sem, *] at hm); clear hK K)
    (refine Goes.step rfl (fun w₁ h₁ => ?_); replace hF := hF.r0 h₁; clear h₁; refine goes_oper_k rfl rfl (by decide) (fun K hK => ?_); go_simp; refine hK _ _ ⟨⟨rfl, fun e he => ?_⟩, ?_⟩; (have hm := mem_listed he; simp [go_sem, *] at hm); clear hK K)
    (refine Goes.step rfl (fun w₁ h₁ => ?_); replace hF := hF.r0 h₁; clear h₁; refine goes_oper_k rfl rfl (by decide) (fun K hK => ?_); go_simp; refine hK _ _ ⟨⟨rfl, fun e he => ?_⟩, ?_⟩; (have hm := mem_listed he; simp [go_sem, *] at hm); clear hK K)
    (refine Goes.step rfl (fun w₁ h₁ => ?_); replace hF := hF.r0 h₁; clear h₁; refine goes_oper_k rfl rfl (by decide) (fun K hK => ?_); go_simp; refine hK _ _ ⟨⟨rfl, fun e he => ?_⟩, ?_⟩; (have hm := mem_listed he; first | (simp [go_sem, *] at hm; done) | exact plain_exec (by rfl) _ hm); clear hK K)
    (refine Goes.step rfl (fun w₁ h₁ => ?_); replace hF := hF.r0 h₁; clear h₁; refine goes_oper_k rfl rfl (by decide) (fun K hK => ?_); go_simp; refine hK _ _ ⟨⟨rfl, fun e he => ?_⟩, ?_⟩; (have hm := mem_listed he; simp [go_sem, *] at hm); clear hK K)
    (refine Goes.step rfl (fun w₁ h₁ => ?_); replace hF := hF.r0 h₁; clear h₁; refine goes_enterF (f := 23) rfl rfl (by decide) rfl Tryd.func23 (by rfl) rfl ⟨⟨rfl, by simp⟩, ?_⟩; walk_nrm; refine Goes.stop fun w₂ h₂ => ?_; replace hF := hF.r0 h₂; clear h₂)
    exact ⟨⟨_, _, _, .inr (.inr ⟨rfl, rfl, rfl⟩), rfl⟩, hF⟩

set_option maxRecDepth 100000 in
theorem unsq3t (q : ByteArray) (t : List UInt8) (x y : ByteArray) (hy : s.extract 0 18 = y) (hb : (x.toList == y.toList) = true) (hl : ¬ s.size < 18) (rest : List Nat) (v20 v21 : Value) (ho : OptU s rest v20 v21) (w : World) (hF : Grew W w) :
    Goes Tryd.prog true R0 D1 (fun g w => g = G (fr.finish (sprT (some t))) cs ∧ Grew W w) 80 (G ((frU2 s q t v20 v21 rest).finish (.string x)) (fr :: cs)) w := by
  have hi2 : (18 : Int) ≤ (s.size : Int) := by omega
  rcases ho with ⟨rfl, rfl, rfl⟩ | ⟨rfl, rfl, rfl⟩ | ⟨rfl, rfl, rfl⟩
  · show Goes Tryd.prog true R0 D1 _ 80 (G ((base 10).at ⟨#[.string s, undef, .string ⟨#[]⟩, .bool false, .string (strOf t), .bool true, .string s, .int .i64 s.size, .bool false, sprT (some t), .string s, .string q, sprT (some t), .string (strOf t), .bool true, .bool true, .bool false, .bool false, .string (strOf t), .string x, undef, undef, undef, undef, undef], []⟩ [.inRegion oU4 [5, 6, 7, 8], .code CU, .code RU]) (fr :: cs)) w
    simp only [oU4, CU, RU, TU, bodyU, Tryd.f10, Option.getD_some, sprT]
    (refine Goes.step rfl (fun w₁ h₁ => ?_); replace hF := hF.r0 h₁; clear h₁; refine goes_oper_k rfl rfl (by decide) (fun K hK => ?_); go_simp; refine hK _ _ ⟨⟨rfl, fun e he => ?_⟩, ?_⟩; (have hm := mem_listed he; simp [go_sem, *] at hm); clear hK K)
    (refine Goes.step rfl (fun w₁ h₁ => ?_); replace hF := hF.r0 h₁; clear h₁; refine goes_oper_k rfl rfl (by decide) (fun K hK => ?_); go_simp; (try rw [hy]); refine hK _ _ ⟨⟨rfl, fun e he => ?_⟩, ?_⟩; (have hm := mem_listed he; first | (simp [go_sem, *] at hm; done) | exact plain_exec (by rfl) _ hm); clear hK K)
    (refine Goes.step rfl (fun w₁ h₁ => ?_); replace hF := hF.r0 h₁; clear h₁; refine goes_oper_k rfl rfl (by decide) (fun K hK => ?_); go_simp; refine hK _ _ ⟨⟨rfl, fun e he => ?_⟩, ?_⟩; (have hm := mem_listed he; simp [go_sem, *] at hm); clear hK K)
    (refine Goes.step rfl (fun w₁ h₁ => ?_); replace hF := hF.r0 h₁; clear h₁; refine goes_oper_k rfl rfl (by decide) (fun K hK => ?_); go_simp; refine hK _ _ ⟨⟨rfl, fun e he => ?_⟩, ?_⟩; (have hm := mem_listed he; simp [go_sem, *] at hm); clear hK K)
    repeat (refine Goes.step rfl (fun _ h₁ => ?_); replace hF := hF.r0 h₁; clear h₁; (first | own_rw | (rw [stepG_ret']; simp only [goes_go])); refine ⟨⟨rfl, by simp⟩, ?_⟩)
    (refine Goes.step rfl (fun _ h₁ => ?_); replace hF := hF.r0 h₁; clear h₁; rw [stepG_cond (t := false) rfl]; simp only [goes_go, if_true, if_false, Bool.false_eq_true, ↓reduceIte]; refine ⟨⟨rfl, by simp⟩, ?_⟩)
    repeat (refine Goes.step rfl (fun _ h₁ => ?_); replace hF := hF.r0 h₁; clear h₁; (first | own_rw | (rw [stepG_ret']; simp only [goes_go])); refine ⟨⟨rfl, by simp⟩, ?_⟩)
    (refine Goes.step rfl (fun w₁ h₁ => ?_); replace hF := hF.r0 h₁; clear h₁; refine goes_oper_k rfl rfl (by decide) (fun K hK => ?_); go_simp; refine hK _ _ ⟨⟨rfl, fun e he => ?_⟩, ?_⟩; (have hm := mem_listed he; simp [go_sem, *] at hm); clear hK K)
    (refine Goes.step rfl (fun w₁ h₁ => ?_); replace hF := hF.r0 h₁; clear h₁; refine goes_oper_k rfl rfl (by decide) (fun K hK => ?_); go_simp; refine hK _ _ ⟨⟨rfl, fun e he => ?_⟩, ?_⟩; (have hm := mem_listed he; simp [go_sem, *] at hm); clear hK K)
    (refine Goes.step rfl (fun w₁ h₁ => ?_); replace hF := hF.r0 h₁; clear h₁; refine goes_oper_k rfl rfl (by decide) (fun K hK => ?_); go_simp; refine hK _ _ ⟨⟨rfl, fun e he => ?_⟩, ?_⟩; (have hm := mem_listed he; simp [go_sem, *] at hm); clear hK K)
    repeat (refine Goes.step rfl (fun _ h₁ => ?_); replace hF := hF.r0 h₁; clear h₁; (first | own_rw | (rw [stepG_ret']; simp only [goes_go])); refine ⟨⟨rfl, by simp⟩, ?_⟩)
    (refine Goes.step rfl (fun w₁ h₁ => ?_); replace hF := hF.r0 h₁; clear h₁; refine goes_leaveF rfl rfl Tryd.func10 (resultsC_tmp2 (by rfl) _) ⟨⟨rfl, by simp⟩, ?_⟩; refine Goes.stop fun w₂ h₂ => ?_; replace hF := hF.r0 h₂; clear h₂)
    exact ⟨rfl, hF⟩
  · show Goes Tryd.prog true R0 D1 _ 80 (G ((base 10).at ⟨#[.string s, undef, .string ⟨#[]⟩, .bool false, .string (strOf t), .bool true, .string s, .int .i64 s.size, .bool false, sprT (some t), .string s, .string q, sprT (some t), .string (strOf t), .bool true, .bool true, .bool false, .bool false, .string (strOf t), .string x, .string s, undef, undef, undef, undef], []⟩ [.inRegion oU4 [6, 7, 8], .code CU, .code RU]) (fr :: cs)) w
    simp only [oU4, CU, RU, TU, bodyU, Tryd.f10, Option.getD_some, sprT]
    (refine Goes.step rfl (fun w₁ h₁ => ?_); replace hF := hF.r0 h₁; clear h₁; refine goes_oper_k rfl rfl (by decide) (fun K hK => ?_); go_simp; (try rw [hy]); refine hK _ _ ⟨⟨rfl, fun e he => ?_⟩, ?_⟩; (have hm := mem_listed he; first | (simp [go_sem, *] at hm; done) | exact plain_exec (by rfl) _ hm); clear hK K)
    (refine Goes.step rfl (fun w₁ h₁ => ?_); replace hF := hF.r0 h₁; clear h₁; refine goes_oper_k rfl rfl (by decide) (fun K hK => ?_); go_simp; refine hK _ _ ⟨⟨rfl, fun e he => ?_⟩, ?_⟩; (have hm := mem_listed he; simp [go_sem, *] at hm); clear hK K)
    (refine Goes.step rfl (fun w₁ h₁ => ?_); replace hF := hF.r0 h₁; clear h₁; refine goes_oper_k rfl rfl (by decide) (fun K hK => ?_); go_simp; refine hK _ _ ⟨⟨rfl, fun e he => ?_⟩, ?_⟩; (have hm := mem_listed he; simp [go_sem, *] at hm); clear hK K)
    repeat (refine Goes.step rfl (fun _ h₁ => ?_); replace hF := hF.r0 h₁; clear h₁; (first | own_rw | (rw [stepG_ret']; simp only [goes_go])); refine ⟨⟨rfl, by simp⟩, ?_⟩)
    (refine Goes.step rfl (fun _ h₁ => ?_); replace hF := hF.r0 h₁; clear h₁; rw [stepG_cond (t := false) rfl]; simp only [goes_go, if_true, if_false, Bool.false_eq_true, ↓reduceIte]; refine ⟨⟨rfl, by simp⟩, ?_⟩)
    repeat (refine Goes.step rfl (fun _ h₁ => ?_); replace hF := hF.r0 h₁; clear h₁; (first | own_rw | (rw [stepG_ret']; simp only [goes_go])); refine ⟨⟨rfl, by simp⟩, ?_⟩)
    (refine Goes.step rfl (fun w₁ h₁ => ?_); replace hF := hF.r0 h₁; clear h₁; refine goes_oper_k rfl rfl (by decide) (fun K hK => ?_); go_simp; refine hK _ _ ⟨⟨rfl, fun e he => ?_⟩, ?_⟩; (have hm := mem_listed he; simp [go_sem, *] at hm); clear hK K)
    (refine Goes.step rfl (fun w₁ h₁ => ?_); replace hF := hF.r0 h₁; clear h₁; refine goes_oper_k rfl rfl (by decide) (fun K hK => ?_); go_simp; refine hK _ _ ⟨⟨rfl, fun e he => ?_⟩, ?_⟩; (have hm := mem_listed he; simp [go_sem, *] at hm); clear hK K)
    (refine Goes.step rfl (fun w₁ h₁ => ?_); replace hF := hF.r0 h₁; clear h₁; refine goes_oper_k rfl rfl (by decide) (fun K hK => ?_); go_simp; refine hK _ _ ⟨⟨rfl, fun e he => ?_⟩, ?_⟩; (have hm := mem_listed he; simp [go_sem, *] at hm); clear hK K)
    repeat (refine Goes.step rfl (fun _ h₁ => ?_); replace hF := hF.r0 h₁; clear h₁; (first | own_rw | (rw [stepG_ret']; simp only [goes_go])); refine ⟨⟨rfl, by simp⟩, ?_⟩)
    (refine Goes.step rfl (fun w₁ h₁ => ?_); replace hF := hF.r0 h₁; clear h₁; refine goes_leaveF rfl rfl Tryd.func10 (resultsC_tmp2 (by rfl) _) ⟨⟨rfl, by simp⟩, ?_⟩; refine Goes.stop fun w₂ h₂ => ?_; replace hF := hF.r0 h₂; clear h₂)
    exact ⟨rfl, hF⟩
  · show Goes Tryd.prog true R0 D1 _ 80 (G ((base 10).at ⟨#[.string s, undef, .string ⟨#[]⟩, .bool false, .string (strOf t), .bool true, .string s, .int .i64 s.size, .bool false, sprT (some t), .string s, .string q, sprT (some t), .string (strOf t), .bool true, .bool true, .bool false, .bool false, .string (strOf t), .string x, .string s, .string (s.extract 0 18), undef, undef, undef], []⟩ [.inRegion oU4 [7, 8], .code CU, .code RU]) (fr :: cs)) w
    simp only [oU4, CU, RU, TU, bodyU, Tryd.f10, Option.getD_some, sprT]
    (try rw [hy])
    (refine Goes.step rfl (fun w₁ h₁ => ?_); replace hF := hF.r0 h₁; clear h₁; refine goes_oper_k rfl rfl (by decide) (fun K hK => ?_); go_simp; refine hK _ _ ⟨⟨rfl, fun e he => ?_⟩, ?_⟩; (have hm := mem_listed he; simp [go_sem, *] at hm); clear hK K)
    (refine Goes.step rfl (fun w₁ h₁ => ?_); replace hF := hF.r0 h₁; clear h₁; refine goes_oper_k rfl rfl (by decide) (fun K hK => ?_); go_simp; refine hK _ _ ⟨⟨rfl, fun e he => ?_⟩, ?_⟩; (have hm := mem_listed he; simp [go_sem, *] at hm); clear hK K)
    repeat (refine Goes.step rfl (fun _ h₁ => ?_); replace hF := hF.r0 h₁; clear h₁; (first | own_rw | (rw [stepG_ret']; simp only [goes_go])); refine ⟨⟨rfl, by simp⟩, ?_⟩)
    (refine Goes.step rfl (fun _ h₁ => ?_); replace hF := hF.r0 h₁; clear h₁; rw [stepG_cond (t := false) rfl]; simp only [goes_go, if_true, if_false, Bool.false_eq_true, ↓reduceIte]; refine ⟨⟨rfl, by simp⟩, ?_⟩)
    repeat (refine Goes.step rfl (fun _ h₁ => ?_); replace hF := hF.r0 h₁; clear h₁; (first | own_rw | (rw [stepG_ret']; simp only [goes_go])); refine ⟨⟨rfl, by simp⟩, ?_⟩)
    (refine Goes.step rfl (fun w₁ h₁ => ?_); replace hF := hF.r0 h₁; clear h₁; refine goes_oper_k rfl rfl (by decide) (fun K hK => ?_); go_simp; refine hK _ _ ⟨⟨rfl, fun e he => ?_⟩, ?_⟩; (have hm := mem_listed he; simp [go_sem, *] at hm); clear hK K)
    (refine Goes.step rfl (fun w₁ h₁ => ?_); replace hF := hF.r0 h₁; clear h₁; refine goes_oper_k rfl rfl (by decide) (fun K hK => ?_); go_simp; refine hK _ _ ⟨⟨rfl, fun e he => ?_⟩, ?_⟩; (have hm := mem_listed he; simp [go_sem, *] at hm); clear hK K)
    (refine Goes.step rfl (fun w₁ h₁ => ?_); replace hF := hF.r0 h₁; clear h₁; refine goes_oper_k rfl rfl (by decide) (fun K hK => ?_); go_simp; refine hK _ _ ⟨⟨rfl, fun e he => ?_⟩, ?_⟩; (have hm := mem_listed he; simp [go_sem, *] at hm); clear hK K)
    repeat (refine Goes.step rfl (fun _ h₁ => ?_); replace hF := hF.r0 h₁; clear h₁; (first | own_rw | (rw [stepG_ret']; simp only [goes_go])); refine ⟨⟨rfl, by simp⟩, ?_⟩)
    (refine Goes.step rfl (fun w₁ h₁ => ?_); replace hF := hF.r0 h₁; clear h₁; refine goes_leaveF rfl rfl Tryd.func10 (resultsC_tmp2 (by rfl) _) ⟨⟨rfl, by simp⟩, ?_⟩; refine Goes.stop fun w₂ h₂ => ?_; replace hF := hF.r0 h₂; clear h₂)
    exact ⟨rfl, hF⟩

set_option maxRecDepth 100000 in
theorem unsq3f (q : ByteArray) (t : List UInt8) (x y : ByteArray) (hy : s.extract 0 18 = y) (hb : (x.toList == y.toList) = false) (hl : ¬ s.size < 18) (rest : List Nat) (v20 v21 : Value) (ho : OptU s rest v20 v21) (w : World) (hF : Grew W w) :
    Goes Tryd.prog true R0 D1 (fun g w => g = G (fr.finish (sprT none)) cs ∧ Grew W w) 80 (G ((frU2 s q t v20 v21 rest).finish (.string x)) (fr :: cs)) w := by
  have hi2 : (18 : Int) ≤ (s.size : Int) := by omega
  rcases ho with ⟨rfl, rfl, rfl⟩ | ⟨rfl, rfl, rfl⟩ | ⟨rfl, rfl, rfl⟩
  · show Goes Tryd.prog true R0 D1 _ 80 (G ((base 10).at ⟨#[.string s, undef, .string ⟨#[]⟩, .bool false, .string (strOf t), .bool true, .string s, .int .i64 s.size, .bool false, sprT (some t), .string s, .string q, sprT (some t), .string (strOf t), .bool true, .bool true, .bool false, .bool false, .string (strOf t), .string x, undef, undef, undef, undef, undef], []⟩ [.inRegion oU4 [5, 6, 7, 8], .code CU, .code RU]) (fr :: cs)) w
    simp only [oU4, CU, RU, TU, bodyU, Tryd.f10, Option.getD_some, sprT]
    (refine Goes.step rfl (fun w₁ h₁ => ?_); replace hF := hF.r0 h₁; clear h₁; refine goes_oper_k rfl rfl (by decide) (fun K hK => ?_); go_simp; refine hK _ _ ⟨⟨rfl, fun e he => ?_⟩, ?_⟩; (have hm := mem_listed he; simp [go_sem, *] at hm); clear hK K)
    (refine Goes.step rfl (fun w₁ h₁ => ?_); replace hF := hF.r0 h₁; clear h₁; refine goes_oper_k rfl rfl (by decide) (fun K hK => ?_); go_simp; (try rw [hy]); refine hK _ _ ⟨⟨rfl, fun e he => ?_⟩, ?_⟩; (have hm := mem_listed he; first | (simp [go_sem, *] at hm; done) | exact plain_exec (by rfl) _ hm); clear hK K)
    (refine Goes.step rfl (fun w₁ h₁ => ?_); replace hF := hF.r0 h₁; clear h₁; refine goes_oper_k rfl rfl (by decide) (fun K hK => ?_); go_simp; refine hK _ _ ⟨⟨rfl, fun e he => ?_⟩, ?_⟩; (have hm := mem_listed he; simp [go_sem, *] at hm); clear hK K)
    (refine Goes.step rfl (fun w₁ h₁ => ?_); replace hF := hF.r0 h₁; clear h₁; refine goes_oper_k rfl rfl (by decide) (fun K hK => ?_); go_simp; refine hK _ _ ⟨⟨rfl, fun e he => ?_⟩, ?_⟩; (have hm := mem_listed he; simp [go_sem, *] at hm); clear hK K)
    repeat (refine Goes.step rfl (fun _ h₁ => ?_); replace hF := hF.r0 h₁; clear h₁; (first | own_rw | (rw [stepG_ret']; simp only [goes_go])); refine ⟨⟨rfl, by simp⟩, ?_⟩)
    (refine Goes.step rfl (fun _ h₁ => ?_); replace hF := hF.r0 h₁; clear h₁; rw [stepG_cond (t := true) rfl]; simp only [goes_go, if_true, if_false, Bool.false_eq_true, ↓reduceIte]; refine ⟨⟨rfl, by simp⟩, ?_⟩)
    repeat (refine Goes.step rfl (fun _ h₁ => ?_); replace hF := hF.r0 h₁; clear h₁; (first | own_rw | (rw [stepG_ret']; simp only [goes_go])); refine ⟨⟨rfl, by simp⟩, ?_⟩)
    (refine Goes.step rfl (fun w₁ h₁ => ?_); replace hF := hF.r0 h₁; clear h₁; refine goes_oper_k rfl rfl (by decide) (fun K hK => ?_); go_simp; refine hK _ _ ⟨⟨rfl, fun e he => ?_⟩, ?_⟩; (have hm := mem_listed he; simp [go_sem, *] at hm); clear hK K)
    (refine Goes.step rfl (fun w₁ h₁ => ?_); replace hF := hF.r0 h₁; clear h₁; refine goes_oper_k rfl rfl (by decide) (fun K hK => ?_); go_simp; refine hK _ _ ⟨⟨rfl, fun e he => ?_⟩, ?_⟩; (have hm := mem_listed he; simp [go_sem, *] at hm); clear hK K)
    repeat (refine Goes.step rfl (fun _ h₁ => ?_); replace hF := hF.r0 h₁; clear h₁; (first | own_rw | (rw [stepG_ret']; simp only [goes_go])); refine ⟨⟨rfl, by simp⟩, ?_⟩)
    (refine Goes.step rfl (fun w₁ h₁ => ?_); replace hF := hF.r0 h₁; clear h₁; refine goes_leaveF rfl rfl Tryd.func10 (resultsC_tmp2 (by rfl) _) ⟨⟨rfl, by simp⟩, ?_⟩; refine Goes.stop fun w₂ h₂ => ?_; replace hF := hF.r0 h₂; clear h₂)
    exact ⟨rfl, hF⟩
  · show Goes Tryd.prog true R0 D1 _ 80 (G ((base 10).at ⟨#[.string s, undef, .string ⟨#[]⟩, .bool false, .string (strOf t), .bool true, .string s, .int .i64 s.size, .bool false, sprT (some t), .string s, .string q, sprT (some t), .string (strOf t), .bool true, .bool true, .bool false, .bool false, .string (strOf t), .string x, .string s, undef, undef, undef, undef], []⟩ [.inRegion oU4 [6, 7, 8], .code CU, .code RU]) (fr :: cs)) w
    simp only [oU4, CU, RU, TU, bodyU, Tryd.f10, Option.getD_some, sprT]
    (refine Goes.step rfl (fun w₁ h₁ => ?_); replace hF := hF.r0 h₁; clear h₁; refine goes_oper_k rfl rfl (by decide) (fun K hK => ?_); go_simp; (try rw [hy]); refine hK _ _ ⟨⟨rfl, fun e he => ?_⟩, ?_⟩; (have hm := mem_listed he; first | (simp [go_sem, *] at hm; done) | exact plain_exec (by rfl) _ hm); clear hK K)
    (refine Goes.step rfl (fun w₁ h₁ => ?_); replace hF := hF.r0 h₁; clear h₁; refine goes_oper_k rfl rfl (by decide) (fun K hK => ?_); go_simp; refine hK _ _ ⟨⟨rfl, fun e he => ?_⟩, ?_⟩; (have hm := mem_listed he; simp [go_sem, *] at hm); clear hK K)
    (refine Goes.step rfl (fun w₁ h₁ => ?_); replace hF := hF.r0 h₁; clear h₁; refine goes_oper_k rfl rfl (by decide) (fun K hK => ?_); go_simp; refine hK _ _ ⟨⟨rfl, fun e he => ?_⟩, ?_⟩; (have hm := mem_listed he; simp [go_sem, *] at hm); clear hK K)
    repeat (refine Goes.step rfl (fun _ h₁ => ?_); replace hF := hF.r0 h₁; clear h₁; (first | own_rw | (rw [stepG_ret']; simp only [goes_go])); refine ⟨⟨rfl, by simp⟩, ?_⟩)
    (refine Goes.step rfl (fun _ h₁ => ?_); replace hF := hF.r0 h₁; clear h₁; rw [stepG_cond (t := true) rfl]; simp only [goes_go, if_true, if_false, Bool.false_eq_true, ↓reduceIte]; refine ⟨⟨rfl, by simp⟩, ?_⟩)
    repeat (refine Goes.step rfl (fun _ h₁ => ?_); replace hF := hF.r0 h₁; clear h₁; (first | own_rw | (rw [stepG_ret']; simp only [goes_go])); refine ⟨⟨rfl, by simp⟩, ?_⟩)
    (refine Goes.step rfl (fun w₁ h₁ => ?_); replace hF := hF.r0 h₁; clear h₁; refine goes_oper_k rfl rfl (by decide) (fun K hK => ?_); go_simp; refine hK _ _ ⟨⟨rfl, fun e he => ?_⟩, ?_⟩; (have hm := mem_listed he; simp [go_sem, *] at hm); clear hK K)
    (refine Goes.step rfl (fun w₁ h₁ => ?_); replace hF := hF.r0 h₁; clear h₁; refine goes_oper_k rfl rfl (by decide) (fun K hK => ?_); go_simp; refine hK _ _ ⟨⟨rfl, fun e he => ?_⟩, ?_⟩; (have hm := mem_listed he; simp [go_sem, *] at hm); clear hK K)
    repeat (refine Goes.step rfl (fun _ h₁ => ?_); replace hF := hF.r0 h₁; clear h₁; (first | own_rw | (rw [stepG_ret']; simp only [goes_go])); refine ⟨⟨rfl, by simp⟩, ?_⟩)
    (refine Goes.step rfl (fun w₁ h₁ => ?_); replace hF := hF.r0 h₁; clear h₁; refine goes_leaveF rfl rfl Tryd.func10 (resultsC_tmp2 (by rfl) _) ⟨⟨rfl, by simp⟩, ?_⟩; refine Goes.stop fun w₂ h₂ => ?_; replace hF := hF.r0 h₂; clear h₂)
    exact ⟨rfl, hF⟩
  · show Goes Tryd.prog true R0 D1 _ 80 (G ((base 10).at ⟨#[.string s, undef, .string ⟨#[]⟩, .bool false, .string (strOf t), .bool true, .string s, .int .i64 s.size, .bool false, sprT (some t), .string s, .string q, sprT (some t), .string (strOf t), .bool true, .bool true, .bool false, .bool false, .string (strOf t), .string x, .string s, .string (s.extract 0 18), undef, undef, undef], []⟩ [.inRegion oU4 [7, 8], .code CU, .code RU]) (fr :: cs)) w
    simp only [oU4, CU, RU, TU, bodyU, Tryd.f10, Option.getD_some, sprT]
    (try rw [hy])
    (refine Goes.step rfl (fun w₁ h₁ => ?_); replace hF := hF.r0 h₁; clear h₁; refine goes_oper_k rfl rfl (by decide) (fun K hK => ?_); go_simp; refine hK _ _ ⟨⟨rfl, fun e he => ?_⟩, ?_⟩; (have hm := mem_listed he; simp [go_sem, *] at hm); clear hK K)
    (refine Goes.step rfl (fun w₁ h₁ => ?_); replace hF := hF.r0 h₁; clear h₁; refine goes_oper_k rfl rfl (by decide) (fun K hK => ?_); go_simp; refine hK _ _ ⟨⟨rfl, fun e he => ?_⟩, ?_⟩; (have hm := mem_listed he; simp [go_sem, *] at hm); clear hK K)
    repeat (refine Goes.step rfl (fun _ h₁ => ?_); replace hF := hF.r0 h₁; clear h₁; (first | own_rw | (rw [stepG_ret']; simp only [goes_go])); refine ⟨⟨rfl, by simp⟩, ?_⟩)
    (refine Goes.step rfl (fun _ h₁ => ?_); replace hF := hF.r0 h₁; clear h₁; rw [stepG_cond (t := true) rfl]; simp only [goes_go, if_true, if_false, Bool.false_eq_true, ↓reduceIte]; refine ⟨⟨rfl, by simp⟩, ?_⟩)
    repeat (refine Goes.step rfl (fun _ h₁ => ?_); replace hF := hF.r0 h₁; clear h₁; (first | own_rw | (rw [stepG_ret']; simp only [goes_go])); refine ⟨⟨rfl, by simp⟩, ?_⟩)
    (refine Goes.step rfl (fun w₁ h₁ => ?_); replace hF := hF.r0 h₁; clear h₁; refine goes_oper_k rfl rfl (by decide) (fun K hK => ?_); go_simp; refine hK _ _ ⟨⟨rfl, fun e he => ?_⟩, ?_⟩; (have hm := mem_listed he; simp [go_sem, *] at hm); clear hK K)
    (refine Goes.step rfl (fun w₁ h₁ => ?_); replace hF := hF.r0 h₁; clear h₁; refine goes_oper_k rfl rfl (by decide) (fun K hK => ?_); go_simp; refine hK _ _ ⟨⟨rfl, fun e he => ?_⟩, ?_⟩; (have hm := mem_listed he; simp [go_sem, *] at hm); clear hK K)
    repeat (refine Goes.step rfl (fun _ h₁ => ?_); replace hF := hF.r0 h₁; clear h₁; (first | own_rw | (rw [stepG_ret']; simp only [goes_go])); refine ⟨⟨rfl, by simp⟩, ?_⟩)
    (refine Goes.step rfl (fun w₁ h₁ => ?_); replace hF := hF.r0 h₁; clear h₁; refine goes_leaveF rfl rfl Tryd.func10 (resultsC_tmp2 (by rfl) _) ⟨⟨rfl, by simp⟩, ?_⟩; refine Goes.stop fun w₂ h₂ => ?_; replace hF := hF.r0 h₂; clear h₂)
    exact ⟨rfl, hF⟩
end

/-- ████ UNSQUASH, WHOLE, BESIDE LEAVERS. ████ -/
theorem unsquash_beside (W : World) (s : ByteArray) (fr : Frame) (cs : List Frame) (hs : s.size ≤ 1048576) (hT : Tabs W) :
    Beside Tryd.prog (G (Frame.enter Tryd.prog 10 #[.string s] .normal) (fr :: cs)) W (fun g' w' => g' = G (fr.finish (sprT (unsqO s.data.toList))) cs ∧ Grew W w') := by
  have hsz : s.data.toList.length = s.size := by simp
  by_cases hl : s.size < 18
  · rw [unsqO_short (by omega)]
    exact beside_of_T fun t => goes_beside (fun g w h => by rw [h.1]; rfl) _ _ _ (unsq0 W s fr cs hl _ ((Grew.refl W).re t 0))
  · obtain ⟨q, hq⟩ : ∃ q, strOf (s.data.toList.drop 18) = q := ⟨_, rfl⟩
    have hqd : q.data.toList = s.data.toList.drop 18 := by rw [← hq, strOf_data]
    refine Beside.trans (Q := fun g w => g = G (Frame.enter Tryd.prog 11 #[.string q] .normal) (frU1 s q :: fr :: cs) ∧ Grew W w) (beside_of_T fun t => goes_beside (fun g w h => by rw [h.1]; rfl) _ _ _ (unsq1 W s fr cs hl _ ((Grew.refl W).re t 0) q (by rw [extractK, hq]))) ?_
    rintro g w ⟨rfl, hF⟩
    refine (spread_beside w q (frU1 s q) (fr :: cs) (by rw [← hq, strOf_size, List.length_drop]; omega)).trans ?_
    rintro g w1 ⟨rfl, hF1⟩
    have hF2 := hF.trans hF1
    rw [hqd]
    cases ho : spreadO (s.data.toList.drop 18) with
    | none =>
      have hu : unsqO s.data.toList = none := by unfold unsqO; rw [ho]
      rw [hu]
      exact beside_of_T fun t => goes_beside (fun g w h => by rw [h.1]; rfl) _ _ _ (unsq2n W s fr cs q _ (hF2.re t 0))
    | some t =>
      obtain ⟨h1, h2⟩ := spreadO_iff.1 ho
      refine Beside.trans (Q := fun g w => (∃ rest v20 v21, OptU s rest v20 v21 ∧ g = G (Frame.enter Tryd.prog 23 #[.string (strOf t)] .normal) (frU2 s q t v20 v21 rest :: fr :: cs)) ∧ Grew W w) (beside_of_T fun t' => goes_beside (fun g w h => by obtain ⟨⟨_, _, _, _, h⟩, _⟩ := h; rw [h]; rfl) _ _ _ (unsq2s W s fr cs q t hl _ (hF2.re t' 0))) ?_
      rintro g w3 ⟨⟨rest, v20, v21, hopt, rfl⟩, hF3⟩
      refine (headB w3 (strOf t) (by rw [strOf_size]; exact h1) (hT.grew hF3) (frU2 s q t v20 v21 rest) (fr :: cs)).trans ?_
      rintro g w4 ⟨rfl, hF4⟩
      rw [strOf_size, strOf_data]
      by_cases he : squashV t = s.data.toList
      · rw [unsqO_iff.2 ⟨h1, he⟩]
        have hb : ((strOf (hdrV t.length (crcV t))).toList == (strOf (s.data.toList.take 18)).toList) = true := by
          rw [← he, squashV_take h1]; exact beq_self_eq_true _
        exact beside_of_T fun t' => goes_beside (fun g w h => by rw [h.1]; rfl) _ _ _ (unsq3t W s fr cs q t _ _ (extractT s 18) hb hl rest v20 v21 hopt _ ((hF3.trans hF4).re t' 0))
      · have hu : unsqO s.data.toList = none := by
          unfold unsqO
          rw [ho]
          simp [he]
        rw [hu]
        have hb : ((strOf (hdrV t.length (crcV t))).toList == (strOf (s.data.toList.take 18)).toList) = false := by
          rw [Lib.toList_data, Lib.toList_data, strOf_data, strOf_data]
          simp only [beq_eq_false_iff_ne, ne_eq]
          intro e
          refine he ?_
          rw [squashV_eq h1, e, h2, List.take_append_drop]
        exact beside_of_T fun t' => goes_beside (fun g w h => by rw [h.1]; rfl) _ _ _ (unsq3f W s fr cs q t _ _ (extractT s 18) hb hl rest v20 v21 hopt _ ((hF3.trans hF4).re t' 0))
end Go.Proofs.YtnmlhjigiemfgaaDoor
