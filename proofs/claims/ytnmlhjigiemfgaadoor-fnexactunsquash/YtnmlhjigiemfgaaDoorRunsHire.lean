/- Runs from its entry to its return, beside leavers. -/
import Derived.Test.YtnmlhjigiemfgaaDoorRunsTail
import Derived.Test.YtnmlhjigiemfgaaDoorHire
namespace Go.Proofs.YtnmlhjigiemfgaaDoor
open Go Go.Conc Go.RowKit

theorem stepG_scope {P : Program} {main : Bool} {b : Frame} {a : Act} {k : List Item} {cs : List Frame} {w : World} {c : Code} : stepG P main (G (b.at a (.code (.scope c) :: k)) cs) w = .go (G (b.at a (.code c :: .inScope c :: k)) cs) w := by simp [G, stepG, stepG.exec, Frame.at]

/-- The blocks that the call has made, one after the other. -/
structure KF (N : Nat) (W : World) (L : List Obj) (w : World) : Prop where
  size : w.heap.size = N + L.length
  kn : ∀ i o, L[i]? = some o → w.heap[N + i]? = some o
  below : Below N W w
theorem KF.r0 {N : Nat} {W : World} {L : List Obj} {w w₁ : World} (h : KF N W L w) (r : R0 w w₁) : KF N W L w₁ := by
  obtain ⟨d, rfl⟩ := r
  exact ⟨h.size, h.kn, ⟨h.below.os, h.below.tape, h.below.output, h.below.size, h.below.block⟩⟩
theorem KF.alloc {N : Nat} {W : World} {L : List Obj} {w : World} (h : KF N W L w) (o : Obj) : KF N W (L ++ [o]) (w.alloc o) := by
  refine ⟨by simp [h.size]; omega, fun i x hx => ?_, h.below.alloc (by have := h.size; omega) o⟩
  rcases Nat.lt_trichotomy i L.length with hi | rfl | hi
  · rw [List.getElem?_append_left hi] at hx
    have hk := h.kn i x hx
    exact (heap_alloc_old w o (Array.getElem?_eq_some_iff.1 hk).1).trans hk
  · simp at hx; subst hx
    rw [← h.size]; exact heap_alloc_new w o
  · rw [List.getElem?_eq_none (by simp; omega)] at hx; cases hx

theorem KF.ch {N : Nat} {W : World} {a b c : Obj} {v : Value} {T : TypeId} {w : World} (h : KF N W [a, b, c, .cells #[v] T (0, 0)] w) : w.cell? ⟨N + 3, 0, none⟩ = some v := by simp [World.cell?, h.kn 3 _ rfl]
theorem KF.chz {N : Nat} {W : World} {a b c : Obj} {v : Value} {T : TypeId} {w : World} (h : KF N W [a, b, c, .cells #[v] T (0, 0)] w) : w.frozen? ⟨N + 3, 0, none⟩ = false := by simp [World.frozen?, h.kn 3 _ rfl]
theorem KF.set {N : Nat} {W : World} {a b c : Obj} {u v : Value} {T : TypeId} {w : World} (h : KF N W [a, b, c, .cells #[u] T (0, 0)] w) : KF N W [a, b, c, .cells #[v] T (0, 0)] (w.setCell ⟨N + 3, 0, none⟩ v) := by
  refine ⟨by rw [setCell_size]; exact h.size, fun i o hi => ?_, ⟨h.below.os, h.below.tape, h.below.output, by rw [setCell_size]; exact h.below.size, fun k hk => (setCell_other _ _ _ _ (by simp; omega)).trans (h.below.block k hk)⟩⟩
  match i, hi with
  | 0, hi => exact (setCell_other _ _ _ _ (by simp)).trans (h.kn 0 o hi)
  | 1, hi => exact (setCell_other _ _ _ _ (by simp)).trans (h.kn 1 o hi)
  | 2, hi => exact (setCell_other _ _ _ _ (by simp)).trans (h.kn 2 o hi)
  | 3, hi =>
    simp at hi; subst hi
    simp [World.setCell, Array.getElem?_modify, h.kn 3 _ rfl]
theorem AF.chR {N : Nat} {W : World} {p : Nat × Obj} {v x : Value} {t : TypeId} {l : List UInt8} {w : World} (h : AF N W [p, (N + 3, .cells #[x] t (0, 0))] v l w) : w.cell? ⟨N + 3, 0, none⟩ = some x := by simp [World.cell?, h.cell (List.mem_cons_of_mem _ (List.mem_cons_self ..))]
attribute [go_sem] Instr.makeChan
noncomputable def body18 : Code := Tryd.f25.body.getD .skip
noncomputable def tail18 : Code := match body18 with | .seq _ (.seq _ (.seq _ r)) => r | _ => .skip
noncomputable def ops18 : Array Oper := match body18 with | .seq _ (.seq _ (.seq (.region _ ops _) _)) => ops | _ => #[]
noncomputable def X13 : Code := match S13 with | .seq _ (.seq _ (.seq _ (.seq (.seq _ b) _))) => b | _ => .skip
noncomputable def ops13 : Array Oper := match S13 with | .seq _ (.seq _ (.seq _ (.seq (.seq (.region _ ops _) _) _))) => ops | _ => #[]

section
variable (N : Nat) (s : ByteArray) (cs : List Frame)
/-- Runs' frame while sentBytes is called. -/
noncomputable def fr13 (todo : List Nat) (u7 : Value) : Frame := (base 12).at ⟨#[.string s, undef, .string ⟨#[]⟩, .slice none 0 0, .pointer (some ⟨N, 0, none⟩), undef, .string s, u7, undef, undef, undef, undef, undef, undef, undef, undef, undef, undef, undef, undef, undef, undef, undef, undef, undef, undef, undef, undef, undef, undef, undef, undef, undef], []⟩ [.inRegion ops13 todo, .code X13, .code R13, .inScope S13]
/-- AT THE GO STATEMENT. -/
noncomputable def atGoR (rest : List Nat) : Goroutine := G ((base 25).at ⟨#[.string s, .pointer (some ⟨N + 1, 0, none⟩), .chan none, .pointer (some ⟨N + 3, 0, none⟩), .chan (some (N + 2)), .func (.func 38) #[] #[.pointer (some ⟨N + 3, 0, none⟩), .pointer (some ⟨N + 1, 0, none⟩)], undef], []⟩ [.inRegion ops18 rest, .code tail18]) (fr13 N s [1] undef :: cs)

set_option maxRecDepth 100000 in
/-- From the entry to the go statement. -/
theorem prologueR (W : World) (hN : W.heap.size = N) (Stop : Goroutine → World → Prop)
    (stop : ∀ w, KF N W [runO 0 0, .cells #[.string s] 9 (0, 0), .chan 256 #[] false 0 0 false, .cells #[.chan (some (N + 2))] 54 (0, 0)] w → Stop (atGoR N s cs [1]) w) :
    Goes Tryd.prog true R0 D1 Stop 60 (G (Frame.enter Tryd.prog 12 #[.string s] .normal) cs) W := by
  have e : Frame.enter Tryd.prog 12 #[.string s] .normal = (base 12).at ⟨#[.string s, undef, undef, undef, undef, undef, undef, undef, undef, undef, undef, undef, undef, undef, undef, undef, undef, undef, undef, undef, undef, undef, undef, undef, undef, undef, undef, undef, undef, undef, undef, undef, undef], []⟩ [.code body13] := by
    simp [Frame.enter, Frame.at, Tryd.func12, base, body13, Tryd.f12]
  rw [e]
  have hF : KF N W [] W := ⟨by simp [hN], by simp, Below.refl _ _⟩
  simp only [atGoR, fr13, ops18, tail18, body18, ops13, X13, R13, S13, body13, Tryd.f12, Tryd.f25, Option.getD_some] at stop ⊢
  repeat (refine Goes.step rfl (fun _ h₁ => ?_); (first | own_rw | (rw [stepG_scope]; simp only [goes_go])); refine ⟨⟨rfl, by simp⟩, ?_⟩; replace hF := hF.r0 h₁; clear h₁)
  (refine Goes.step rfl (fun w₁ h₁ => ?_); replace hF := hF.r0 h₁; clear h₁; refine goes_oper_k rfl rfl (by decide) (fun K hK => ?_); skip; go_simp; refine hK _ _ ⟨⟨rfl, fun e he => ?_⟩, ?_⟩; (have hm := mem_listed he; simp [go_sem, *] at hm; try (subst hm; exact plain_cell _ _ _)); clear hK K; skip)
  repeat (refine Goes.step rfl (fun _ h₁ => ?_); (first | own_rw | (rw [stepG_scope]; simp only [goes_go])); refine ⟨⟨rfl, by simp⟩, ?_⟩; replace hF := hF.r0 h₁; clear h₁)
  (refine Goes.step rfl (fun w₁ h₁ => ?_); replace hF := hF.r0 h₁; clear h₁; refine goes_oper_k rfl rfl (by decide) (fun K hK => ?_); skip; go_simp; refine hK _ _ ⟨⟨rfl, fun e he => ?_⟩, ?_⟩; (have hm := mem_listed he; simp [go_sem, *] at hm; try (subst hm; exact plain_cell _ _ _)); clear hK K; skip)
  repeat (refine Goes.step rfl (fun _ h₁ => ?_); (first | own_rw | (rw [stepG_scope]; simp only [goes_go])); refine ⟨⟨rfl, by simp⟩, ?_⟩; replace hF := hF.r0 h₁; clear h₁)
  (refine Goes.step rfl (fun w₁ h₁ => ?_); replace hF := hF.r0 h₁; clear h₁; refine goes_oper_k rfl rfl (by decide) (fun K hK => ?_); (have hsz := hF.size; simp at hsz); go_simp; refine hK _ _ ⟨⟨rfl, fun e he => ?_⟩, ?_⟩; (have hm := mem_listed he; simp [go_sem, *] at hm; try (subst hm; exact plain_cell _ _ _)); clear hK K; (replace hF := hF.alloc (runO 0 0); simp only [List.nil_append, List.cons_append] at hF; clear hsz))
  repeat (refine Goes.step rfl (fun _ h₁ => ?_); (first | own_rw | (rw [stepG_scope]; simp only [goes_go])); refine ⟨⟨rfl, by simp⟩, ?_⟩; replace hF := hF.r0 h₁; clear h₁)
  (refine Goes.step rfl (fun w₁ h₁ => ?_); replace hF := hF.r0 h₁; clear h₁; refine goes_oper_k rfl rfl (by decide) (fun K hK => ?_); skip; go_simp; refine hK _ _ ⟨⟨rfl, fun e he => ?_⟩, ?_⟩; (have hm := mem_listed he; simp [go_sem, *] at hm; try (subst hm; exact plain_cell _ _ _)); clear hK K; skip)
  (refine Goes.step rfl (fun w₁ h₁ => ?_); replace hF := hF.r0 h₁; clear h₁)
  refine goes_call rfl rfl (by decide) rfl Tryd.func25 (by rfl) rfl ⟨⟨rfl, by simp⟩, ?_⟩
  simp only [Tryd.ntmps25]
  walk_nrm
  repeat (refine Goes.step rfl (fun _ h₁ => ?_); (first | own_rw | (rw [stepG_scope]; simp only [goes_go])); refine ⟨⟨rfl, by simp⟩, ?_⟩; replace hF := hF.r0 h₁; clear h₁)
  (refine Goes.step rfl (fun w₁ h₁ => ?_); replace hF := hF.r0 h₁; clear h₁; refine goes_oper_k rfl rfl (by decide) (fun K hK => ?_); (have hsz := hF.size; simp at hsz); go_simp; refine hK _ _ ⟨⟨rfl, fun e he => ?_⟩, ?_⟩; (have hm := mem_listed he; simp [go_sem, *] at hm; try (subst hm; exact plain_cell _ _ _)); clear hK K; (replace hF := hF.alloc (.cells #[.string s] 9 (0, 0)); simp only [List.nil_append, List.cons_append] at hF; clear hsz))
  (refine Goes.step rfl (fun w₁ h₁ => ?_); replace hF := hF.r0 h₁; clear h₁; refine goes_oper_k rfl rfl (by decide) (fun K hK => ?_); skip; go_simp; refine hK _ _ ⟨⟨rfl, fun e he => ?_⟩, ?_⟩; (have hm := mem_listed he; simp [go_sem, *] at hm; try (subst hm; exact plain_cell _ _ _)); clear hK K; skip)
  repeat (refine Goes.step rfl (fun _ h₁ => ?_); (first | own_rw | (rw [stepG_scope]; simp only [goes_go])); refine ⟨⟨rfl, by simp⟩, ?_⟩; replace hF := hF.r0 h₁; clear h₁)
  (refine Goes.step rfl (fun w₁ h₁ => ?_); replace hF := hF.r0 h₁; clear h₁; refine goes_oper_k rfl rfl (by decide) (fun K hK => ?_); (have hsz := hF.size; simp at hsz); go_simp; refine hK _ _ ⟨⟨rfl, fun e he => ?_⟩, ?_⟩; (have hm := mem_listed he; simp [go_sem, *] at hm; try (subst hm; exact plain_cell _ _ _)); clear hK K; (replace hF := hF.alloc (.chan 256 #[] false 0 0 false); simp only [List.nil_append, List.cons_append] at hF; clear hsz))
  (refine Goes.step rfl (fun w₁ h₁ => ?_); replace hF := hF.r0 h₁; clear h₁; refine goes_oper_k rfl rfl (by decide) (fun K hK => ?_); (have hsz := hF.size; simp at hsz); go_simp; refine hK _ _ ⟨⟨rfl, fun e he => ?_⟩, ?_⟩; (have hm := mem_listed he; simp [go_sem, *] at hm; try (subst hm; exact plain_cell _ _ _)); clear hK K; (replace hF := hF.alloc (.cells #[.chan none] 54 (0, 0)); simp only [List.nil_append, List.cons_append] at hF; clear hsz))
  (refine Goes.step rfl (fun w₁ h₁ => ?_); replace hF := hF.r0 h₁; clear h₁; refine goes_oper_k rfl rfl (by decide) (fun K hK => ?_); (have hc := hF.ch; have hz := hF.chz); go_simp; refine hK _ _ ⟨⟨rfl, fun e he => ?_⟩, ?_⟩; (have hm := mem_listed he; simp [go_sem, *] at hm; try (subst hm; exact plain_cell _ _ _)); clear hK K; (replace hF := hF.set (v := .chan (some (N + 2)))))
  repeat (refine Goes.step rfl (fun _ h₁ => ?_); (first | own_rw | (rw [stepG_scope]; simp only [goes_go])); refine ⟨⟨rfl, by simp⟩, ?_⟩; replace hF := hF.r0 h₁; clear h₁)
  (refine Goes.step rfl (fun w₁ h₁ => ?_); replace hF := hF.r0 h₁; clear h₁; refine goes_oper_k rfl rfl (by decide) (fun K hK => ?_); skip; go_simp; refine hK _ _ ⟨⟨rfl, fun e he => ?_⟩, ?_⟩; (have hm := mem_listed he; simp [go_sem, *] at hm; try (subst hm; exact plain_cell _ _ _)); clear hK K; skip)
  exact Goes.stop fun w' h' => stop w' (hF.r0 h')

set_option maxRecDepth 100000 in
/-- From behind the go statement. -/
theorem recvs_begin (W : World) (X : List UInt8) (hs : 5 * s.size ≤ 400000000) (hX : tellR [] 0 0 s.data.toList = X) (w : World) (hF : AF N W [(N, runO 0 0), (N + 3, .cells #[.chan (some (N + 2))] 54 (0, 0))] (.slice none 0 0) [] w) :
    Recvs Tryd.prog (N + 2) (ShR N s) (MineR N) (.int .u8 0) (FinR N W cs X) (sentV s.data.toList) (atGoR N s cs []) w := by
  refine (recvs_iff ..).2 ⟨40, ?_⟩
  have hstop : ∀ (a : Act) (w' : World), At13 N (.slice none 0 0) a → AF N W [(N, runO 0 0), (N + 3, .cells #[.chan (some (N + 2))] 54 (0, 0))] (.slice none 0 0) [] w' →
      StopA Tryd.prog (N + 2) (ShR N s) (MineR N) (.int .u8 0) (FinR N W cs X) (sentV s.data.toList) (recvG cs a [0, 1]) w' := fun a w' ha h =>
    stopA_at N s W cs X s.data.toList [] 0 0 (.slice none 0 0) a w' ha (h.less (by simp)) (by omega) (by simp; omega) hX
  have hat : At13 N (.slice none 0 0) ⟨#[.string s, undef, .string ⟨#[]⟩, .slice none 0 0, .pointer (some ⟨N, 0, none⟩), undef, .string s, .chan (some (N + 2)), undef, undef, undef, undef, undef, undef, undef, undef, undef, undef, undef, undef, undef, undef, undef, undef, undef, undef, undef, undef, undef, undef, undef, undef, undef], []⟩ := ⟨_, _, _, _, _, _, _, _, _, _, _, _, _, _, _, _, _, _, _, _, _, _, _, _, _, _, _, _, _, _, rfl⟩
  simp only [atGoR, fr13, ops18, tail18, body18, Tryd.f25, Option.getD_some]
  repeat (first | (refine Goes.step rfl (fun _ h₁ => ?_); own_rw; refine ⟨(termsR N s).idle _, ?_⟩; replace hF := hF.aside h₁; clear h₁) | (refine Goes.step rfl (fun w₁ h₁ => ?_); replace hF := hF.aside h₁; clear h₁; refine goes_oper_k rfl rfl (by decide) (fun K hK => ?_); have hc := hF.chR; go_simp; refine hK _ _ ⟨dar_of hF.size (Keeps.refl _ _) (fun e he => ?_), ?_⟩; (have hm := mem_listed he; simp [go_sem, *] at hm; try (subst hm; exact evA_readR _ _ (by simp))); clear hK K hc))
  refine Goes.step rfl (fun _ h₁ => ?_)
  replace hF := hF.aside h₁
  rw [stepG_ret']
  refine ⟨(termsR N s).idle _, ?_⟩
  clear h₁
  refine Goes.step rfl (fun w₁ h₁ => ?_)
  replace hF := hF.aside h₁
  have hres := resultsC_tmp (P := Tryd.prog) (fn := Tryd.f25) (t := 2) (by rfl) #[.string s, .pointer (some ⟨N + 1, 0, none⟩), .chan (some (N + 2)), .pointer (some ⟨N + 3, 0, none⟩), .chan (some (N + 2)), .func (.func 38) #[] #[.pointer (some ⟨N + 3, 0, none⟩), .pointer (some ⟨N + 1, 0, none⟩)], .chan (some (N + 2))]
  rw [stepG_leave (b := base 25) rfl rfl Tryd.func25 (hres w₁).1 (hres w₁).2]
  refine ⟨(termsR N s).idle _, ?_⟩
  clear h₁ hres
  show Goes Tryd.prog true (Aside (N + 2)) (DA (N + 2) (ShR N s) (MineR N)) _ _ (G ((base 12).at ⟨#[.string s, undef, .string ⟨#[]⟩, .slice none 0 0, .pointer (some ⟨N, 0, none⟩), undef, .string s, .chan (some (N + 2)), undef, undef, undef, undef, undef, undef, undef, undef, undef, undef, undef, undef, undef, undef, undef, undef, undef, undef, undef, undef, undef, undef, undef, undef, undef], []⟩ [.inRegion ops13 [], .code X13, .code R13, .inScope S13]) cs) w₁
  have hX13 : X13 = .block 0 (.loop L13) := rfl
  have hL : L13 = .seq (.region 4 ops4 false) L13b := rfl
  refine Goes.step rfl fun w2 h2 => ?_
  rw [stepG_region_end]
  refine ⟨(termsR N s).idle _, Goes.step rfl fun w3 h3 => ?_⟩
  rw [hX13, stepG_block]
  refine ⟨(termsR N s).idle _, Goes.step rfl fun w4 h4 => ?_⟩
  rw [stepG_loop]
  refine ⟨(termsR N s).idle _, Goes.step rfl fun w5 h5 => ?_⟩
  rw [hL, stepG_seq]
  refine ⟨(termsR N s).idle _, Goes.step rfl fun w6 h6 => ?_⟩
  rw [stepG_region]
  refine ⟨(termsR N s).idle _, Goes.stop fun w7 h7 => ?_⟩
  exact hstop _ w7 hat ((((((hF.aside h2).aside h3).aside h4).aside h5).aside h6).aside h7)
end

/-- What a call leaves of the world. -/
structure Grew (W w : World) : Prop where
  os : w.os = W.os
  output : w.output = W.output
  size : W.heap.size ≤ w.heap.size
  block : ∀ k, k < W.heap.size → w.heap[k]? = W.heap[k]?

theorem byte_nil {w : World} {B : Nat} : Bytes w B (.slice none 0 0) [] := World.ownsRow_nil _ _ _ _

/-- ████ RUNS, WHOLE, BESIDE LEAVERS. ████ -/
theorem runs_beside (W : World) (s : ByteArray) (fr : Frame) (cs : List Frame) (hs : 5 * s.size ≤ 400000000) (X : List UInt8) (hX : tellR [] 0 0 s.data.toList = X) :
    Beside Tryd.prog (G (Frame.enter Tryd.prog 12 #[.string s] .normal) (fr :: cs)) W (fun g' w' => g' = G (fr.finish (.string (strOf X))) cs ∧ Grew W w') := by
  refine beside_of_T fun t => ?_
  generalize hN : W.heap.size = N
  have hN' : (reT W t 0).heap.size = N := hN
  refine BesideT.trans (Q := fun g w => g = atGoR N s (fr :: cs) [1] ∧ KF N (reT W t 0) [runO 0 0, .cells #[.string s] 9 (0, 0), .chan 256 #[] false 0 0 false, .cells #[.chan (some (N + 2))] 54 (0, 0)] w)
    (goes_beside (fun g w h => by rw [h.1]; rfl) _ _ _ (prologueR N s (fr :: cs) (reT W t 0) hN' _ fun w h => ⟨rfl, h⟩)) ?_
  rintro g w ⟨rfl, hF⟩
  have hsize : 4 + N ≤ w.heap.size := by have := hF.size; simp at this; omega
  refine BesideT.trans (Q := FinR N (reT W t 0) (fr :: cs) X) (beside_hire (c := N + 2) (cap := 256) (S := ShR N s) (Mine := MineR N) (z := .int .u8 0) (by omega) (fun w w₁ ha h => ⟨(ha.block (N + 1) (by omega)).trans h.sb, (ha.block (N + 3) (by omega)).trans h.cb⟩) rfl fun d => ?_) ?_
  · have hF' := hF.r0 ⟨d, rfl⟩
    refine ⟨atGoR N s (fr :: cs) [], born Tryd.prog (call25 N), w.at d, #[], 0, 0, sentV s.data.toList, ?_, by simp, rfl, rfl, hF'.kn 2 _ rfl, ⟨hF'.kn 1 _ rfl, hF'.kn 3 _ rfl⟩, ?_, sends_all N s (by omega)⟩
    · simp only [atGoR, ops18, tail18, body18, Tryd.f25, Option.getD_some]
      rw [stepG_spawn (d := call25 N) (w' := w.at d) (f := .func 38) (c := #[.pointer (some ⟨N + 3, 0, none⟩), .pointer (some ⟨N + 1, 0, none⟩)]) rfl rfl (by decide) (by simp [go_sem, call25, Deferred.ofValue]) rfl]
      simp [listed, go_sem, seen, Deferred.ofValue]
      rfl
    · refine recvs_begin N s (fr :: cs) (reT W t 0) X hs hX _ ⟨byte_nil, hF'.below, by show N + 4 ≤ w.heap.size; omega, fun p hp => ?_⟩
      simp at hp
      rcases hp with rfl | rfl
      · exact ⟨by simp, hF'.kn 0 _ rfl, runO_row _ _⟩
      · exact ⟨by simp, hF'.kn 3 _ rfl, fun ⟨cur, h⟩ => by simp at h⟩
  · intro g w hfin
    obtain ⟨m, hm⟩ := tail_goes N (reT W t 0) fr cs X
    refine (goes_beside (fun g w h => by rw [h.1]; rfl) m g w (hm g w hfin)).mono fun g' w' h => ⟨h.1, ⟨h.2.os, h.2.output, by rw [hN]; have := h.2.size; rw [hN'] at this; exact this, fun k hk => h.2.block k (by omega)⟩⟩
end Go.Proofs.YtnmlhjigiemfgaaDoor
