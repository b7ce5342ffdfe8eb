/- Small laws of a walk beside leavers; spec.Runs beside them (a cut without laws.FnExactRuns: that text has them itself). -/
import Derived.Test.YtnmlhjigiemfgaaDoorRunsHire
import Derived.Test.YtnmlhjigiemfgaaDoorRunsTie
import Derived.Test.YtnmlhjigiemfgaaDoorBesideEnd
import Derived.Test.YtnmlhjigiemfgaaDoorSpecRuns
import Derived.WalkKit
namespace Go.Proofs.YtnmlhjigiemfgaaDoor
open Go Go.Conc Go.RowKit

theorem goes_enterF {P : Program} {main : Bool} {b : Frame} {a : Act} {k : List Item} {cs : List Frame} {w : World} {ops : Array Oper} {i : Nat} {rest : List Nat} {o : Oper} {K : Goroutine → World → Array Event → Prop} {f : FuncId} {fn : Func} {c : Code} {args : Array Operand} {ats : Array TypeId}
    (ho : ops[i]? = some o) (hw : Region.wanted o (yielded ops a.tmps) = true) (hk : b.kind ≠ .early) (hop : o.op = .call { callee := .value (.func f), args, argTypes := ats })
    (hf : P.funcs[f]? = some fn) (hname : (fn.name == "runtime.NumGoroutine") = false) (hb : fn.body = some c)
    (h : K (G (Frame.enter P f (args.map a.eval) .normal) (b.at a (.inRegion ops (i :: rest) :: k) :: cs)) w #[]) :
    (stepG P main (G (b.at a (.inRegion ops (i :: rest) :: k)) cs) w).goes K :=
  goes_call ho hw hk hop hf hname hb (by rw [← enter_at _ hf hb]; exact h)

theorem Grew.refl (W : World) : Grew W W := ⟨rfl, rfl, Nat.le_refl _, fun _ _ => rfl⟩
theorem Grew.r0 {W w w₁ : World} (h : Grew W w) (r : R0 w w₁) : Grew W w₁ := by obtain ⟨d, rfl⟩ := r; exact ⟨h.os, h.output, h.size, h.block⟩
theorem Grew.re {W w : World} (h : Grew W w) (t : TapeX) (d : Nat) : Grew W (reT w t d) := ⟨h.os, h.output, h.size, h.block⟩
theorem Grew.trans {a b c : World} (h : Grew a b) (h' : Grew b c) : Grew a c := ⟨h'.os.trans h.os, h'.output.trans h.output, Nat.le_trans h.size h'.size, fun k hk => (h'.block k (Nat.lt_of_lt_of_le hk h.size)).trans (h.block k hk)⟩
theorem Grew.of_below {W w : World} (h : Below W.heap.size W w) : Grew W w := ⟨h.os, h.output, h.size, h.block⟩

theorem closedRuns : Closed Tryd.prog [27] := by
  refine ⟨fun f hf => ?_, no_init (by kernel_rfl)⟩
  simp at hf
  subst hf
  exact .body _ _ Tryd.func27 (by rfl) rfl (by kernel_rfl)
/-- spec.Runs, beside leavers. -/
theorem specRunsB (W : World) (s : ByteArray) (hs : s.size ≤ 1048576) (fr : Frame) (cs : List Frame) :
    Beside Tryd.prog (G (Frame.enter Tryd.prog 27 #[.string s] .normal) (fr :: cs)) W fun g' w' => g' = G (fr.finish (.string (strOf (runsV s.data.toList)))) cs ∧ Grew W w' := by
  refine (beside_calls closedRuns Tryd.func27 rfl (by kernel_rfl) (fun tmps => ⟨_, resultsC_tmp (by rfl) tmps⟩) (R := fun v w' => v = .string (strOf (runsV s.data.toList)) ∧ Grew W w') (fun v w t d h => ⟨h.1, h.2.re t d⟩)
    (fun t => (specRuns s (reT W t 0) hs).mono fun e w' h => ⟨_, h.1, rfl, ⟨h.2.os, h.2.output, h.2.size, h.2.block⟩⟩) fr cs).mono ?_
  rintro g' w' ⟨v, rfl, rfl, h⟩
  exact ⟨rfl, h⟩

def PostR (W : World) (v : Value) (w : World) : Prop := v = .bool true ∧ Grew W w
end Go.Proofs.YtnmlhjigiemfgaaDoor
