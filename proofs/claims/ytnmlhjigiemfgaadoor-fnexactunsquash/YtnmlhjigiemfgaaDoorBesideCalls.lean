/- A contract of one goroutine's machine, that holds on every tape, carried out beside leavers. -/
import Derived.Test.YtnmlhjigiemfgaaDoorBesideGoes
import Derived.Conc.CompanyCalls
import Derived.KernelRfl
namespace Go.Proofs.YtnmlhjigiemfgaaDoor
open Go Go.Conc

/-- ████ A CALL BY ITS CONTRACT, BESIDE LEAVERS. ████ -/
theorem beside_calls {P : Program} {L : List FuncId} (hL : Closed P L) {f : FuncId} {fn : Func} {c : Code} (hf : P.funcs[f]? = some fn) (hb : fn.body = some c) (hc : okCode L c = true) (hres : ∀ tmps, ∃ v, ResultsC P fn tmps v)
    {args : Array Value} {w0 : World} {R : Value → World → Prop} (hR : ∀ v w t d, R v w → R v (reT w t d))
    (hcall : ∀ t, Calls P f args (reT w0 t 0) fun e w' => ∃ v, e = .returned v ∧ R v w') (fr : Frame) (cs : List Frame) :
    Beside P (G (Frame.enter P f args .normal) (fr :: cs)) w0 fun g' w' => ∃ v, g' = G (fr.finish v) cs ∧ R v w' := by
  let Stop : Frame → World → Prop := fun fr1 w' => ∃ v, R v w' ∧ fr1.mode = .returning ∧ fr1.defers = [] ∧ fr1.kind = .normal ∧ fr1.fn = f ∧ ResultsC P fn fr1.tmps v
  have hS : ∀ fr w t d, Stop fr w → Stop fr (reT w t d) := fun fr w t d ⟨v, h1, h2⟩ => ⟨v, hR _ _ _ _ h1, h2⟩
  have hok : OkFrame L (Frame.enter P f args .normal) := by
    refine ⟨?_, rfl, rfl, rfl⟩
    simp [Frame.enter, hf, hb, okItem, hc]
  have hT : Tot P Stop (Frame.enter P f args .normal) [] w0 := by
    refine tot_of_lone hL hS hok fun t => ?_
    obtain ⟨e, w', fr1, ⟨v, rfl, hRv⟩, hcomes, hfn, hm, hd, hk, fn', hf', hr⟩ := hcall t [floor P]
    obtain ⟨n, hn⟩ := hcomes
    rw [hfn, hf] at hf'
    obtain rfl := Option.some.inj hf'
    obtain ⟨v2, hv2⟩ := hres fr1.tmps
    have := (hv2 w').1
    rw [hr] at this
    obtain rfl : v = v2 := by simpa using this
    exact ⟨n, fr1, w', hn, v, hRv, hm, hd, hk, hfn, hv2⟩
  refine (tot_beside hS hT (fr :: cs)).trans ?_
  rintro a' w' ⟨fr1, rfl, v, hRv, hm, hd, hk, hfn, hv⟩
  refine beside_step1 rfl fun t d => ⟨G (fr.finish v) cs, reT w' t d, #[], ?_, by simp, rfl, rfl, .here fun t2 d2 => ⟨v, rfl, hR _ _ _ _ (hR _ _ _ _ hRv)⟩⟩
  have h1 := (hv (reT w' t d)).1
  have h2 := (hv (reT w' t d)).2
  simp [G, stepG, unwind, doReturn, hm, hd, hk, hfn, hf, h1, h2, seen, GStep.after]
end Go.Proofs.YtnmlhjigiemfgaaDoor
