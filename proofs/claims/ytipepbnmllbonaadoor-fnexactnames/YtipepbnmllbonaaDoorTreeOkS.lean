/- Contracts of spec.l07Dir and spec.TreeOk. -/
import Derived.Test.YtipepbnmllbonaaDoorNodeOk
import Derived.Test.YtipepbnmllbonaaDoorPathFns2
import Derived.Test.YtipepbnmllbonaaDoorBefore
import Derived.BigQuiet
namespace Go.Proofs.YtipepbnmllbonaaDoor
open Go.RowKit

theorem root_t {p : List UInt8} (h : p = [47]) : ((strOf p).toList == [47]) = true := by rw [Lib.toList_data, strOf_data, h]; rfl
theorem root_f {p : List UInt8} (h : p ≠ [47]) : ((strOf p).toList == [47]) = false := by rw [Lib.toList_data, strOf_data]; simpa using h
theorem dirB_root {ns : List Nd} {p : List UInt8} (h : p = [47]) : dirB ns p = true := by unfold dirB; rw [h]; rfl
theorem dirB_none {ns : List Nd} {p : List UInt8} (h : p ≠ [47]) (hf : findV p ns = none) : dirB ns p = false := by
  unfold dirB; rw [hf]; simpa using h
theorem dirB_some {ns : List Nd} {p : List UInt8} {i : Nat} (h : p ≠ [47]) (hf : findV p ns = some i) (hi : i < ns.length) : dirB ns p = ns[i].dir := by
  unfold dirB; rw [hf]; simp [h, hi]

set_option maxRecDepth 100000 in
set_option maxHeartbeats 4000000 in
theorem specDir (w : World) (v : Value) (ns : List Nd) (next : Int) (p : List UInt8) (h : NRd w v ns) :
    Calls Tryd.prog 19 #[.agg #[v, .int .i64 next], .string (strOf p)] w fun e w' => e = .returned (.bool (dirB ns p)) ∧ Below w.heap.size w w' := by
  obtain ⟨a1, k1, rfl⟩ : ∃ a c, v = .slice a ns.length c := by obtain ⟨a, c, h, _⟩ := h; exact ⟨a, c, h⟩
  have hb0 : Below w.heap.size w (w.alloc (.cells #[.slice a1 ns.length k1, .int .i64 next] 29)) := (Below.refl _ _).alloc (Nat.le_refl _) _
  have BK := Lib.hid (Blk.new w #[.slice a1 ns.length k1, .int .i64 next] 29)
  have HB0 := Lib.hid hb0
  by_cases hr : p = [47]
  · have h1 := root_t hr
    have HV := Lib.hid (dirB_root (ns := ns) hr)
    clear hr h hb0
    go_enter Tryd.func19, Tryd.ntmps19
    go_wp2
    go_ret
    exact ⟨ret_bool (by rw [HV.out]), HB0.out⟩
  · have h1 := root_f hr
    have CF := specFind _ _ ns next p (h.on hb0)
    have HN := Lib.hid (h.on hb0)
    have HR := Lib.hid hr
    clear hr h hb0
    cases hf : findV p ns with
    | none =>
      have hfi : findI p ns = -1 := by unfold findI; rw [hf]
      rw [hfi] at CF
      have HV := Lib.hid (dirB_none HR.out hf)
      clear hf hfi
      go_enter Tryd.func19, Tryd.ntmps19
      go_wp2_with (go_at_call 34; refine CF.mono ?_; rintro e W1 ⟨rfl, hb1⟩)
      go_ret
      exact ⟨ret_bool (by rw [HV.out]), HB0.out.trans (hb1.mono HB0.out.size)⟩
    | some i =>
      have hfi : findI p ns = i := by unfold findI; rw [hf]
      obtain ⟨hi, _, _⟩ := find_some hf
      rw [hfi] at CF
      have HV := Lib.hid (dirB_some HR.out hf hi)
      clear hf hfi
      obtain ⟨g, cap, hs, hg, hlc, hcm, hc⟩ := HN.out.at (by intro e; subst e; simp at hi)
      simp only [Value.slice.injEq] at hs
      obtain ⟨rfl, _, rfl⟩ := hs
      have hck := hc i hi
      unfold maxLen at hcm
      have hi0 : (0 : Int) ≤ (i : Int) := by omega
      have hii : (i : Int) < (ns.length : Int) := by omega
      obtain ⟨nd, hnd⟩ : ∃ nd, ns[i] = nd := ⟨_, rfl⟩
      rw [hnd] at hck HV
      have HCK := Lib.hid hck
      clear hc hnd hck
      go_enter Tryd.func19, Tryd.ntmps19
      go_wp2_with fail
      refine CF.mono ?_
      rintro e W1 ⟨rfl, hb1⟩
      have c0 := (BK.out.on hb1).cell 0
      have c1 := (BK.out.on hb1).cell 1
      have d1 := (HCK.out.on hg hb1).c1
      simp at c0 c1
      have HB1 := Lib.hid (HB0.out.trans (hb1.mono HB0.out.size))
      clear hb1
      go_wp2
      go_ret
      exact ⟨ret_bool (by rw [HV.out]), HB1.out⟩
end Go.Proofs.YtipepbnmllbonaaDoor
