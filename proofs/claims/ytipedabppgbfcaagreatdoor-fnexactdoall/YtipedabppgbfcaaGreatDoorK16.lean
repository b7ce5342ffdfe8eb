/- Contracts of spec.l07Dir and spec.TreeOk. Contracts over the tree that is worked on: placeOf, hasFolder, fileAt, the nodes' node methods, newBase. -/
import Derived.Test.YtipedabppgbfcaaGreatDoorK14
import Derived.Test.YtipedabppgbfcaaGreatDoorK15
import Derived.BigQuiet
import Derived.Test.YtipedabppgbfcaaGreatDoorK9
set_option linter.all false
namespace Go.Proofs.YtipedabppgbfcaaGreatDoor
open Go.RowKit

theorem root_t {p : List UInt8} (h : p = [47]) : ((strOf p).toList == [47]) = true := by rw [Lib.toList_data, strOf_data, h]; rfl
theorem root_f {p : List UInt8} (h : p ≠ [47]) : ((strOf p).toList == [47]) = false := by rw [Lib.toList_data, strOf_data]; simpa using h
theorem dirB_root {ns : List Nd} {p : List UInt8} (h : p = [47]) : dirB ns p = true := by unfold dirB; rw [h]; rfl
theorem dirB_none {ns : List Nd} {p : List UInt8} (h : p ≠ [47]) (hf : findV p ns = none) : dirB ns p = false := by
  unfold dirB; rw [hf]; simpa using h
theorem dirB_some {ns : List Nd} {p : List UInt8} {i : Nat} (h : p ≠ [47]) (hf : findV p ns = some i) (hi : i < ns.length) : dirB ns p = ns[i].dir := by
  unfold dirB; rw [hf]; simp [h, hi]

set_option maxRecDepth 100000 in
set_option maxHeartbeats 4000000 in
theorem specDir (w : World) (v : Value) (ns : List Nd) (next : Int) (p : List UInt8) (h : NRd w v ns) :
    Calls Tryz.prog 63 #[.agg #[v, .int .i64 next], .string (strOf p)] w fun e w' => e = .returned (.bool (dirB ns p)) ∧ Below w.heap.size w w' := by
  obtain ⟨a1, k1, rfl⟩ : ∃ a c, v = .slice a ns.length c := by obtain ⟨a, c, h, _⟩ := h; exact ⟨a, c, h⟩
  have hb0 : Below w.heap.size w (w.alloc (.cells #[.slice a1 ns.length k1, .int .i64 next] 26)) := (Below.refl _ _).alloc (Nat.le_refl _) _
  have BK := Lib.hid (Blk.new w #[.slice a1 ns.length k1, .int .i64 next] 26)
  have HB0 := Lib.hid hb0
  by_cases hr : p = [47]
  · have h1 := root_t hr
    have HV := Lib.hid (dirB_root (ns := ns) hr)
    clear hr h hb0
    go_enter Tryz.func63, Tryz.ntmps63
    go_wp2
    go_ret
    exact ⟨ret_bool (by rw [HV.out]), HB0.out⟩
  · have h1 := root_f hr
    have CF := specFind _ _ ns next p (h.on hb0)
    have HN := Lib.hid (h.on hb0)
    have HR := Lib.hid hr
    clear hr h hb0
    cases hf : findV p ns with
    | none =>
      have hfi : findI p ns = -1 := by unfold findI; rw [hf]
      rw [hfi] at CF
      have HV := Lib.hid (dirB_none HR.out hf)
      clear hf hfi
      go_enter Tryz.func63, Tryz.ntmps63
      go_wp2_with (go_at_call 98; refine CF.mono ?_; rintro e W1 ⟨rfl, hb1⟩)
      go_ret
      exact ⟨ret_bool (by rw [HV.out]), HB0.out.trans (hb1.mono HB0.out.size)⟩
    | some i =>
      have hfi : findI p ns = i := by unfold findI; rw [hf]
      obtain ⟨hi, _, _⟩ := find_some hf
      rw [hfi] at CF
      have HV := Lib.hid (dirB_some HR.out hf hi)
      clear hf hfi
      obtain ⟨g, cap, hs, hg, hlc, hcm, hc⟩ := HN.out.at (by intro e; subst e; simp at hi)
      simp only [Value.slice.injEq] at hs
      obtain ⟨rfl, _, rfl⟩ := hs
      have hck := hc i hi
      unfold maxLen at hcm
      have hi0 : (0 : Int) ≤ (i : Int) := by omega
      have hii : (i : Int) < (ns.length : Int) := by omega
      obtain ⟨nd, hnd⟩ : ∃ nd, ns[i] = nd := ⟨_, rfl⟩
      rw [hnd] at hck HV
      have HCK := Lib.hid hck
      clear hc hnd hck
      go_enter Tryz.func63, Tryz.ntmps63
      go_wp2_with fail
      refine CF.mono ?_
      rintro e W1 ⟨rfl, hb1⟩
      have c0 := (BK.out.on hb1).cell 0
      have c1 := (BK.out.on hb1).cell 1
      have d1 := (HCK.out.on hg hb1).c1
      simp at c0 c1
      have HB1 := Lib.hid (HB0.out.trans (hb1.mono HB0.out.size))
      clear hb1
      go_wp2
      go_ret
      exact ⟨ret_bool (by rw [HV.out]), HB1.out⟩
end Go.Proofs.YtipedabppgbfcaaGreatDoor
namespace Go.Proofs.YtipedabppgbfcaaGreatDoor
open Go.RowKit
variable {R : World}

set_option maxRecDepth 100000 in
set_option maxHeartbeats 1000000 in
theorem wkPlace (w : World) (B p : Nat) (v : Value) (ps : List (Nat × Nd)) (next : Int) (path : List UInt8) (h : Work R w B p v ps next) (hu : Up (nds ps)) (hlen : ps.length ≤ 60) :
    Calls Tryz.prog 153 #[.pointer (some ⟨p, 0, none⟩), .string (strOf path)] w fun e w' => e = .returned (.tuple #[.int .i64 (placeV path (nds ps)), .bool (findV path (nds ps)).isSome]) ∧ w = w' := by
  have CS := wkSearch w B p v ps next path h hu hlen
  have c0 := h.top.cell 0
  simp at c0
  generalize placeV path (nds ps) = i at CS ⊢
  generalize (findV path (nds ps)).isSome = b at CS ⊢
  obtain ⟨a, cap, rfl⟩ := h.shape
  clear h hu
  go_enter Tryz.func153, Tryz.ntmps153
  go_wp2_with (go_at_call 179; refine CS.mono ?_; rintro e w' ⟨rfl, rfl⟩)
  go_ret2
  exact ⟨rfl, rfl⟩
/-- What stands at a place that was found. -/
theorem found_at {ps : List (Nat × Nd)} (hu : Up (nds ps)) {path : List UInt8} (h : (findV path (nds ps)).isSome = true) : ∃ hi : placeV path (nds ps) < ps.length, ps[placeV path (nds ps)].2.path = path := by
  cases hf : findV path (nds ps) with
  | none => rw [hf] at h; cases h
  | some k =>
    obtain ⟨e, hk, hp⟩ := find_is_place hu hf
    subst e
    exact ⟨by simpa [nds] using hk, by rw [nds_at] at hp; exact hp⟩
theorem Work.at {W : World} {B p : Nat} {v : Value} {ps : List (Nat × Nd)} {next : Int} (h : Work R W B p v ps next) {i : Nat} (hi : i < ps.length) : ∃ g cap, v = .slice (some ⟨g, 0, none⟩) ps.length cap ∧ W.cell? ⟨g, i, none⟩ = some (wkVal ps[i]) := by
  rcases h.form with ⟨_, rfl⟩ | ⟨g, cap, rfl, _, _, hc, _⟩
  · simp at hi
  · exact ⟨g, cap, rfl, hc i hi⟩

set_option maxRecDepth 100000 in
set_option maxHeartbeats 2000000 in
theorem wkHasFolder (w : World) (B p : Nat) (v : Value) (ps : List (Nat × Nd)) (next : Int) (path : List UInt8) (h : Work R w B p v ps next) (hu : Up (nds ps)) (hlen : ps.length ≤ 60) :
    Calls Tryz.prog 155 #[.pointer (some ⟨p, 0, none⟩), .string (strOf path)] w fun e w' => e = .returned (.bool (dirB (nds ps) path)) ∧ w = w' := by
  have CP := wkPlace w B p v ps next path h hu hlen
  have HH := Lib.hid h
  have HU := Lib.hid hu
  have c0 := h.top.cell 0
  simp at c0
  clear h hu
  by_cases hr : path = [47]
  · have h1 := root_t hr
    have HD := Lib.hid (show dirB (nds ps) path = true by unfold dirB; rw [beq_iff_eq.2 hr, Bool.true_or])
    generalize placeV path (nds ps) = i at CP
    generalize (findV path (nds ps)).isSome = b at CP
    obtain ⟨a, cap, rfl⟩ := HH.out.shape
    clear hr
    go_enter Tryz.func155, Tryz.ntmps155
    go_wp2_with (go_at_call 153; refine CP.mono ?_; rintro e w' ⟨rfl, rfl⟩)
    go_ret
    exact ⟨ret_bool (by rw [HD.out]), rfl⟩
  · have h1 := root_f hr
    have HR := Lib.hid hr
    clear hr
    cases hf : (findV path (nds ps)).isSome with
    | false =>
      have HD := Lib.hid (show dirB (nds ps) path = false by
        unfold dirB
        cases hg : findV path (nds ps) with
        | some k => rw [hg] at hf; cases hf
        | none => simpa using HR.out)
      rw [hf] at CP
      generalize placeV path (nds ps) = i at CP
      obtain ⟨a, cap, rfl⟩ := HH.out.shape
      clear hf
      go_enter Tryz.func155, Tryz.ntmps155
      go_wp2_with (go_at_call 153; refine CP.mono ?_; rintro e w' ⟨rfl, rfl⟩)
      go_ret
      exact ⟨ret_bool (by rw [HD.out]), rfl⟩
    | true =>
      obtain ⟨hi, hp⟩ := found_at HU.out hf
      obtain ⟨g, cap, rfl, hc⟩ := HH.out.at hi
      rw [hf] at CP
      have HD := Lib.hid (show dirB (nds ps) path = ps[placeV path (nds ps)].2.dir by
        have hm := List.getElem_mem hi
        rw [Bool.eq_iff_iff, dirB_iff HU.out]
        constructor
        · rintro (e | ⟨m, hm2, e1, e2⟩)
          · exact absurd e HR.out
          · have := up_same HU.out hm2 (List.mem_map_of_mem (f := Prod.snd) hm) (e1.trans hp.symm)
            rw [← this]; exact e2
        · intro e
          exact .inr ⟨_, List.mem_map_of_mem (f := Prod.snd) hm, hp, e⟩)
      generalize hq : ps[placeV path (nds ps)] = q at hc HD
      have CF := wkFolder q.1 q.2 w
      obtain ⟨b, n⟩ := q
      simp only at HD CF
      generalize placeV path (nds ps) = i at CP hi hc
      have hiI : (i : Int) < (ps.length : Int) := by omega
      have hi0 : (0 : Int) ≤ (i : Int) := by omega
      clear hf hp hq
      go_enter Tryz.func155, Tryz.ntmps155
      go_wp2_with (first | (go_at_call 153; refine CP.mono ?_; rintro e w' ⟨rfl, rfl⟩) | (go_at_call 154; refine CF.mono ?_; rintro e w' ⟨rfl, rfl⟩))
      go_ret
      exact ⟨ret_bool (by rw [HD.out]), rfl⟩
end Go.Proofs.YtipedabppgbfcaaGreatDoor
