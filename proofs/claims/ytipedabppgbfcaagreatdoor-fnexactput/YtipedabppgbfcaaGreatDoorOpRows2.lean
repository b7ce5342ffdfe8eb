/- laws.toOpS tells a row that is never nil. -/
import Derived.Test.YtipedabppgbfcaaGreatDoorK33
set_option linter.all false
namespace Go.Proofs.YtipedabppgbfcaaGreatDoor.OpR
open Go.Proofs.YtipedabppgbfcaaGreatDoor Go.RowKit

set_option maxRecDepth 100000 in
set_option maxHeartbeats 2000000 in
theorem toOpSb (w : World) (a : Option Addr) (len cap : Nat) (ns : List Ov) (h : NIn w a len cap ns) (hl : len ≤ 1048576) :
    Calls Tryz.prog 45 #[.slice a len cap] w fun e w' => ∃ g c, e = .returned (.slice (some ⟨g, 0, none⟩) ns.length c) ∧ NRow w' w.heap.size (.slice (some ⟨g, 0, none⟩) ns.length c) ns ∧ Below w.heap.size w w' := by
  obtain ⟨w1, hmk, hR1, hg1⟩ := makeNodes len hl w
  have hb1 : Below w.heap.size w w1 := (Below.refl _ _).grown hg1 (Nat.le_refl _) (fun k e => by cases e)
  have hlen := h.len
  have HN := Lib.hid h
  have hli : (len : Int) ≤ 1048576 := by omega
  have HL := Lib.hid hlen
  have hgw : w.heap.size < w1.heap.size := by
    rcases hR1.form with ⟨h, _⟩ | ⟨g, c, h, _, h2, _⟩
    · cases h
    · simp only [Value.slice.injEq, Option.some.injEq, Addr.mk.injEq] at h
      rw [h.1.1]; exact h2
  clear h hlen hg1
  go_enter Tryz.func45, Tryz.ntmps45
  go_wp2
  go_loopw [4] (fun i W => ∃ (k : Nat) (ms : List Ov), k ≤ len ∧ i = .int .i64 k ∧ ms.length = len ∧ (∀ j (hj : j < ms.length), j < k → ns[j]? = some ms[j]) ∧ NRow W w.heap.size (.slice (some ⟨w.heap.size, 0, none⟩) len len) ms ∧ Below w.heap.size w W ∧ w.heap.size < W.heap.size) (fun i _ => len - (intOf i).toNat)
  case atStart => exact ⟨0, List.replicate len zeroN, Nat.zero_le _, rfl, by simp, fun j _ hj => by omega, hR1, hb1, hgw⟩
  case round =>
    obtain ⟨k, ms, hk, rfl, hml, hmk2, hR, hb, hgW⟩ := hrel
    have HM := Lib.hid hmk2
    have HML := Lib.hid hml
    have HR := Lib.hid hR
    have HB := Lib.hid hb
    clear hmk2 hml hR hb
    by_cases hlt : k < len
    · have hki : (k : Int) < (len : Int) := by omega
      rcases HN.out.on HB.out with ⟨_, h, _⟩ | ⟨x, rfl, hlc, hcm, hnl, hxb, hsz, hx⟩
      · omega
      have hkn : k < ns.length := by omega
      obtain ⟨nd, hnd⟩ : ∃ nd, ns[k] = nd := ⟨_, rfl⟩
      have hcs := hx k hkn
      rw [hnd] at hcs
      obtain ⟨d0, d1, d2, d3, d4, d5⟩ := hcs.cells
      have HND := Lib.hid hnd
      have HX := Lib.hid hx
      unfold maxLen at hcm
      clear hx hnd hsz hcs
      go_wp2_with fail
      refine (toOp nd _).mono ?_
      rintro e W1 ⟨rfl, hb2⟩
      have hR2 := HR.out.on hb2
      have HB2 := Lib.hid (HB.out.trans (hb2.mono HB.out.size))
      obtain ⟨hf, hcl⟩ : (∀ j, W1.frozen? ⟨w.heap.size, j, none⟩ = false) ∧ NdAt W1 w.heap.size (k * 6) (ms[k]'(by have := HML.out; omega)) := by
        rcases hR2.form with ⟨h, _⟩ | ⟨g, c, h, _, _, h3, h4, _⟩
        · cases h
        · cases h; exact ⟨h4, h3 k (by have := HML.out; omega)⟩
      have c0 := hcl.c0
      have c1 := hcl.c1
      have c2 := hcl.c2
      have c3 := hcl.c3
      have c4 := hcl.c4
      have c5 := hcl.c5
      have HR2 := Lib.hid hR2
      have hgW1 : w.heap.size < W1.heap.size := by have := hb2.size; omega
      clear hcl hR2 hb2
      go_wp2
      go_roundw
      case rel =>
        have hlm := HML.out
        refine ⟨k + 1, ms.set k nd, by omega, by go_num, by simpa using hlm, fun j hj hjk => ?_, ?_, ?_, ?_⟩
        · rw [List.getElem_set]
          by_cases e : k = j
          · subst e; rw [if_pos rfl, List.getElem?_eq_getElem hkn, HND.out]
          · rw [if_neg e]; exact HM.out j (by simpa using hj) (by omega)
        · have h3 := HR2.out
          rw [← hlm] at h3 ⊢
          exact h3.put k (by omega) nd
        · iterate 6 (refine Below.setCell ?_ (by simp) _)
          exact HB2.out
        · simpa using hgW1
      case measure => simp [intOf]; omega
    · go_wp2
      go_ret
      refine ⟨w.heap.size, len, by rw [show ns.length = len from HL.out]; rfl, ?_, HB.out⟩
      have e : ms = ns := by
        have h1 := HML.out
        have h2 := HL.out
        apply List.ext_getElem (by omega)
        intro j hj hj2
        have h3 := HM.out j hj (by omega)
        rw [List.getElem?_eq_getElem hj2] at h3
        exact (Option.some.inj h3).symm
      have h5 := HR.out
      rw [e] at h5
      rw [HL.out]
      exact h5
end Go.Proofs.YtipedabppgbfcaaGreatDoor.OpR
