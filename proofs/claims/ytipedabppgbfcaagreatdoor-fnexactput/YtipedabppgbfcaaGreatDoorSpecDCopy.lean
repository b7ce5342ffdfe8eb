/- spec.l08Copy. -/
import Derived.Test.YtipedabppgbfcaaGreatDoorK45
import Derived.Test.YtipedabppgbfcaaGreatDoorK46
import Derived.Deep.RegionHeld3
set_option linter.all false
namespace Go.Proofs.YtipedabppgbfcaaGreatDoor
open Go.RowKit

theorem own_ne2 {W : World} {B B2 size size2 n n2 : Nat} {e e2 : TypeId} {v v2 : Value} {xs ys : List Value} (h : W.ownsRow B e size v n xs) (h2 : W.ownsRow B2 e2 size2 v2 n2 ys) (he : e ≠ e2) : ∀ k, v.ownBlock = some k → v2.ownBlock ≠ some k := fun k hv hu => by
  rcases h.2 with ⟨e1, _⟩ | ⟨g, cap, cur, e1, _, hg, _⟩
  · rw [e1] at hv; cases hv
  rcases h2.2 with ⟨e3, _⟩ | ⟨g2, cap2, cur2, e3, _, hg2, _⟩
  · rw [e3] at hu; cases hu
  rw [e1] at hv
  rw [e3] at hu
  have e4 : g = k := by simpa [Value.ownBlock] using hv
  have e5 : g2 = k := by simpa [Value.ownBlock] using hu
  subst e4 e5
  rw [hg] at hg2
  simp at hg2
  exact he hg2.2
set_option maxRecDepth 100000 in
set_option maxHeartbeats 4000000 in
theorem specDCopy1 (w : World) (B : Nat) (v : Value) (ns : List Nd) (next : Int) (os : List Ov) (g k2 : Nat) (h : DRow w B v (.slice (some ⟨g, 0, none⟩) os.length k2) ns os) (hl : ns.length ≤ 1048576) (hol : os.length ≤ 2000000) :
    Calls Tryz.prog 80 #[.agg #[v, .int .i64 next, .slice (some ⟨g, 0, none⟩) os.length k2]] w fun e w' => ∃ v' u, e = .returned (.agg #[v', .int .i64 next, u]) ∧ DRow w' w.heap.size v' u ns os ∧ Below w.heap.size w w' := by
  have hk0 := row_nocap h.ns
  have H := Lib.hid h
  obtain ⟨a1, k1, rfl⟩ := h.ns.shape
  obtain ⟨wa, hwa⟩ : ∃ W, w.alloc (.cells #[.slice a1 ns.length k1, .int .i64 next, .slice (some ⟨g, 0, none⟩) os.length k2] 44) = W := ⟨_, rfl⟩
  have hsa : wa.heap.size = w.heap.size + 1 := by rw [← hwa]; simp
  have ba : Below w.heap.size w wa := by rw [← hwa]; exact (Below.refl _ _).alloc (Nat.le_refl _) _
  have HX := Lib.hid (show Blk wa w.heap.size #[.slice a1 ns.length k1, .int .i64 next, .slice (some ⟨g, 0, none⟩) os.length k2] 44 by rw [← hwa]; exact Blk.new _ _ _)
  obtain ⟨j0, ji, jz0, jz1, jz2⟩ := info_parts infoO
  obtain ⟨wb, hwb⟩ : ∃ W, wa.alloc (.cells #[.slice none 0 0, .int .i64 0, .slice none 0 0] 44) = W := ⟨_, rfl⟩
  have hsb : wb.heap.size = w.heap.size + 2 := by rw [← hwb]; simp [hsa]
  have bb : Below wa.heap.size wa wb := by rw [← hwb]; exact (Below.refl _ _).alloc (Nat.le_refl _) _
  have HRB := Lib.hid (show Blk wb (w.heap.size + 1) #[.slice none 0 0, .int .i64 0, .slice none 0 0] 44 by rw [← hwb, ← hsa]; exact Blk.new _ _ _)
  have HB := Lib.hid (ba.trans (bb.mono ba.size))
  have K := Lib.hid (show ∀ V, Below wb.heap.size wb V → V.cell? ⟨w.heap.size, 0, none⟩ = some (.slice a1 ns.length k1) ∧ V.cell? ⟨w.heap.size, 1, none⟩ = some (.int .i64 next) ∧ V.cell? ⟨w.heap.size, 2, none⟩ = some (.slice (some ⟨g, 0, none⟩) os.length k2) from fun V hb => by
    have hx := (HX.out.on bb).on hb
    exact ⟨hx.cell 0, hx.cell 1, hx.cell 2⟩)
  have CC := Lib.hid (fun W (hb : Below wb.heap.size wb W) => specCopy W _ ns next ((H.out.ns.on HB.out).on hb).rd hk0 hl)
  obtain ⟨t0, t1, t2⟩ := K.out _ (Below.refl _ _)
  have K3 := Lib.hid (show ∀ V, Below wb.heap.size wb V → ∀ x0 x1 x2, (((V.setCell ⟨w.heap.size + 1, 0, none⟩ x0).setCell ⟨w.heap.size + 1, 1, none⟩ x1).setCell ⟨w.heap.size + 1, 2, none⟩ x2).cell? ⟨w.heap.size, 0, none⟩ = some (.slice a1 ns.length k1) ∧ (((V.setCell ⟨w.heap.size + 1, 0, none⟩ x0).setCell ⟨w.heap.size + 1, 1, none⟩ x1).setCell ⟨w.heap.size + 1, 2, none⟩ x2).cell? ⟨w.heap.size, 1, none⟩ = some (.int .i64 next) ∧ (((V.setCell ⟨w.heap.size + 1, 0, none⟩ x0).setCell ⟨w.heap.size + 1, 1, none⟩ x1).setCell ⟨w.heap.size + 1, 2, none⟩ x2).cell? ⟨w.heap.size, 2, none⟩ = some (.slice (some ⟨g, 0, none⟩) os.length k2) from fun V hb x0 x1 x2 => by
    have hne : w.heap.size ≠ w.heap.size + 1 := by omega
    have hx := ((((HX.out.on bb).on hb).other ⟨w.heap.size + 1, 0, none⟩ x0 hne).other ⟨w.heap.size + 1, 1, none⟩ x1 hne).other ⟨w.heap.size + 1, 2, none⟩ x2 hne
    exact ⟨hx.cell 0, hx.cell 1, hx.cell 2⟩)
  have how := World.ownsRow_lit (base := w.heap.size + 2) (e := 28) (size := 6) wb.drew #[] 0 (by simp; omega) (by simp [maxLen]) (by simp)
  rw [show wb.drew.heap.size = w.heap.size + 2 from hsb] at how
  have HOW := Lib.hid how
  have HNEW := Lib.hid (show ∀ W, Below wb.heap.size wb W → ∀ j u, (OpR.nodesVals os)[j]? = some u → W.cell? ((⟨g, 0, none⟩ : Addr).add j) = some u from fun W hW => by
    have := (take_row ((H.out.os.on HB.out).on hW) rfl (Nat.le_refl os.length)).1
    rw [List.take_length] at this
    exact this)
  have d0 := fun ob => (K.out (wb.alloc ob) ((Below.refl _ _).alloc (Nat.le_refl _) _)).1
  have d1 := fun ob => (K.out (wb.alloc ob) ((Below.refl _ _).alloc (Nat.le_refl _) _)).2.1
  have d2 := fun ob => (K.out (wb.alloc ob) ((Below.refl _ _).alloc (Nat.le_refl _) _)).2.2
  clear h ba bb how
  go_enter Tryz.func80, Tryz.ntmps80
  go_wp2_with fail
  go_region_held3 (fun V => V.cell? ⟨w.heap.size, 0, none⟩ = some (.slice a1 ns.length k1) ∧ V.cell? ⟨w.heap.size, 1, none⟩ = some (.int .i64 next) ∧ V.cell? ⟨w.heap.size, 2, none⟩ = some (.slice (some ⟨g, 0, none⟩) os.length k2)) (first | exact K.out _ HB1.out | exact K.out _ HBa.out | exact K.out _ (Below.refl _ _).drew | exact K.out _ ((Below.refl _ _).drew.alloc (Nat.le_refl _) _) | exact K.out _ (HBa.out.alloc HBa.out.size _) | exact K3.out _ HB1.out _ _ _) (first
      | (go_at_call 60; refine (CC.out _ (by first | exact (Below.refl _ _).drew | exact ((Below.refl _ _).drew).alloc (Nat.le_refl _) _)).mono ?_; rintro e Wa ⟨v5, rfl, hR5, hb5⟩; (obtain ⟨a5, k5, rfl⟩ := hR5.shape); (have HBa := Lib.hid (show Below wb.heap.size wb Wa by first | exact ((Below.refl _ _).drew).trans hb5 | exact (((Below.refl _ _).drew).alloc (Nat.le_refl _) _).trans (hb5.mono (by simp)))); (have HRa := Lib.hid (hR5.base (B' := w.heap.size + 2) (by simp <;> omega))); (first | (have HOa := Lib.hid (owns_on6 HOW.out hb5)) | skip); clear hb5 hR5)
      | (refine step_append_own _ (by rfl) _ _ _ (by rfl) (w.heap.size + 2) 28 j0 (.agg #[.int .i64 0, .string ⟨#[]⟩, .string ⟨#[]⟩, .string ⟨#[]⟩, .int .i64 0, .int .i64 0]) 6 72 Tryz.underlying38 ji jz0 jz1 jz2 rfl (by omega) _ 0 [] (by rfl) (by first | exact HOa.out | exact World.ownsRow_lit _ #[] 0 (by have := HBa.out.size; omega) (by simp [maxLen]) (by simp)) ⟨g, 0, none⟩ os.length k2 (OpR.nodesVals os) (by rfl) (OpR.nodesVals_len os) (HNEW.out _ (by first | exact HBa.out | exact HBa.out.alloc HBa.out.size _)) (opsVals_oneCell os) (by unfold maxLen; omega) (by omega) (by have := HBa.out.size; simp; omega) ?_; intro v1 w1 hown1 hgrow1; (obtain ⟨a6, k6, hv6⟩ := own_slice hown1); subst hv6; (have HB1 := Lib.hid (show Below wb.heap.size wb w1 by first | exact HBa.out.grown hgrow1 HBa.out.size (fun j e => by have : w.heap.size + 2 = j := Option.some.inj e; omega) | exact (HBa.out.alloc HBa.out.size _).grown hgrow1 (by have := HBa.out.size; simp; omega) (fun j e => by have : Wa.heap.size = j := Option.some.inj e; have := HBa.out.size; omega))); (have HN1 := Lib.hid (show NRow w1 (w.heap.size + 2) (.slice a5 ns.length k5) ns by first | exact own_apart HRa.out.own hgrow1 (fun k hk e => by have h1 := own_ne2 HRa.out.own HOa.out (by decide) k hk; exact h1 e) | exact own_apart (HRa.out.on ((Below.refl _ _).alloc (Nat.le_refl _) _)).own hgrow1 (fun k hk e => by have h1 := (own_lt HRa.out.own k hk).2; have : Wa.heap.size = k := Option.some.inj e; omega))); (have HO1 := Lib.hid hown1); (have HRB1 := Lib.hid (HRB.out.on HB1.out)); (have y0 := HRB1.out.cell 0); (have y1 := HRB1.out.cell 1); (have y2 := HRB1.out.cell 2); (have p0 := HRB1.out.frozen 0); (have p1 := HRB1.out.frozen 1); (have p2 := HRB1.out.frozen 2); simp at y0 y1 y2; clear hown1 hgrow1))
  all_goals
      go_wp2
      refine bodyPost_ret (v := .agg #[.slice a5 ns.length k5, .int .i64 next, .slice a6 os.length k6]) ?_ rfl ⟨_, _, rfl, ⟨?_, ?_⟩, ?_⟩
      · simp [results, Tryz.results80, go_sem, y0, y1, y2]
      · refine NRow.base (B := w.heap.size + 2) ?_ (by omega)
        iterate 3 (refine NRow.other ?_ _ _ (by show w.heap.size + 1 < w.heap.size + 2; omega))
        exact HN1.out
      · refine OpR.NRow.base (B := w.heap.size + 2) ?_ (by omega)
        iterate 3 (refine OpR.NRow.other ?_ _ _ (by show w.heap.size + 1 < w.heap.size + 2; omega))
        have h2 := HO1.out
        rw [List.nil_append] at h2
        have e : 0 + os.length = os.length := by omega
        rw [e] at h2
        exact h2
      · iterate 3 (refine Below.setCell ?_ (by show w.heap.size ≤ w.heap.size + 1; omega) _)
        exact HB.out.trans (HB1.out.mono HB.out.size)
end Go.Proofs.YtipedabppgbfcaaGreatDoor
