/- What the walks of the exact laws over trees and disks share: two rows are written, and what stays. spec.Cut of a disk that is not right; slices of a row of ops. -/
import Derived.Test.YtipedabppgbfcaaGreatDoorK36
import Derived.Test.YtipedabppgbfcaaGreatDoorK37
import Derived.Test.YtipedabppgbfcaaGreatDoorK45
set_option linter.all false
namespace Go.Proofs.YtipedabppgbfcaaGreatDoor
open Go.RowKit

/-- A disk that is read. -/
structure DRd (W : World) (v u : Value) (ns : List Nd) (os : List Ov) : Prop where
  ns : NRd W v ns
  os : OpR.NRd W u os
theorem DRd.on {W W' : World} {v u : Value} {ns : List Nd} {os : List Ov} (h : DRd W v u ns os) (hb : Below W.heap.size W W') : DRd W' v u ns os := ⟨h.ns.on hb, h.os.on hb⟩
theorem DRow.rd {W : World} {B : Nat} {v u : Value} {ns : List Nd} {os : List Ov} (h : DRow W B v u ns os) : DRd W v u ns os := ⟨h.ns.rd, h.os.rd⟩
theorem DRow.form {W : World} {B : Nat} {v u : Value} {ns : List Nd} {os : List Ov} (h : DRow W B v u ns os) : ∃ a c a' c', v = .slice a ns.length c ∧ u = .slice a' os.length c' := by
  obtain ⟨a, c, h1⟩ := h.ns.shape
  obtain ⟨a', c', h2⟩ := h.os.shape
  exact ⟨a, c, a', c', h1, h2⟩
theorem DRd.form {W : World} {v u : Value} {ns : List Nd} {os : List Ov} (h : DRd W v u ns os) : ∃ a c a' c', v = .slice a ns.length c ∧ u = .slice a' os.length c' := by
  obtain ⟨a, c, h1, _⟩ := h.ns
  obtain ⟨a', c', h2, _⟩ := h.os
  exact ⟨a, c, a', c', h1, h2⟩
theorem Two.one {W W' : World} {x : Option Nat} (h : W.grownBy W' x) : Two W W' x none := Two.of h (World.grownBy.refl _ _)
theorem Two.row {W W' : World} {x y : Option Nat} {U V size n : Nat} {e : TypeId} {v : Value} {xs : List Value} (h : Two W W' x y) (ho : W.ownsRow V e size v n xs) (hx : ∀ k, x = some k ∨ y = some k → k < U) (hU : U ≤ V) : W'.ownsRow V e size v n xs :=
  h.own ho (fun k hk e => by have := (own_lt ho k hk).1; have := hx k (.inl e); omega) (fun k hk e => by have := (own_lt ho k hk).1; have := hx k (.inr e); omega)
theorem Two.drow {W W' : World} {x y : Option Nat} {U V : Nat} {v u : Value} {ns : List Nd} {os : List Ov} (h : Two W W' x y) (ho : DRow W V v u ns os) (hx : ∀ k, x = some k ∨ y = some k → k < U) (hU : U ≤ V) : DRow W' V v u ns os := ⟨h.row ho.ns hx hU, h.row ho.os hx hU⟩
theorem Two.box {W W' : World} {x y : Option Nat} {U b : Nat} {cs : Array Value} {t : TypeId} (h : Two W W' x y) (hb : Blk W b cs t) (hx : ∀ k, x = some k ∨ y = some k → k < U) (hU : U ≤ b) : Blk W' b cs t :=
  h.blk hb (fun e => by have := hx b (.inl e.symm); omega) (fun e => by have := hx b (.inr e.symm); omega)
theorem Two.under {W W' : World} {x y : Option Nat} {B : Nat} (h : Two W W' x y) (hx : ∀ k, x = some k ∨ y = some k → B ≤ k) (hB : B ≤ W.heap.size) : Below B W W' := h.below hB (fun k e => hx k (.inl e)) (fun k e => hx k (.inr e))
end Go.Proofs.YtipedabppgbfcaaGreatDoor
namespace Go.Proofs.YtipedabppgbfcaaGreatDoor
open Go.RowKit

theorem NRd.past3 {w : World} {b y z y2 z2 : Nat} {x x3 : Option Addr} {u v : Value} {t : TypeId} {ns : List Nd} (h : NRd w v ns) (hb : Blk w b #[.slice x y z, u, .slice x3 y2 z2] t) (a1 a2 a3 : Value) : NRd (((w.setCell ⟨b, 0, none⟩ a1).setCell ⟨b, 1, none⟩ a2).setCell ⟨b, 2, none⟩ a3) v ns := by
  obtain ⟨a, cap, hv, hl, hm, h⟩ := h
  refine ⟨a, cap, hv, hl, hm, ?_⟩
  rcases h with h | ⟨g, ha, hg, hc⟩
  · exact .inl h
  · by_cases hn : ns = []
    · exact .inl hn
    · have hp : 0 < ns.length := List.length_pos_iff.2 hn
      have hne : g ≠ b := by
        rintro rfl
        have h1 := (hc 0 hp).c0
        have h2 := hb.cell 0
        rw [Nat.zero_mul, h2] at h1
        simp at h1
      refine .inr ⟨g, ha, by simpa using hg, fun i hi => ?_⟩
      have hk : ∀ j, (((w.setCell ⟨b, 0, none⟩ a1).setCell ⟨b, 1, none⟩ a2).setCell ⟨b, 2, none⟩ a3).cell? ⟨g, j, none⟩ = w.cell? ⟨g, j, none⟩ := fun j => World.cell?_of_block ((Below.heap_setCell _ _ _ g hne).trans ((Below.heap_setCell _ _ _ g hne).trans (Below.heap_setCell _ _ _ g hne)))
      have h0 := hc i hi
      exact ⟨(hk _).trans h0.c0, (hk _).trans h0.c1, (hk _).trans h0.c2, (hk _).trans h0.c3, (hk _).trans h0.c4, (hk _).trans h0.c5⟩
theorem sliceO_row {w : World} {B n k m : Nat} {a : Option Addr} {os : List Ov} (h : OpR.NRow w B (.slice a n k) os) (hm : m ≤ os.length) : ∀ (W : World) (x : Int), x = m → (Instr.slice 38 (.slice a os.length k) none (some (.int .i64 x)) none).run Tryz.prog W = .ok (.slice a m k) W := by
  intro W x hx
  rcases h.form with ⟨e, rfl⟩ | ⟨g, cap, e, _, _, _, _, hl, _⟩
  · cases e
    have : m = 0 := by simpa using hm
    subst this
    exact sliceO_nil W x (by simpa using hx)
  · cases e
    exact sliceO_to W g os.length k m x hx (by omega)
theorem sliceO_rd {w : World} {B n k m : Nat} {a : Option Addr} {os : List Ov} (h : OpR.NRow w B (.slice a n k) os) (hm : m ≤ os.length) : OpR.NRd w (.slice a m k) (os.take m) := by
  have hl : (os.take m).length = m := by rw [List.length_take]; omega
  rcases h.form with ⟨e, rfl⟩ | ⟨g, cap, e, _, hg, hc, _, hle, hcm⟩
  · cases e
    have : m = 0 := by simpa using hm
    subst this
    exact ⟨none, 0, rfl, Nat.le_refl _, Nat.zero_le _, .inl rfl⟩
  · cases e
    refine ⟨some ⟨g, 0, none⟩, k, by rw [hl], by omega, hcm, .inr ⟨g, rfl, hg, fun i hi => ?_⟩⟩
    rw [List.getElem_take]
    exact hc i (by omega)

set_option maxRecDepth 100000 in
set_option maxHeartbeats 4000000 in
theorem specCut0 (w : World) (B : Nat) (v v2 : Value) (ns : List Nd) (next : Int) (os : List Ov) (h : DRow w B v v2 ns os) (hl : ns.length ≤ 1048576) (hol : os.length ≤ 2000000) (hz : ∀ n ∈ ns, n.path.length ≤ 2000000 ∧ n.data.length ≤ 2000000) (hoz : ∀ o ∈ os, o.path.length ≤ 2000000 ∧ o.dest.length ≤ 2000000 ∧ o.data.length ≤ 2000000) (k : Int) (hd : diskB ⟨⟨ns, next⟩, os⟩ = false) :
    Calls Tryz.prog 36 #[.agg #[v, .int .i64 next, v2], .int .i64 k] w fun e w' => ∃ v' u, e = .returned (.agg #[v', .int .i64 (cutV ⟨⟨ns, next⟩, os⟩ k).s.next, u]) ∧ NRd w' v' (cutV ⟨⟨ns, next⟩, os⟩ k).s.ns ∧ OpR.NRd w' u (cutV ⟨⟨ns, next⟩, os⟩ k).os ∧ Below w.heap.size w w' := by
  have hk0 := row_nocap h.ns
  have H := Lib.hid h
  obtain ⟨a1, k1, rfl⟩ := h.ns.shape
  obtain ⟨a2, k2, rfl⟩ := h.os.shape
  obtain ⟨wa, hwa⟩ : ∃ W, w.alloc (.cells #[.slice a1 ns.length k1, .int .i64 next, .slice a2 os.length k2] 44) = W := ⟨_, rfl⟩
  have hsa : wa.heap.size = w.heap.size + 1 := by rw [← hwa]; simp
  have ba : Below w.heap.size w wa := by rw [← hwa]; exact (Below.refl _ _).alloc (Nat.le_refl _) _
  have HX := Lib.hid (show Blk wa w.heap.size #[.slice a1 ns.length k1, .int .i64 next, .slice a2 os.length k2] 44 by rw [← hwa]; exact Blk.new _ _ _)
  obtain ⟨wb, hwb⟩ : ∃ W, wa.alloc (.cells #[.slice none 0 0, .int .i64 0, .slice none 0 0] 44) = W := ⟨_, rfl⟩
  have hsb : wb.heap.size = w.heap.size + 2 := by rw [← hwb]; simp [hsa]
  have bb : Below wa.heap.size wa wb := by rw [← hwb]; exact (Below.refl _ _).alloc (Nat.le_refl _) _
  have HRB := Lib.hid (show Blk wb (w.heap.size + 1) #[.slice none 0 0, .int .i64 0, .slice none 0 0] 44 by rw [← hwb, ← hsa]; exact Blk.new _ _ _)
  have HB := Lib.hid (ba.trans (bb.mono ba.size))
  have K := Lib.hid (show ∀ V, Below wb.heap.size wb V → V.cell? ⟨w.heap.size, 0, none⟩ = some (.slice a1 ns.length k1) ∧ V.cell? ⟨w.heap.size, 1, none⟩ = some (.int .i64 next) ∧ V.cell? ⟨w.heap.size, 2, none⟩ = some (.slice a2 os.length k2) from fun V hb => by
    have hx := (HX.out.on bb).on hb
    exact ⟨hx.cell 0, hx.cell 1, hx.cell 2⟩)
  have CO := specDiskOk wb B _ _ ns next os (H.out.on HB.out) hl hol hz hoz
  obtain ⟨m, hm, hmn, hc⟩ := clampO k os.length
  have HTK := Lib.hid (show os.take k.toNat = os.take m by rw [hm]; exact take_clamp os k.toNat)
  have hsl := sliceO_row H.out.os hmn
  have HSL := Lib.hid hsl
  have HTL := Lib.hid (show (os.take m).length = m by rw [List.length_take]; omega)
  have CD := Lib.hid (fun W (hb : Below wb.heap.size wb W) => specDoAll W _ _ ns next (os.take m) ((H.out.ns.on HB.out).on hb).rd hk0 hl (sliceO_rd ((H.out.os.on HB.out).on hb) hmn) (by rw [HTL.out]; omega) hz (fun o ho => hoz o (List.mem_of_mem_take ho)))
  obtain ⟨t0, t1, t2⟩ := K.out _ (Below.refl _ _)
  have hoi : (os.length : Int) ≤ 2000000 := by omega
  clear h ba bb hsl
  rw [hd] at CO
  have HE := Lib.hid (show cutV ⟨⟨ns, next⟩, os⟩ k = noDisk by unfold cutV; rw [hd]; rfl)
  clear hd CD hm hc
  go_enter Tryz.func36, Tryz.ntmps36
  go_wp2_with (go_at_call 30; refine CO.mono ?_; rintro e W1 ⟨rfl, hb1⟩; (have HB1 := Lib.hid (HB.out.trans (hb1.mono HB.out.size))); (have r0 := (HRB.out.on hb1).cell 0); (have r1 := (HRB.out.on hb1).cell 1); (have r2 := (HRB.out.on hb1).cell 2); (have f0 := (HRB.out.on hb1).frozen 0); (have f1 := (HRB.out.on hb1).frozen 1); (have f2 := (HRB.out.on hb1).frozen 2); simp at r0 r1 r2; clear hb1)
  refine bodyPost_ret (v := .agg #[.slice none 0 0, .int .i64 0, .slice none 0 0]) ?_ rfl ⟨_, _, by rw [HE.out]; rfl, by rw [HE.out]; exact ⟨none, 0, rfl, Nat.le_refl _, Nat.zero_le _, .inl rfl⟩, by rw [HE.out]; exact ⟨none, 0, rfl, Nat.le_refl _, Nat.zero_le _, .inl rfl⟩, ?_⟩
  · simp [results, Tryz.results36, go_sem, r0, r1, r2]
  · iterate 3 (refine Below.setCell ?_ (by simp) _)
    exact HB1.out

end Go.Proofs.YtipedabppgbfcaaGreatDoor
