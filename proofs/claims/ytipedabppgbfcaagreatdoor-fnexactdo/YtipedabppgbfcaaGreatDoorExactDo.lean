/- Proved: laws.FnExactDo answers true at every tree and every op: impl.Do answers as spec.Do does, in memory of its own, and the arguments read as before. The listed tables of the standard library are tied to the program's text, and are not read; the card speaks of the pruned copy of the project that the seat holds. -/
import Derived.Test.YtipedabppgbfcaaGreatDoorM34
import Derived.Test.YtipedabppgbfcaaGreatDoorM35
import Derived.Test.YtipedabppgbfcaaGreatDoorM36
import Derived.Deep.DeepCutAuto
import Derived.Deep.RegionHeld
namespace Go.Proofs.YtipedabppgbfcaaGreatDoor
open Go.RowKit

/-- What stays as it is all along: the two arguments' boxes. -/
structure Do1 (w W : World) (a : Option Addr) (len cap : Nat) (next : Int) (o : Ov) : Prop where
  b : Below w.heap.size w W
  t : Blk W w.heap.size #[.slice a len cap, .int .i64 next] 56
  p : Blk W (w.heap.size + 1) #[.int .i64 o.kind, .string (strOf o.path), .string (strOf o.dest), .string (strOf o.data), .int .i64 o.mode, .int .i64 o.time] 57
theorem Do1.on {w W W' : World} {a : Option Addr} {len cap : Nat} {next : Int} {o : Ov} (h : Do1 w W a len cap next o) (hb : Below W.heap.size W W') : Do1 w W' a len cap next o := ⟨h.b.trans (hb.mono h.b.size), h.t.on hb, h.p.on hb⟩
theorem Do1.grown {w W W' : World} {a : Option Addr} {len cap : Nat} {next : Int} {o : Ov} {row : Option Nat} (h : Do1 w W a len cap next o) (hg : W.grownBy W' row) (hr : ∀ k, row = some k → w.heap.size + 2 ≤ k) : Do1 w W' a len cap next o :=
  ⟨h.b.grown hg h.b.size (fun k e => by have := hr k e; omega), h.t.grown hg (fun e => by have := hr _ e.symm; omega), h.p.grown hg (fun e => by have := hr _ e.symm; omega)⟩
theorem Do1.cells {w W : World} {a : Option Addr} {len cap : Nat} {next : Int} {o : Ov} (h : Do1 w W a len cap next o) : W.cell? ⟨w.heap.size, 0, none⟩ = some (.slice a len cap) ∧ W.cell? ⟨w.heap.size, 1, none⟩ = some (.int .i64 next) ∧ W.cell? ⟨w.heap.size + 1, 0, none⟩ = some (.int .i64 o.kind) ∧ W.cell? ⟨w.heap.size + 1, 1, none⟩ = some (.string (strOf o.path)) ∧ W.cell? ⟨w.heap.size + 1, 2, none⟩ = some (.string (strOf o.dest)) ∧ W.cell? ⟨w.heap.size + 1, 3, none⟩ = some (.string (strOf o.data)) ∧ W.cell? ⟨w.heap.size + 1, 4, none⟩ = some (.int .i64 o.mode) ∧ W.cell? ⟨w.heap.size + 1, 5, none⟩ = some (.int .i64 o.time) :=
  ⟨h.t.cell 0, h.t.cell 1, h.p.cell 0, h.p.cell 1, h.p.cell 2, h.p.cell 3, h.p.cell 4, h.p.cell 5⟩
theorem Do1.set {w W : World} {a : Option Addr} {len cap : Nat} {next : Int} {o : Ov} (h : Do1 w W a len cap next o) (b j : Nat) (x : Value) (hb : w.heap.size + 2 ≤ b) : Do1 w (W.setCell ⟨b, j, none⟩ x) a len cap next o :=
  ⟨h.b.setCell (p := ⟨b, j, none⟩) (by show w.heap.size ≤ b; omega) x, h.t.other ⟨b, j, none⟩ x (by show w.heap.size ≠ b; omega), h.p.other ⟨b, j, none⟩ x (by show w.heap.size + 1 ≠ b; omega)⟩
theorem Do1.out {w W : World} {a : Option Addr} {len cap : Nat} {next : Int} {o : Ov} (h : Do1 w W a len cap next o) : w.heap.size + 2 ≤ W.heap.size := h.p.lt
theorem own_ne {W : World} {B size b : Nat} {e t : TypeId} {v : Value} {n : Nat} {xs : List Value} {cs : Array Value} (h : W.ownsRow B e size v n xs) (hb : Blk W b cs t) (ht : t ≠ e) : some b ≠ v.ownBlock := by
  intro e2
  rcases h.2 with ⟨rfl, _⟩ | ⟨g, cap, cur, rfl, _, hg, _⟩
  · cases e2
  · have e3 : b = g := by simpa [Value.ownBlock] using e2
    subst e3
    have := hb.blk
    rw [hg] at this
    simp at this
    exact ht this.2.symm
theorem row_cap0 {w : World} {B : Nat} {v : Value} {ns : List Nd} (h : NRow w B v ns) : ∀ n c, v = .slice none n c → c = 0 := fun n c e => by
  rcases h.form with ⟨h1, _⟩ | ⟨g, cap, h1, _⟩
  · rw [h1] at e; simp at e; omega
  · rw [h1] at e; simp at e
theorem one_len (t : Tv) (o : Ov) : (doOneV t o).1.ns.length ≤ 60 := by
  by_cases h : treeB t.ns t.next = true
  · rw [one_ok h]; exact (do_right (Right.of h)).len
  · rw [one_bad (by simpa using h)]; simp
theorem implDo (w : World) (v : Value) (ns : List Nd) (next : Int) (o : Ov) (h : NRd w v ns) (hz : ∀ n ∈ ns, n.path.length ≤ 2000000 ∧ n.data.length ≤ 2000000) (h1 : o.path.length ≤ 2000000) (h2 : o.dest.length ≤ 2000000) (h3 : o.data.length ≤ 2000000) :
    Calls Tryz.prog 17 #[.agg #[v, .int .i64 next], .agg #[.int .i64 o.kind, .string (strOf o.path), .string (strOf o.dest), .string (strOf o.data), .int .i64 o.mode, .int .i64 o.time]] w fun e w' => ∃ v', e = .returned (.tuple #[.agg #[v', .int .i64 (doOneV ⟨ns, next⟩ o).1.next], .int .i64 (doOneV ⟨ns, next⟩ o).2]) ∧ NRow w' w.heap.size v' (doOneV ⟨ns, next⟩ o).1.ns ∧ Below w.heap.size w w' := implDo6 w v ns next o.kind o.mode o.time o.path o.dest o.data h hz h1 h2 h3

set_option maxRecDepth 100000 in
set_option maxHeartbeats 8000000 in
theorem walkExactDo (a : Option Addr) (len cap : Nat) (ns : List Nd) (next : Int) (o : Ov) (w : World) (h : NIn w a len cap ns) (hw : o.Wf) :
    Calls Tryz.prog 8 #[.agg #[.slice a len cap, .int .i64 next], .agg #[.int .i64 o.kind, .string (strOf o.path), .string (strOf o.dest), .string (strOf o.data), .int .i64 o.mode, .int .i64 o.time]] w fun e w' => e = .returned (.bool true) ∧ Below w.heap.size w w' := by
  have H00 := Lib.hid h
  have hlen := h.len
  obtain ⟨wa, hwa⟩ : ∃ W, w.alloc (.cells #[.slice a len cap, .int .i64 next] 56) = W := ⟨_, rfl⟩
  obtain ⟨wb, hwb⟩ : ∃ W, wa.alloc (.cells #[.int .i64 o.kind, .string (strOf o.path), .string (strOf o.dest), .string (strOf o.data), .int .i64 o.mode, .int .i64 o.time] 57) = W := ⟨_, rfl⟩
  have hsa : wa.heap.size = w.heap.size + 1 := by rw [← hwa]; simp
  have hsb : wb.heap.size = w.heap.size + 2 := by rw [← hwb]; simp [hsa]
  have ba : Below w.heap.size w wa := by rw [← hwa]; exact (Below.refl _ _).alloc (Nat.le_refl _) _
  have bb : Below wa.heap.size wa wb := by rw [← hwb]; exact (Below.refl _ _).alloc (Nat.le_refl _) _
  have HD := Lib.hid (show Do1 w wb a len cap next o from ⟨ba.trans (bb.mono ba.size), (show Blk wa w.heap.size _ 56 by rw [← hwa]; exact Blk.new _ _ _).on bb, by rw [← hwb, ← hsa]; exact Blk.new _ _ _⟩)
  have CZ := szTree wb a len cap ns next 1048576 (by omega) (by omega) (h.on HD.out.b)
  have t0 := HD.out.t.cell 0
  have t1 := HD.out.t.cell 1
  simp at t0 t1
  clear h ba bb
  by_cases hz : (bulkN ns : Int) ≤ 1048576
  rotate_left
  · rw [leftV_out hz] at CZ
    go_enter Tryz.func8, Tryz.ntmps8
    go_wp2_with (go_at_call 37; refine CZ.mono ?_; rintro e W1 ⟨rfl, hb1⟩)
    go_ret
    exact ⟨rfl, (HD.out.on hb1).b⟩
  rw [leftV_in hz] at CZ
  have hll : len ≤ 1048576 := by unfold bulkN at hz; omega
  have hnl : ns.length ≤ 1048576 := by omega
  have hz2 : ¬ (1048576 : Int) - bulkN ns < 0 := by omega
  have HSZ := Lib.hid (show ∀ n ∈ ns, n.path.length ≤ 2000000 ∧ n.data.length ≤ 2000000 from fun n hn => by have := szNs_mem hn; unfold bulkN at hz; unfold szN at this; omega)
  have CO := fun W => szOp o hw (1048576 - bulkN ns) W (by omega) (by omega)
  by_cases hy : (szO o : Int) ≤ 1048576 - bulkN ns
  rotate_left
  · rw [leftV_out hy] at CO
    go_enter Tryz.func8, Tryz.ntmps8
    go_wp2_with (first
      | (go_at_call 37; refine CZ.mono ?_; rintro e W1 ⟨rfl, hb1⟩; (have HD1 := Lib.hid (HD.out.on hb1)); (have p0 := HD1.out.p.cell 0); (have p1 := HD1.out.p.cell 1); (have p2 := HD1.out.p.cell 2); (have p3 := HD1.out.p.cell 3); (have p4 := HD1.out.p.cell 4); (have p5 := HD1.out.p.cell 5); simp at p0 p1 p2 p3 p4 p5; clear hb1)
      | (go_at_call 38; refine (CO _).mono ?_; rintro e W2 ⟨rfl, hb2⟩))
    go_ret
    exact ⟨rfl, (HD1.out.on hb2).b⟩
  rw [leftV_in hy] at CO
  have hy2 : ¬ (1048576 : Int) - bulkN ns - szO o < 0 := by omega
  have HSO := Lib.hid hy
  obtain ⟨L, hL⟩ : ∃ L : Int, (1048576 : Int) - bulkN ns - szO o = L := ⟨_, rfl⟩
  rw [hL] at hy2
  have CO2 : ∀ W, Calls Tryz.prog 38 #[.agg #[.int .i64 o.kind, .string (strOf o.path), .string (strOf o.dest), .string (strOf o.data), .int .i64 o.mode, .int .i64 o.time], .int .i64 (1048576 - bulkN ns)] W fun e w' => e = .returned (.int .i64 L) ∧ Below W.heap.size W w' := fun W => by have := CO W; rw [hL] at this; exact this
  have hsz : o.path.length ≤ 2000000 ∧ o.dest.length ≤ 2000000 ∧ o.data.length ≤ 2000000 := by unfold szO at hy; omega
  have HRL := Lib.hid (one_len ⟨ns, next⟩ o)
  have CS0 := Lib.hid (fun W v h hk => specDoOne W v ⟨ns, next⟩ o h hk hnl hsz.1 hsz.2.1 hsz.2.2 HSZ.out)
  have CI0 := Lib.hid (fun W v h => implDo W v ns next o h HSZ.out hsz.1 hsz.2.1 hsz.2.2)
  generalize doOneV ⟨ns, next⟩ o = r at HRL CS0 CI0
  obtain ⟨⟨rns, rnx⟩, code⟩ := r
  simp only at HRL CS0 CI0
  have hrl : rns.length ≤ 60 := HRL.out
  clear hlen hy hw hL CO
  go_enter Tryz.func8, Tryz.ntmps8
  go_wp2_with (first
    | (go_at_call 37; refine CZ.mono ?_; rintro e W1 ⟨rfl, hb1⟩; (have HD1 := Lib.hid (HD.out.on hb1)); (have p0 := HD1.out.p.cell 0); (have p1 := HD1.out.p.cell 1); (have p2 := HD1.out.p.cell 2); (have p3 := HD1.out.p.cell 3); (have p4 := HD1.out.p.cell 4); (have p5 := HD1.out.p.cell 5); simp at p0 p1 p2 p3 p4 p5; clear hb1 t0 t1 CZ)
    | (go_at_call 38; refine (CO2 _).mono ?_; rintro e W2 ⟨rfl, hb2⟩; (have HD2 := Lib.hid (HD1.out.on hb2)); (have t0 := HD2.out.t.cell 0); (have t1 := HD2.out.t.cell 1); simp at t0 t1; clear hb2 CO2 p0 p1 p2 p3 p4 p5))
  have HDd := Lib.hid (HD2.out.on (Below.refl _ _).drew)
  clear t0 t1
  go_cut [6, 7] (fun c6 c7 V => ∃ (b : Nat) (v5 : Value), c6 = .pointer (some ⟨b, 0, none⟩) ∧ c7 = .int .i64 code ∧ w.heap.size + 2 ≤ b ∧ Blk V b #[v5, .int .i64 rnx] 26 ∧ NRd V v5 rns ∧ Do1 w V a len cap next o)
  case first =>
    go_region_held (fun W => W.cell? ⟨w.heap.size, 0, none⟩ = some (.slice a len cap) ∧ W.cell? ⟨w.heap.size, 1, none⟩ = some (.int .i64 next) ∧ W.cell? ⟨w.heap.size + 1, 0, none⟩ = some (.int .i64 o.kind) ∧ W.cell? ⟨w.heap.size + 1, 1, none⟩ = some (.string (strOf o.path)) ∧ W.cell? ⟨w.heap.size + 1, 2, none⟩ = some (.string (strOf o.dest)) ∧ W.cell? ⟨w.heap.size + 1, 3, none⟩ = some (.string (strOf o.data)) ∧ W.cell? ⟨w.heap.size + 1, 4, none⟩ = some (.int .i64 o.mode) ∧ W.cell? ⟨w.heap.size + 1, 5, none⟩ = some (.int .i64 o.time)) (first | exact Do1.cells HD5.out | exact Do1.cells HD4.out | exact Do1.cells HD3.out | exact Do1.cells HDd.out | exact Do1.cells (HD5.out.on ((Below.refl _ _).alloc (Nat.le_refl _) _)) | exact Do1.cells (HD4.out.on ((Below.refl _ _).alloc (Nat.le_refl _) _)) | exact Do1.cells (HD3.out.on ((Below.refl _ _).alloc (Nat.le_refl _) _)) | exact Do1.cells (HDd.out.on ((Below.refl _ _).alloc (Nat.le_refl _) _)) | exact Do1.cells ((HD5.out.set _ 0 _ HD4.out.out).set _ 1 _ HD4.out.out) | exact Do1.cells ((HD5.out.set _ 0 _ HD3.out.out).set _ 1 _ HD3.out.out) | exact Do1.cells ((HD5.out.set _ 0 _ HD2.out.out).set _ 1 _ HD2.out.out) | go_keep) (first
      | (go_at_call 39; refine (toTree _ a len cap ns next (H00.out.on (by first | exact HDd.out.b | exact HDd.out.b.alloc HDd.out.b.size _)) hll).mono ?_; rintro e W3 ⟨v3, rfl, hR3, hb3⟩; (have hx3 : Below W2.drew.heap.size W2.drew W3 := by first | exact hb3 | exact ((Below.refl _ _).alloc (Nat.le_refl _) _).trans (hb3.mono (by simp))); (have HD3 := Lib.hid (HDd.out.on hx3)); (have HR3 := Lib.hid hR3); (first | (have HX3 := Lib.hid ((Blk.new W2.drew #[.slice none 0 0, .int .i64 0] 26).on hb3)) | skip); clear hb3 hR3 hx3)
      | (go_at_call 40; refine (toOp o _).mono ?_; rintro e W4 ⟨rfl, hb4⟩; (have hx4 : Below W3.heap.size W3 W4 := by first | exact hb4 | exact ((Below.refl _ _).alloc (Nat.le_refl _) _).trans (hb4.mono (by simp))); (have HD4 := Lib.hid (HD3.out.on hx4)); (have HR4 := Lib.hid (HR3.out.on hx4)); (first | (have HX4 := Lib.hid (HX3.out.on hb4)) | (have HX4 := Lib.hid ((Blk.new W3 #[.slice none 0 0, .int .i64 0] 26).on hb4)) | skip); clear hb4 hx4)
      | (go_at_call 18; refine (CS0.out _ v3 (by first | exact HR4.out.rd | exact (HR4.out.on ((Below.refl _ _).alloc (Nat.le_refl _) _)).rd) (row_cap0 HR4.out)).mono ?_; rintro e W5 ⟨v5, rfl, _, hS5, hb5⟩; (obtain ⟨a5, k5, rfl⟩ : ∃ a c, v5 = .slice a rns.length c := by obtain ⟨a, c, h, _⟩ := hS5; exact ⟨a, c, h⟩); (have hx5 : Below W4.heap.size W4 W5 := by first | exact hb5 | exact ((Below.refl _ _).alloc (Nat.le_refl _) _).trans (hb5.mono (by simp))); (have HD5 := Lib.hid (HD4.out.on hx5)); (have HS5 := Lib.hid hS5); (first | (have HX5 := Lib.hid (HX4.out.on hb5)) | (have HX5 := Lib.hid ((Blk.new W4 #[.slice none 0 0, .int .i64 0] 26).on hb5)) | skip); (try (have g0 := HX5.out.cell 0; have g1 := HX5.out.cell 1; have g2 := HX5.out.frozen 0; have g3 := HX5.out.frozen 1; simp at g0 g1; try simp at g2; try simp at g3)); clear hb5 hx5 hS5))
    all_goals
      go_wp2
      go_meet
      first
        | exact ⟨_, _, rfl, rfl, HD5.out.out, Blk.new _ _ _, HS5.out.on ((Below.refl _ _).alloc (Nat.le_refl _) _), HD5.out.on ((Below.refl _ _).alloc (Nat.le_refl _) _)⟩
        | exact ⟨_, _, rfl, rfl, HD4.out.out, (HX5.out.set 0 _).set 1 _, HS5.out.past HX5.out _ _, (HD5.out.set _ 0 _ HD4.out.out).set _ 1 _ HD4.out.out⟩
        | exact ⟨_, _, rfl, rfl, HD3.out.out, (HX5.out.set 0 _).set 1 _, HS5.out.past HX5.out _ _, (HD5.out.set _ 0 _ HD3.out.out).set _ 1 _ HD3.out.out⟩
        | exact ⟨_, _, rfl, rfl, HD2.out.out, (HX5.out.set 0 _).set 1 _, HS5.out.past HX5.out _ _, (HD5.out.set _ 0 _ HD2.out.out).set _ 1 _ HD2.out.out⟩
  case rest =>
    obtain ⟨b0, v5, rfl, rfl, hb0, hW0, hS0, hD0⟩ := hcut
    obtain ⟨a5, k5, rfl⟩ : ∃ a c, v5 = .slice a rns.length c := by obtain ⟨a, c, h, _⟩ := hS0; exact ⟨a, c, h⟩
    have HD6 := Lib.hid hD0
    have HW6 := Lib.hid hW0
    have HS6 := Lib.hid hS0
    have t0 := hD0.t.cell 0
    have t1 := hD0.t.cell 1
    simp at t0 t1
    clear hD0 hW0 hS0 HD HD1 HD2 HDd
    generalize wc = W6 at *
    go_wp2_with fail
    refine (toTree W6 a len cap ns next (H00.out.on HD6.out.b) hll).mono ?_
    rintro e W7 ⟨v7, rfl, hR7, hb7⟩
    obtain ⟨a7, k7, rfl⟩ := hR7.shape
    have HD7 := Lib.hid (HD6.out.on hb7)
    have HW7 := Lib.hid (HW6.out.on hb7)
    have HS7 := Lib.hid (HS6.out.on hb7)
    have HR7 := Lib.hid hR7
    have hs7 := hb7.size
    have HB67 := Lib.hid hb7
    clear hb7 hR7 t0 t1
    obtain ⟨W8, hW8⟩ : ∃ W, W7.alloc (.cells #[.slice a7 ns.length k7, .int .i64 next] 26) = W := ⟨_, rfl⟩
    have b8 : Below W7.heap.size W7 W8 := by rw [← hW8]; exact (Below.refl _ _).alloc (Nat.le_refl _) _
    have hs8 : W7.heap.size < W8.heap.size := by rw [← hW8]; simp
    have HX8 := Lib.hid (show Blk W8 W7.heap.size #[.slice a7 ns.length k7, .int .i64 next] 26 by rw [← hW8]; exact Blk.new _ _ _)
    have HD8 := Lib.hid (HD7.out.on b8)
    have HW8 := Lib.hid (HW7.out.on b8)
    have HS8 := Lib.hid (HS7.out.on b8)
    have HR8 := Lib.hid (HR7.out.on b8)
    have K8 := Lib.hid (show ∀ V, Below W8.heap.size W8 V → V.cell? ⟨W7.heap.size, 0, none⟩ = some (.slice a7 ns.length k7) ∧ V.cell? ⟨W7.heap.size, 1, none⟩ = some (.int .i64 next) ∧ V.cell? ⟨w.heap.size + 1, 0, none⟩ = some (.int .i64 o.kind) ∧ V.cell? ⟨w.heap.size + 1, 1, none⟩ = some (.string (strOf o.path)) ∧ V.cell? ⟨w.heap.size + 1, 2, none⟩ = some (.string (strOf o.dest)) ∧ V.cell? ⟨w.heap.size + 1, 3, none⟩ = some (.string (strOf o.data)) ∧ V.cell? ⟨w.heap.size + 1, 4, none⟩ = some (.int .i64 o.mode) ∧ V.cell? ⟨w.heap.size + 1, 5, none⟩ = some (.int .i64 o.time) from fun V hb => by
      have hx := HX8.out.on hb
      have hp := (HD8.out.on hb).p
      exact ⟨hx.cell 0, hx.cell 1, hp.cell 0, hp.cell 1, hp.cell 2, hp.cell 3, hp.cell 4, hp.cell 5⟩)
    have t0 := (K8.out _ (Below.refl _ _)).1
    have t1 := (K8.out _ (Below.refl _ _)).2.1
    have HB68 := Lib.hid (HB67.out.trans (b8.mono hs7))
    have HRL7 := Lib.hid (World.ownsRow.lt HR7.out)
    clear b8 HD7 HW7 HS7 HR7
    go_wp2
    go_cut [9, 10] (fun c9 c10 V => ∃ (b : Nat) (v9 : Value), c9 = .pointer (some ⟨b, 0, none⟩) ∧ c10 = .int .i64 code ∧ W8.heap.size ≤ b ∧ Blk V b #[v9, .int .i64 rnx] 26 ∧ NRow V W8.heap.size v9 rns ∧ Below W8.heap.size W8 V)
    case first =>
      go_region_held (fun V => V.cell? ⟨W7.heap.size, 0, none⟩ = some (.slice a7 ns.length k7) ∧ V.cell? ⟨W7.heap.size, 1, none⟩ = some (.int .i64 next) ∧ V.cell? ⟨w.heap.size + 1, 0, none⟩ = some (.int .i64 o.kind) ∧ V.cell? ⟨w.heap.size + 1, 1, none⟩ = some (.string (strOf o.path)) ∧ V.cell? ⟨w.heap.size + 1, 2, none⟩ = some (.string (strOf o.dest)) ∧ V.cell? ⟨w.heap.size + 1, 3, none⟩ = some (.string (strOf o.data)) ∧ V.cell? ⟨w.heap.size + 1, 4, none⟩ = some (.int .i64 o.mode) ∧ V.cell? ⟨w.heap.size + 1, 5, none⟩ = some (.int .i64 o.time)) (first | exact K8.out _ HBb.out | exact K8.out _ HBa.out | exact K8.out _ ((Below.refl _ _).drew) | exact K8.out _ (HBb.out.alloc HBb.out.size _) | exact K8.out _ (HBa.out.alloc HBa.out.size _) | exact K8.out _ (((Below.refl _ _).drew).alloc (Nat.le_refl _) _) | exact K8.out _ ((HBb.out.setCell (p := ⟨_, 0, none⟩) (by first | exact Nat.le_refl _ | exact HBa.out.size) _).setCell (p := ⟨_, 1, none⟩) (by first | exact Nat.le_refl _ | exact HBa.out.size) _)) (first
        | (go_at_call 40; refine (toOp o _).mono ?_; rintro e Wa ⟨rfl, hba⟩; (have HBa := Lib.hid (show Below W8.heap.size W8 Wa by first | exact ((Below.refl _ _).drew).trans hba | exact (((Below.refl _ _).drew).alloc (Nat.le_refl _) _).trans (hba.mono (by simp)))); (first | (have HXa := Lib.hid ((Blk.new W8.drew #[.slice none 0 0, .int .i64 0] 26).on hba)) | skip); clear hba)
        | (go_at_call 17; refine (CI0.out _ _ (by first | exact HR8.out.rd.on HBa.out | exact HR8.out.rd.on (HBa.out.alloc HBa.out.size _))).mono ?_; rintro e Wb ⟨v9, rfl, hR9, hbb⟩; (obtain ⟨a9, k9, rfl⟩ := hR9.shape); (have HBb := Lib.hid (show Below W8.heap.size W8 Wb by first | exact HBa.out.trans (hbb.mono HBa.out.size) | exact (HBa.out.alloc HBa.out.size _).trans (hbb.mono (by have := HBa.out.size; simp; omega)))); (have HR9 := Lib.hid hR9); (first | (have HXb := Lib.hid (HXa.out.on hbb)) | (have HXb := Lib.hid ((Blk.new Wa #[.slice none 0 0, .int .i64 0] 26).on hbb)) | skip); (try (have g0 := HXb.out.cell 0; have g1 := HXb.out.cell 1; have g2 := HXb.out.frozen 0; have g3 := HXb.out.frozen 1; simp at g0 g1; try simp at g2; try simp at g3)); clear hbb hR9))
      all_goals
        go_wp2
        go_meet
        first
          | exact ⟨_, _, rfl, rfl, HBb.out.size, Blk.new _ _ _, (HR9.out.on ((Below.refl _ _).alloc (Nat.le_refl _) _)).base HBa.out.size, HBb.out.alloc HBb.out.size _⟩
          | exact ⟨_, _, rfl, rfl, HBa.out.size, (HXb.out.set 0 _).set 1 _, ((HR9.out.other _ _ (by show Wa.heap.size < _; simp)).other _ _ (by show Wa.heap.size < _; simp)).base (by have := HBa.out.size; simp; omega), (HBb.out.setCell (p := ⟨_, 0, none⟩) HBa.out.size _).setCell (p := ⟨_, 1, none⟩) HBa.out.size _⟩
          | exact ⟨_, _, rfl, rfl, Nat.le_refl _, (HXb.out.set 0 _).set 1 _, ((HR9.out.other _ _ (by show W8.heap.size < Wa.heap.size; have := HXa.out.lt; simpa using this)).other _ _ (by show W8.heap.size < Wa.heap.size; have := HXa.out.lt; simpa using this)).base HBa.out.size, (HBb.out.setCell (p := ⟨_, 0, none⟩) (Nat.le_refl _) _).setCell (p := ⟨_, 1, none⟩) (Nat.le_refl _) _⟩
    case rest =>
      obtain ⟨b9, v9, rfl, rfl, hb9, hG9, hR9, hbv⟩ := hcut
      obtain ⟨a9, k9, rfl⟩ := hR9.shape
      have HB9 := Lib.hid hbv
      have HG9 := Lib.hid hG9
      have HR9 := Lib.hid hR9
      have HGX := Lib.hid (World.ownsRow.lt hR9)
      have hs9 := hbv.size
      have x0 := (HX8.out.on hbv).cell 0
      have x1 := (HX8.out.on hbv).cell 1
      have g0 := hG9.cell 0
      have g1 := hG9.cell 1
      have w0 := (HW8.out.on hbv).cell 0
      have w1 := (HW8.out.on hbv).cell 1
      simp at x0 x1 g0 g1 w0 w1
      have CE := Lib.hid (fun V (hb : Below wc.heap.size wc V) => eqTree V (.slice a9 rns.length k9) (.slice a5 rns.length k5) rnx rns ((HR9.out.on hb).rd) ((HS8.out.on HB9.out).on hb))
      clear hbv hG9 hR9 t0 t1
      generalize wc = W9 at *
      go_wp2_with (go_at_call 41; refine (CE.out _ (by first | exact Below.refl _ _ | exact (Below.refl _ _).drew)).mono ?_; rintro e W10 ⟨rfl, hb10⟩)
      have HB10 := Lib.hid (HB9.out.trans (hb10.mono hs9))
      have K10 := Lib.hid (show ∀ V, Below W10.heap.size W10 V → V.cell? ⟨W7.heap.size, 0, none⟩ = some (.slice a7 ns.length k7) ∧ V.cell? ⟨W7.heap.size, 1, none⟩ = some (.int .i64 next) ∧ V.cell? ⟨w.heap.size, 0, none⟩ = some (.slice a len cap) ∧ V.cell? ⟨w.heap.size, 1, none⟩ = some (.int .i64 next) from fun V hb => by
        have hx := (HX8.out.on HB10.out).on hb
        have hp := ((HD8.out.on HB10.out).on hb).t
        exact ⟨hx.cell 0, hx.cell 1, hp.cell 0, hp.cell 1⟩)
      have HG10 := Lib.hid (HG9.out.on hb10)
      have HR10 := Lib.hid (HR9.out.on hb10)
      have hs10 := hb10.size
      have t0 := (K10.out _ (Below.refl _ _)).1
      have t1 := (K10.out _ (Below.refl _ _)).2.1
      have t2 := (K10.out _ (Below.refl _ _)).2.2.1
      have t3 := (K10.out _ (Below.refl _ _)).2.2.2
      clear hb10 x0 x1 g0 g1 w0 w1 CE
      go_cut [56] (fun t V => t = .bool false ∧ Below W10.heap.size W10 V)
      case first =>
        go_region_held (fun V => V.cell? ⟨W7.heap.size, 0, none⟩ = some (.slice a7 ns.length k7) ∧ V.cell? ⟨W7.heap.size, 1, none⟩ = some (.int .i64 next) ∧ V.cell? ⟨w.heap.size, 0, none⟩ = some (.slice a len cap) ∧ V.cell? ⟨w.heap.size, 1, none⟩ = some (.int .i64 next)) (first | exact K10.out _ HBb.out | exact K10.out _ HBa.out | exact K10.out _ ((Below.refl _ _).drew)) (first
          | (go_at_call 39; refine (toTree _ a len cap ns next (H00.out.on ((HD8.out.on HB10.out).on (Below.refl _ _).drew).b) hll).mono ?_; rintro e Wa ⟨va, rfl, hRa, hba⟩; (have HBa := Lib.hid (show Below W10.heap.size W10 Wa from ((Below.refl _ _).drew).trans hba)); (have HRa := Lib.hid hRa); clear hba hRa)
          | (go_at_call 41; refine (eqTree _ _ _ next ns ((HR8.out.rd.on HB10.out).on HBa.out) HRa.out.rd).mono ?_; rintro e Wb ⟨rfl, hbb⟩; (have HBb := Lib.hid (HBa.out.trans (hbb.mono HBa.out.size))); clear hbb))
        all_goals
          go_wp2
          go_meet
          exact ⟨rfl, HBb.out⟩
      case rest =>
        obtain ⟨rfl, hb11⟩ := hcut
        have HB11 := Lib.hid (HB10.out.trans (hb11.mono (Nat.le_trans hs9 hs10)))
        have HG11 := Lib.hid (HG10.out.on hb11)
        have HR11 := Lib.hid (HR10.out.on hb11)
        have x0 := (HX8.out.on HB11.out).cell 0
        have x1 := (HX8.out.on HB11.out).cell 1
        simp at x0 x1
        have hs11 := hb11.size
        clear hb11 t0 t1 t2 t3 K10 HG9 HR9 HG10 HR10
        generalize wc = W11 at *
        have CM := markTree1 W11 _ _ ns next (by omega) (HR8.out.on HB11.out)
        go_wp2_with fail
        refine CM.mono ?_
        rintro e W12 ⟨rfl, _, hg12⟩
        have HB6 := Lib.hid (show Below W6.heap.size W6 W12 from (HB68.out.trans (HB11.out.mono HB68.out.size)).grown hg12 (HB68.out.trans (HB11.out.mono HB68.out.size)).size (fun k e => (HRL7.out k e).1))
        have HD12 := Lib.hid ((HD8.out.on HB11.out).grown hg12 (fun k e => by have := (HRL7.out k e).1; have := HD6.out.out; omega))
        have HG12 := Lib.hid (HG11.out.grown hg12 (fun e => by have := (HRL7.out _ e.symm).2; omega))
        have HR12 := Lib.hid (show NRow W12 W8.heap.size (.slice a9 rns.length k9) rns from own_grown HR11.out hg12 (fun k e => by have := (HRL7.out k e).2; omega))
        have hk12 : ¬ 1 + 6 * (ns.length : Int) < 0 := by omega
        have hs12 := hg12.size
        have g0 := HG12.out.cell 0
        have g1 := HG12.out.cell 1
        have w0 := (HW6.out.on HB6.out).cell 0
        have w1 := (HW6.out.on HB6.out).cell 1
        simp at g0 g1 w0 w1
        have CE := Lib.hid (fun V (hb : Below W12.heap.size W12 V) => eqTree V (.slice a9 rns.length k9) (.slice a5 rns.length k5) rnx rns ((HR12.out.on hb).rd) ((HS6.out.on HB6.out).on hb))
        clear hg12 CM x0 x1
        go_wp2_with (go_at_call 41; refine (CE.out _ (by first | exact Below.refl _ _ | exact (Below.refl _ _).drew)).mono ?_; rintro e W13 ⟨rfl, hb13⟩; (have HB613 := Lib.hid (HB6.out.trans (hb13.mono HB6.out.size))); (have HD13 := Lib.hid (HD12.out.on hb13)); (have HG13 := Lib.hid (HG12.out.on hb13)); (have HR13 := Lib.hid (HR12.out.on hb13)); clear hb13 g0 g1 w0 w1 CE; (have g0 := HG13.out.cell 0); (have g1 := HG13.out.cell 1); simp at g0 g1)
        refine (markTree1 W13 _ _ rns rnx (by omega) HR13.out).mono ?_
        rintro e W14 ⟨rfl, hM14, hg14⟩
        have hs68 := HB68.out.size
        have HB614 := Lib.hid (show Below W6.heap.size W6 W14 from HB613.out.grown hg14 HB613.out.size (fun k e => by have := (HGX.out k e).1; omega))
        have HD14 := Lib.hid (HD13.out.grown hg14 (fun k e => by have := (HGX.out k e).1; have := HD6.out.out; omega))
        have HG14 := Lib.hid (HG13.out.grown hg14 (own_ne HR13.out HG13.out (by decide)))
        have HM14 := Lib.hid hM14
        have hk14 : ¬ 1 + 6 * (rns.length : Int) < 0 := by omega
        have g0 := HG14.out.cell 0
        have g1 := HG14.out.cell 1
        simp at g0 g1
        clear hM14 hg14
        go_wp2_with fail
        refine (heldTree1 W14 _ rns.length rnx (by omega) HM14.out.rd).mono ?_
        rintro e W15 ⟨rfl, hb15⟩
        have HB615 := Lib.hid (HB614.out.trans (hb15.mono HB614.out.size))
        have HD15 := Lib.hid (HD14.out.on hb15)
        have HG15 := Lib.hid (HG14.out.on hb15)
        have HM15 := Lib.hid (HM14.out.on hb15)
        clear hb15 g0 g1
        have K15 := Lib.hid (show ∀ V, Below W15.heap.size W15 V → V.cell? ⟨w.heap.size, 0, none⟩ = some (.slice a len cap) ∧ V.cell? ⟨w.heap.size, 1, none⟩ = some (.int .i64 next) ∧ V.cell? ⟨w.heap.size + 1, 0, none⟩ = some (.int .i64 o.kind) ∧ V.cell? ⟨w.heap.size + 1, 1, none⟩ = some (.string (strOf o.path)) ∧ V.cell? ⟨w.heap.size + 1, 2, none⟩ = some (.string (strOf o.dest)) ∧ V.cell? ⟨w.heap.size + 1, 3, none⟩ = some (.string (strOf o.data)) ∧ V.cell? ⟨w.heap.size + 1, 4, none⟩ = some (.int .i64 o.mode) ∧ V.cell? ⟨w.heap.size + 1, 5, none⟩ = some (.int .i64 o.time) from fun V hb => (HD15.out.on hb).cells)
        go_wp2
        go_cut [14, 15] (fun c14 c15 V => ∃ (b : Nat) (v : Value), c14 = .pointer (some ⟨b, 0, none⟩) ∧ c15 = .int .i64 code ∧ Blk V b #[v, .int .i64 rnx] 26 ∧ NRd V v rns ∧ Below W15.heap.size W15 V)
        case first =>
          go_region_held (fun V => V.cell? ⟨w.heap.size, 0, none⟩ = some (.slice a len cap) ∧ V.cell? ⟨w.heap.size, 1, none⟩ = some (.int .i64 next) ∧ V.cell? ⟨w.heap.size + 1, 0, none⟩ = some (.int .i64 o.kind) ∧ V.cell? ⟨w.heap.size + 1, 1, none⟩ = some (.string (strOf o.path)) ∧ V.cell? ⟨w.heap.size + 1, 2, none⟩ = some (.string (strOf o.dest)) ∧ V.cell? ⟨w.heap.size + 1, 3, none⟩ = some (.string (strOf o.data)) ∧ V.cell? ⟨w.heap.size + 1, 4, none⟩ = some (.int .i64 o.mode) ∧ V.cell? ⟨w.heap.size + 1, 5, none⟩ = some (.int .i64 o.time)) (first | exact K15.out _ HBc.out | exact K15.out _ HBb.out | exact K15.out _ HBa.out | exact K15.out _ ((Below.refl _ _).drew) | exact K15.out _ (HBc.out.alloc HBc.out.size _) | exact K15.out _ (HBb.out.alloc HBb.out.size _) | exact K15.out _ (HBa.out.alloc HBa.out.size _) | exact K15.out _ (((Below.refl _ _).drew).alloc (Nat.le_refl _) _) | exact K15.out _ ((HBc.out.setCell (p := ⟨_, 0, none⟩) (by first | exact Nat.le_refl _ | exact HBa.out.size | exact HBb.out.size) _).setCell (p := ⟨_, 1, none⟩) (by first | exact Nat.le_refl _ | exact HBa.out.size | exact HBb.out.size) _)) (first
            | (go_at_call 39; refine (toTree _ a len cap ns next (H00.out.on (by first | exact (HD15.out.on (Below.refl _ _).drew).b | exact (HD15.out.on (((Below.refl _ _).drew).alloc (Nat.le_refl _) _)).b)) hll).mono ?_; rintro e Wa ⟨va, rfl, hRa, hba⟩; (have HBa := Lib.hid (show Below W15.heap.size W15 Wa by first | exact ((Below.refl _ _).drew).trans hba | exact (((Below.refl _ _).drew).alloc (Nat.le_refl _) _).trans (hba.mono (by simp)))); (have HRa := Lib.hid hRa); (first | (have HXa := Lib.hid ((Blk.new W15.drew #[.slice none 0 0, .int .i64 0] 26).on hba)) | skip); clear hba hRa)
            | (go_at_call 40; refine (toOp o _).mono ?_; rintro e Wb ⟨rfl, hbb⟩; (have hbx : Below Wa.heap.size Wa Wb := by first | exact hbb | exact ((Below.refl _ _).alloc (Nat.le_refl _) _).trans (hbb.mono (by simp))); (have HBb := Lib.hid (HBa.out.trans (hbx.mono HBa.out.size))); (have HRb := Lib.hid (HRa.out.on hbx)); (first | (have HXb := Lib.hid (HXa.out.on hbb)) | (have HXb := Lib.hid ((Blk.new Wa #[.slice none 0 0, .int .i64 0] 26).on hbb)) | skip); clear hbb hbx)
            | (go_at_call 17; refine (CI0.out _ _ (by first | exact HRb.out.rd | exact (HRb.out.on ((Below.refl _ _).alloc (Nat.le_refl _) _)).rd)).mono ?_; rintro e Wc ⟨v9, rfl, hRc, hbc⟩; (obtain ⟨ac, kc, rfl⟩ := hRc.shape); (have HBc := Lib.hid (show Below W15.heap.size W15 Wc by first | exact HBb.out.trans (hbc.mono HBb.out.size) | exact (HBb.out.alloc HBb.out.size _).trans (hbc.mono (by have := HBb.out.size; simp; omega)))); (have HRc := Lib.hid hRc.rd); (first | (have HXc := Lib.hid (HXb.out.on hbc)) | (have HXc := Lib.hid ((Blk.new Wb #[.slice none 0 0, .int .i64 0] 26).on hbc)) | skip); (try (have g0 := HXc.out.cell 0; have g1 := HXc.out.cell 1; have g2 := HXc.out.frozen 0; have g3 := HXc.out.frozen 1; simp at g0 g1; try simp at g2; try simp at g3)); clear hbc hRc))
          all_goals
            go_wp2
            go_meet
            first
              | exact ⟨_, _, rfl, rfl, Blk.new _ _ _, HRc.out.on ((Below.refl _ _).alloc (Nat.le_refl _) _), HBc.out.alloc HBc.out.size _⟩
              | exact ⟨_, _, rfl, rfl, (HXc.out.set 0 _).set 1 _, HRc.out.past HXc.out _ _, (HBc.out.setCell (p := ⟨_, 0, none⟩) (by first | exact Nat.le_refl _ | exact HBa.out.size | exact HBb.out.size) _).setCell (p := ⟨_, 1, none⟩) (by first | exact Nat.le_refl _ | exact HBa.out.size | exact HBb.out.size) _⟩
        case rest =>
          obtain ⟨b16, v16, rfl, rfl, hX16, hR16, hb16⟩ := hcut
          obtain ⟨a16, k16, rfl⟩ : ∃ a c, v16 = .slice a rns.length c := by obtain ⟨a, c, h, _⟩ := hR16; exact ⟨a, c, h⟩
          have HB616 := Lib.hid (HB615.out.trans (hb16.mono HB615.out.size))
          have HD16 := Lib.hid (HD15.out.on hb16)
          have HG16 := Lib.hid (HG15.out.on hb16)
          have HM16 := Lib.hid (HM15.out.on hb16)
          have x0 := hX16.cell 0
          have x1 := hX16.cell 1
          have w0 := (HW6.out.on HB616.out).cell 0
          have w1 := (HW6.out.on HB616.out).cell 1
          simp at x0 x1 w0 w1
          have HR16 := Lib.hid hR16
          clear hb16 hX16 hR16
          generalize wc = W16 at *
          have CE := Lib.hid (fun V (hb : Below W16.heap.size W16 V) => eqTree V (.slice a16 rns.length k16) (.slice a5 rns.length k5) rnx rns (HR16.out.on hb) ((HS6.out.on HB616.out).on hb))
          go_wp2_with (go_at_call 41; refine (CE.out _ (by first | exact Below.refl _ _ | exact (Below.refl _ _).drew)).mono ?_; rintro e W17 ⟨rfl, hb17⟩; (have HD17 := Lib.hid (HD16.out.on hb17)); (have HG17 := Lib.hid (HG16.out.on hb17)); (have HM17 := Lib.hid (HM16.out.on hb17)); clear hb17 x0 x1 w0 w1 CE; (have g0 := HG17.out.cell 0); (have g1 := HG17.out.cell 1); simp at g0 g1)
          refine (heldTree1 W17 _ rns.length rnx (by omega) HM17.out.rd).mono ?_
          rintro e W18 ⟨rfl, hb18⟩
          have HD18 := Lib.hid (HD17.out.on hb18)
          clear hb18
          go_wp2
          go_ret
          exact ⟨rfl, HD18.out.b⟩
end Go.Proofs.YtipedabppgbfcaaGreatDoor
