/- impl.workOn: a right tree's nodes, each in a block of its own. The contract of spec.l07Copy: a tree that shares nothing. -/
import Derived.Test.YtipedabppgbfcaaGreatDoorK18
import Derived.Laws.OwnMore
set_option linter.all false
namespace Go.Proofs.YtipedabppgbfcaaGreatDoor
open Go.RowKit
variable {R : World}

theorem Work.base {W : World} {B B' p : Nat} {v : Value} {ps : List (Nat × Nd)} {next : Int} (h : Work R W B p v ps next) (hB : B' ≤ B) : Work R W B' p v ps next :=
  ⟨Nat.le_trans hB h.lo, h.top, owns_base h.row hB, fun q hq => ⟨Nat.le_trans hB (h.node q hq).1, (h.node q hq).2⟩, h.apart, h.oth⟩
/-- The row is written, or a new one is; nodes may be new. -/
theorem Work.anew {W W' : World} {B p : Nat} {v v' : Value} {ps ps' : List (Nat × Nd)} {next : Int} (h : Work R W B p v ps next) (hg : W.grownBy W' v.ownBlock) (hr : W'.ownsRow B 149 1 v' ps'.length (ps'.map wkVal)) (hq : ∀ q ∈ ps', q ∈ ps ∨ (B ≤ q.1 ∧ WkAt W' q.1 q.2)) (hap : ps'.Pairwise fun a b => a.1 ≠ b.1) :
    Work R (W'.setCell ⟨p, 0, none⟩ v') B p v' ps' next := by
  have hne : some p ≠ v.ownBlock := fun e => (h.rowBlk e.symm).1 rfl
  have ht := h.top.grown hg hne
  have hpr : ∀ k, v'.ownBlock = some k → k ≠ p := fun k hk e => by
    subst e
    rcases hr.2 with ⟨hv, _⟩ | ⟨g, cap, cur, hv, _, hgg, _⟩
    · rw [hv] at hk; cases hk
    · rw [hv] at hk
      have e2 : g = k := by simpa [Value.ownBlock] using hk
      subst e2
      have := ht.blk
      rw [hgg] at this
      simp at this
  refine ⟨h.lo, ht.set 0 v', ?_, fun q hqm => ?_, hap, (h.oth.trans (.grown hg (row_bound h.row))).trans (.set _ _ (ht.bound (.inl rfl)))⟩
  · refine ⟨hr.1, ?_⟩
    rcases hr.2 with hn | ⟨g, cap, cur, hv, hb, hgg, rest⟩
    · exact .inl hn
    · exact .inr ⟨g, cap, cur, hv, hb, (Below.heap_setCell W' ⟨p, 0, none⟩ v' g (fun e => hpr g (by rw [hv]; rfl) e)).trans hgg, rest⟩
  · have hk : B ≤ q.1 ∧ WkAt W' q.1 q.2 := by
      rcases hq q hqm with h1 | h1
      · obtain ⟨h2, h3⟩ := h.node q h1
        exact ⟨h2, h3.grown hg fun e => (h.rowBlk e.symm).2 q h1 rfl⟩
      · exact h1
    refine ⟨hk.1, hk.2.other _ _ fun e => ?_⟩
    have h1 := ht.blk
    have h2 := hk.2.blk.blk
    rw [show q.1 = p from e] at h2
    rw [h1] at h2
    unfold wkType at h2
    cases hd : q.2.dir <;> rw [hd] at h2 <;> simp at h2
theorem Work.push {W W' : World} {B p b : Nat} {v v' : Value} {ps : List (Nat × Nd)} {nd : Nd} {next : Int} (h : Work R W B p v ps next) (hb : W.heap.size ≤ b) (hn : WkAt W' b nd) (hg : W.grownBy W' v.ownBlock) (hr : W'.ownsRow B 149 1 v' (ps.length + 1) (ps.map wkVal ++ [wkVal (b, nd)])) : Work R (W'.setCell ⟨p, 0, none⟩ v') B p v' (ps ++ [(b, nd)]) next := by
  have hBp := h.plt
  refine h.anew hg (by rw [List.length_append, List.map_append]; exact hr) (fun q hq => ?_) ?_
  · rcases List.mem_append.1 hq with hq | hq
    · exact .inl hq
    · simp at hq; subst hq; exact .inr ⟨by show B ≤ b; omega, hn⟩
  · rw [List.pairwise_append]
    refine ⟨h.apart, List.pairwise_singleton _ _, fun a ha c hc => ?_⟩
    simp at hc; subst hc
    have := (h.node a ha).2.lt
    show a.1 ≠ b
    omega
theorem cell_one0 {W : World} (x : Value) (t : TypeId) : ∀ j u, [x][j]? = some u → (W.alloc (.cells #[x] t)).cell? ((⟨W.heap.size, 0, none⟩ : Addr).add j) = some u := by
  intro j u hj
  match j, hj with
  | 0, hj => simp at hj; subst hj; simp [Addr.add]
  | j + 1, hj => simp at hj
theorem cell_one2 (W : World) (o : Obj) (x : Value) (t : TypeId) (q : Nat) (h : q = W.heap.size + 1) : ∀ j u, [x][j]? = some u → ((W.alloc o).alloc (.cells #[x] t)).cell? ((⟨q, 0, none⟩ : Addr).add j) = some u := by
  subst h
  have := cell_one0 (W := W.alloc o) x t
  rw [World.size_alloc] at this
  exact this
theorem grown_from {A B C : World} {row : Option Nat} (hb : Below A.heap.size A B) (hg : B.grownBy C row) : A.grownBy C row :=
  ⟨hg.os.trans hb.os, hg.tape.trans hb.tape, hg.output.trans hb.output, Nat.le_trans hb.size hg.size, fun k hk hr => (hg.block k (Nat.lt_of_lt_of_le hk hb.size) hr).trans (hb.block k hk)⟩
theorem push_new {W w1 : World} {B p : Nat} {v v' : Value} {ps : List (Nat × Nd)} {nd : Nd} {next : Int} {o q : Obj} (h : Work R W B p v ps next) (hg : ((W.alloc o).alloc q).drew.grownBy w1 v.ownBlock) (hk : WkAt (W.alloc o) W.heap.size nd) (hr : w1.ownsRow B 149 1 v' (ps.length + 1) (ps.map wkVal ++ [wkVal (W.heap.size, nd)])) :
    Blk w1 p #[v, .int .i64 next] 137 ∧ Work R (w1.setCell ⟨p, 0, none⟩ v') B p v' (ps ++ [(W.heap.size, nd)]) next ∧ W.grownBy w1 v.ownBlock := by
  have hgW := grown_from (((Below.refl _ W).alloc (Nat.le_refl _) o).alloc (by simp) q).drew hg
  have hne : ∀ k, v.ownBlock = some k → k < W.heap.size := fun k e => (World.ownsRow.lt h.row k e).2
  refine ⟨h.top.grown hgW fun e => (h.rowBlk e.symm).1 rfl, h.push (Nat.le_refl _) ?_ hgW hr, hgW⟩
  have h1 : WkAt ((W.alloc o).alloc q).drew W.heap.size nd := hk.on ((Below.refl _ _).alloc (Nat.le_refl _) q).drew
  exact h1.grown hg fun e => by have := hne _ e.symm; omega
theorem WkAt.newD (W : World) (p : List UInt8) (m t i : Int) : WkAt (W.alloc (.cells #[.string (strOf p), .int .i64 m, .int .i64 t, .int .i64 i] 142)) W.heap.size ⟨p, true, m, t, i, []⟩ := ⟨Blk.new _ _ _, fun _ => rfl⟩
theorem WkAt.newF (W : World) (p d : List UInt8) (m t i : Int) : WkAt (W.alloc (.cells #[.string (strOf p), .int .i64 m, .int .i64 t, .int .i64 i, .string (strOf d)] 145)) W.heap.size ⟨p, false, m, t, i, d⟩ := ⟨Blk.new _ _ _, fun e => by cases e⟩

set_option maxRecDepth 100000 in
set_option maxHeartbeats 4000000 in
theorem wkOn (w : World) (v : Value) (ns : List Nd) (next : Int) (h : NRd w v ns) (hd0 : ∀ n ∈ ns, n.dir = true → n.data = []) (hlen : ns.length ≤ 60) :
    Calls Tryz.prog 73 #[.agg #[v, .int .i64 next]] w fun e w' => ∃ p, e = .returned (.pointer (some ⟨p, 0, none⟩)) ∧ ∃ v' ps, Work w w' w.heap.size p v' ps next ∧ nds ps = ns ∧ Below w.heap.size w w' := by
  obtain ⟨j0, ji, jz0, jz1, jz2⟩ := info_parts infoWk
  have HD := Lib.hid hd0
  have HN0 := Lib.hid h
  obtain ⟨a, cap, rfl, hlc, hcm, hcs⟩ := h
  have hcs0 := Lib.hid hcs
  unfold maxLen at hcm
  obtain ⟨wa, hwa⟩ : ∃ wa, w.alloc (.cells #[.slice a ns.length cap, .int .i64 next] 26) = wa := ⟨_, rfl⟩
  obtain ⟨wb, hwb⟩ : ∃ wb, wa.alloc (.cells #[.slice none 0 0, .int .i64 next] 137) = wb := ⟨_, rfl⟩
  have hsa : wa.heap.size = w.heap.size + 1 := by rw [← hwa]; simp
  have hsb : wb.heap.size = w.heap.size + 2 := by rw [← hwb]; simp [hsa]
  have ba : Below w.heap.size w wa := by rw [← hwa]; exact (Below.refl _ _).alloc (Nat.le_refl _) _
  have bb : Below wa.heap.size wa wb := by rw [← hwb]; exact (Below.refl _ _).alloc (Nat.le_refl _) _
  have T0 := Lib.hid (show Blk wb w.heap.size #[.slice a ns.length cap, .int .i64 next] 26 from (show Blk wa w.heap.size _ 26 by rw [← hwa]; exact Blk.new _ _ _).on bb)
  have O0 := Lib.hid (show Work w wb (w.heap.size + 1) (w.heap.size + 1) (.slice none 0 0) [] next from ⟨Nat.le_refl _, by rw [← hwb, ← hsa]; exact Blk.new _ _ _, World.ownsRow_nil _ _ _ _, by simp, List.Pairwise.nil, .below (ba.trans (bb.mono (by omega)))⟩)
  have HB0 := Lib.hid (ba.trans (bb.mono (by omega)))
  have t1 := (show Blk wa w.heap.size #[.slice a ns.length cap, .int .i64 next] 26 by rw [← hwa]; exact Blk.new _ _ _).cell 1
  have t0 := T0.out.cell 0
  simp at t0 t1
  clear ba bb hd0 hcs
  go_enter Tryz.func73, Tryz.ntmps73
  go_wp2
  go_loopw [14] (fun iv W => ∃ (k : Nat) (v : Value) (ps : List (Nat × Nd)), k ≤ ns.length ∧ iv = .int .i64 k ∧ Work w W (w.heap.size + 1) (w.heap.size + 1) v ps next ∧ Hid (nds ps = ns.take k) ∧ Hid (ps.length = k) ∧ Below (w.heap.size + 1) wb W) (fun iv _ => ns.length - (intOf iv).toNat)
  case atStart => exact ⟨0, _, [], Nat.zero_le _, rfl, O0.out, Lib.hid (by simp [nds]), Lib.hid rfl, Below.refl _ _⟩
  case round =>
    obtain ⟨k, v, ps, hk, rfl, hO, HP, HK, hb⟩ := hrel
    obtain ⟨a2, k2, rfl⟩ := hO.shape
    have HO := Lib.hid hO
    have HB := Lib.hid hb
    have HBW := Lib.hid (HB0.out.trans (hb.mono (by omega)))
    clear hO hb t0 t1
    by_cases hlt : k < ns.length
    rotate_left
    · have hki : ¬ (k : Int) < (ns.length : Int) := by omega
      go_wp2
      refine bodyPost_ret (v := .pointer (some ⟨w.heap.size + 1, 0, none⟩)) (by simp [results, Tryz.results73, go_sem]) rfl ⟨w.heap.size + 1, rfl, _, _, HO.out.base (by omega), ?_, HBW.out⟩
      rw [HP.out, List.take_of_length_le (by omega)]
    have hki : (k : Int) < (ns.length : Int) := by omega
    obtain ⟨g, cap', hs, hg, _, _, hc⟩ := HN0.out.at (by intro e; subst e; simp at hlt)
    simp only [Value.slice.injEq] at hs
    obtain ⟨rfl, _, rfl⟩ := hs
    have hck := (hc k hlt).on hg HBW.out
    have HTK := Lib.hid (List.take_succ_eq_append_getElem hlt)
    have hdk := HD.out ns[k] (List.getElem_mem hlt)
    generalize hq : ns[k] = nd at hck hdk
    have HQ := Lib.hid hq
    obtain ⟨np, nb, nm, nt, nid, ndt⟩ := nd
    obtain ⟨e0, e1, e2, e3, e4, e5⟩ := hck
    simp only at e0 e1 e2 e3 e4 e5 hdk
    obtain ⟨W5, hW5⟩ : ∃ W, wr.alloc (.cells #[.string (strOf np), .bool nb, .int .i64 nm, .int .i64 nt, .int .i64 nid, .string (strOf ndt)] 37) = W := ⟨_, rfl⟩
    obtain ⟨W6, hW6⟩ : ∃ W, W5.alloc (.cells #[.string (strOf np), .int .i64 nm, .int .i64 nt, .int .i64 nid] 139) = W := ⟨_, rfl⟩
    have b5 : Below wr.heap.size wr W5 := by rw [← hW5]; exact (Below.refl _ _).alloc (Nat.le_refl _) _
    have b6 : Below W5.heap.size W5 W6 := by rw [← hW6]; exact (Below.refl _ _).alloc (Nat.le_refl _) _
    have hs5 : W5.heap.size = wr.heap.size + 1 := by rw [← hW5]; simp
    have hs6 : W6.heap.size = wr.heap.size + 2 := by rw [← hW6]; simp [hs5]
    have N5 : Blk W5 wr.heap.size #[.string (strOf np), .bool nb, .int .i64 nm, .int .i64 nt, .int .i64 nid, .string (strOf ndt)] 37 := by rw [← hW5]; exact Blk.new _ _ _
    have N6 := N5.on b6
    have A6 : Blk W6 (wr.heap.size + 1) #[.string (strOf np), .int .i64 nm, .int .i64 nt, .int .i64 nid] 139 := by rw [← hW6, ← hs5]; exact Blk.new _ _ _
    have m0 := N5.cell 0
    have m1 := N5.cell 1
    have m2 := N5.cell 2
    have m3 := N5.cell 3
    have m4 := N5.cell 4
    have m5 := N5.cell 5
    have x1 := N6.cell 1
    have x5 := N6.cell 5
    have y0 := A6.cell 0
    have y1 := A6.cell 1
    have y2 := A6.cell 2
    have y3 := A6.cell 3
    simp at m0 m1 m2 m3 m4 m5 x1 x5 y0 y1 y2 y3
    have HO6 := Lib.hid ((HO.out.on b5).on b6)
    have HB6 := Lib.hid ((HB.out.trans (b5.mono (by have := HB.out.size; omega))).trans (b6.mono (by have := HB.out.size; omega)))
    have hO1 := HO6.out.top.cell 0
    simp at hO1
    clear hq hc N5 N6 A6 b5 b6
    cases nb with
    | true =>
      have hd2 := hdk rfl
      subst hd2
      have hO2 : ∀ o, (W6.alloc o).cell? ⟨w.heap.size + 1, 0, none⟩ = some (.slice a2 ps.length k2) := fun o => (HO6.out.top.alloc o).cell 0
      have hO3 : ∀ o q, ((W6.alloc o).alloc q).cell? ⟨w.heap.size + 1, 0, none⟩ = some (.slice a2 ps.length k2) := fun o q => ((HO6.out.top.alloc o).alloc q).cell 0
      have hpl : ps.length ≤ 60 := by have := HK.out; omega
      have hBs := HB6.out.size
      go_wp2_with fail
      have hKW := Lib.hid (WkAt.newD W6 np nm nt nid)
      go_region_law (refine step_append_lies _ (by rfl) _ _ _ (by rfl) (w.heap.size + 1) 149 j0 .nilIface 1 16 Tryz.underlying135 ji jz0 jz1 jz2 rfl (by omega) _ ps.length (ps.map wkVal) (by rfl) (ownsN_push (HO6.out.row.alloc _) (by rfl)) ⟨wr.heap.size + 2 + 1, 0, none⟩ 1 1 [.iface 140 (.pointer (some ⟨wr.heap.size + 2, 0, none⟩))] (by rfl) (by rfl) (cell_one2 _ _ _ _ _ (by rw [hs6])) (by simp; rfl) (by omega) (by unfold maxLen; omega) (by omega) (by simp; omega) (W6.heap.size + 1 + 1) (by simp) ?_; intro g1 cap1 w1 hown1 hgrow1 hat1 hlt1; (obtain ⟨hT1, hW1, hG1⟩ := push_new HO6.out hgrow1 hKW.out (by rw [hs6]; exact hown1)); (have z0 := hT1.cell 0); (have zf := hT1.frozen 0); simp at z0)
      all_goals
        have HW1 := Lib.hid hW1
        have HG1 := Lib.hid hG1
        clear hW1 hG1 hown1 hgrow1 hT1
        go_wp2
        go_roundw
        case rel => exact ⟨k + 1, _, _, by omega, by go_num, HW1.out, Lib.hid (by rw [HTK.out, HQ.out]; simp [nds]; exact HP.out), Lib.hid (by simp; exact HK.out), (HB6.out.grown HG1.out (by omega) (fun j e => by have := (World.ownsRow.lt HO6.out.row j e).1; omega)).setCell (Nat.le_refl (w.heap.size + 1)) _⟩
        case measure => simp [intOf]; omega
    | false =>
      have hO2 : ∀ o, (W6.alloc o).cell? ⟨w.heap.size + 1, 0, none⟩ = some (.slice a2 ps.length k2) := fun o => (HO6.out.top.alloc o).cell 0
      have hO3 : ∀ o q, ((W6.alloc o).alloc q).cell? ⟨w.heap.size + 1, 0, none⟩ = some (.slice a2 ps.length k2) := fun o q => ((HO6.out.top.alloc o).alloc q).cell 0
      have hpl : ps.length ≤ 60 := by have := HK.out; omega
      have hBs := HB6.out.size
      go_wp2_with fail
      have hKW := Lib.hid (WkAt.newF W6 np ndt nm nt nid)
      go_region_law (refine step_append_lies _ (by rfl) _ _ _ (by rfl) (w.heap.size + 1) 149 j0 .nilIface 1 16 Tryz.underlying135 ji jz0 jz1 jz2 rfl (by omega) _ ps.length (ps.map wkVal) (by rfl) (ownsN_push (HO6.out.row.alloc _) (by rfl)) ⟨wr.heap.size + 2 + 1, 0, none⟩ 1 1 [.iface 143 (.pointer (some ⟨wr.heap.size + 2, 0, none⟩))] (by rfl) (by rfl) (cell_one2 _ _ _ _ _ (by rw [hs6])) (by simp; rfl) (by omega) (by unfold maxLen; omega) (by omega) (by simp; omega) (W6.heap.size + 1 + 1) (by simp) ?_; intro g1 cap1 w1 hown1 hgrow1 hat1 hlt1; (obtain ⟨hT1, hW1, hG1⟩ := push_new HO6.out hgrow1 hKW.out (by rw [hs6]; exact hown1)); (have z0 := hT1.cell 0); (have zf := hT1.frozen 0); simp at z0)
      all_goals
        have HW1 := Lib.hid hW1
        have HG1 := Lib.hid hG1
        clear hW1 hG1 hown1 hgrow1 hT1
        go_wp2
        go_roundw
        case rel => exact ⟨k + 1, _, _, by omega, by go_num, HW1.out, Lib.hid (by rw [HTK.out, HQ.out]; simp [nds]; exact HP.out), Lib.hid (by simp; exact HK.out), (HB6.out.grown HG1.out (by omega) (fun j e => by have := (World.ownsRow.lt HO6.out.row j e).1; omega)).setCell (Nat.le_refl (w.heap.size + 1)) _⟩
        case measure => simp [intOf]; omega
end Go.Proofs.YtipedabppgbfcaaGreatDoor
namespace Go.Proofs.YtipedabppgbfcaaGreatDoor
open Go.RowKit

/-- At a step of a region that draws its order: an append onto a row of the call's own, of any number of elements. -/
theorem step_append_own {P : Program} (w : World) {ops : Array Oper} {o : Oper} {a : Act} {K : Act → World → Prop} {Q : Exit → Act → World → Prop} {E : Prop} (hgd : o.guard = none) (s x : Operand) (t : TypeId)
    (ho : o.op = .call { callee := .builtin .append, args := #[s, x], argTypes := #[t, t] })
    (base : Nat) (e : TypeId) (i : TypeInfo) (z : Value) (size bytes : Nat) (ht : P.underlying t = some (.slice e)) (hi : P.info? e = some i) (hz : i.zero = some z)
    (hsize : i.size = size) (hby : i.bytes = bytes) (hzs : z.cells.size = size) (hsz : 0 < size)
    (v : Value) (n : Nat) (xs : List Value) (hs : a.eval s = v) (hown : w.ownsRow base e size v n xs)
    (ad : Addr) (m c : Nat) (news : List Value) (hx : a.eval x = .slice (some ad) m c) (hl : news.length = m * size) (hnews : ∀ j u, news[j]? = some u → w.cell? (ad.add j) = some u) (h1 : ∀ u ∈ news, u.oneCell' = true)
    (h63 : n + m ≤ maxLen) (hbytes : (n + m) * bytes ≤ 140737488355328) (hbase : base ≤ w.heap.size)
    (h : ∀ v' w', w'.ownsRow base e size v' (n + m) (xs ++ news) → w.grownBy w' v.ownBlock → K (a.put o.dst v') w') :
    if Region.wanted o (yielded ops a.tmps) = true then Oper.wp P o a w K Q else E := by
  have hw : Region.wanted o (yielded ops a.tmps) = true := by simp [Region.wanted, hgd]
  rw [if_pos hw]
  exact wp_append_own w s x t ho base e i z size bytes ht hi hz hsize hby hzs hsz v n xs hs hown ad m c news hx hl hnews h1 h63 hbytes hbase (fun v' w' h2 h3 _ => h v' w' h2 h3)
/-- The same of a source that is nil. -/
theorem step_append_own_none {P : Program} (w : World) {ops : Array Oper} {o : Oper} {a : Act} {K : Act → World → Prop} {Q : Exit → Act → World → Prop} {E : Prop} (hgd : o.guard = none) (s x : Operand) (t : TypeId)
    (ho : o.op = .call { callee := .builtin .append, args := #[s, x], argTypes := #[t, t] })
    (base : Nat) (e : TypeId) (i : TypeInfo) (size : Nat) (ht : P.underlying t = some (.slice e)) (hi : P.info? e = some i)
    (v : Value) (n : Nat) (xs : List Value) (hs : a.eval s = v) (hown : w.ownsRow base e size v n xs) (hx : a.eval x = .slice none 0 0)
    (h : K (a.put o.dst v) w) :
    if Region.wanted o (yielded ops a.tmps) = true then Oper.wp P o a w K Q else E := by
  have hw : Region.wanted o (yielded ops a.tmps) = true := by simp [Region.wanted, hgd]
  rw [if_pos hw]
  have hrun := run_append_owned_none (P := P) (w := w) base t o.type e i size ht hi v n xs hown
  unfold Oper.wp
  simp [execOp, ho, resolve, invoke, builtin, hs, hx, hrun, Result.andThen]
  exact h
theorem nodes_news {w : World} {g : Nat} {ns : List Nd} (h : ∀ i (hi : i < ns.length), NdAt w g (i * 6) ns[i]) : ∀ j u, (nodesVals ns)[j]? = some u → w.cell? ((⟨g, 0, none⟩ : Addr).add j) = some u := fun j u hj => by
  have hlt : j < ns.length * 6 := by
    have := (List.getElem?_eq_some_iff.1 hj).1
    rwa [nodesVals_len] at this
  have hi : j / 6 < ns.length := by omega
  have e : j / 6 * 6 + j % 6 = j := by omega
  have h2 := nodesVals_at ns (j / 6) (j % 6) hi (by omega)
  rw [e, hj] at h2
  have hn := h (j / 6) hi
  have ha : (⟨g, 0, none⟩ : Addr).add j = ⟨g, j / 6 * 6 + j % 6, none⟩ := by
    rw [e]; unfold Addr.add; split <;> simp_all
  rw [ha]
  generalize ns[j / 6] = nd at h2 hn
  generalize j / 6 * 6 = o at hn ⊢
  rcases (by omega : j % 6 = 0 ∨ j % 6 = 1 ∨ j % 6 = 2 ∨ j % 6 = 3 ∨ j % 6 = 4 ∨ j % 6 = 5) with h | h | h | h | h | h <;> rw [h] at h2 ⊢ <;> simp only [nodeVals, List.getElem?_cons_zero, List.getElem?_cons_succ, Option.some.injEq] at h2 <;> subst h2
  · exact hn.c0
  · exact hn.c1
  · exact hn.c2
  · exact hn.c3
  · exact hn.c4
  · exact hn.c5
theorem nodesVals_oneCell (ns : List Nd) : ∀ u ∈ nodesVals ns, u.oneCell' = true := by
  intro u hu
  obtain ⟨n, _, h⟩ := List.mem_flatMap.1 hu
  exact nodeVals_one n u h
theorem own_slice {w : World} {B : Nat} {e : TypeId} {size : Nat} {v : Value} {n : Nat} {xs : List Value} (h : w.ownsRow B e size v n xs) : ∃ a c, v = .slice a n c := by
  rcases h.2 with ⟨rfl, rfl⟩ | ⟨g, cap, cur, rfl, _⟩
  · exact ⟨none, 0, rfl⟩
  · exact ⟨_, _, rfl⟩

set_option maxRecDepth 100000 in
set_option maxHeartbeats 8000000 in
theorem specCopy (w : World) (v : Value) (ns : List Nd) (next : Int) (h : NRd w v ns) (hk0 : ∀ n c, v = .slice none n c → c = 0) (hl : ns.length ≤ 1048576) :
    Calls Tryz.prog 60 #[.agg #[v, .int .i64 next]] w fun e w' => ∃ v', e = .returned (.agg #[v', .int .i64 next]) ∧ NRow w' w.heap.size v' ns ∧ Below w.heap.size w w' := by
  obtain ⟨j0, ji, jz0, jz1, jz2⟩ := info_parts infoN
  obtain ⟨a1, k1, rfl, hlc, hcm, hdat⟩ : ∃ a c, v = .slice a ns.length c ∧ ns.length ≤ c ∧ c ≤ maxLen ∧ (ns = [] ∨ ∃ g, a = some ⟨g, 0, none⟩ ∧ g < w.heap.size ∧ ∀ i (hi : i < ns.length), NdAt w g (i * 6) ns[i]) := h
  obtain ⟨wa, hwa⟩ : ∃ wa, w.alloc (.cells #[.slice a1 ns.length k1, .int .i64 next] 26) = wa := ⟨_, rfl⟩
  obtain ⟨wb, hwb⟩ : ∃ wb, wa.alloc (.cells #[.slice none 0 0, .int .i64 0] 26) = wb := ⟨_, rfl⟩
  have hsa : wa.heap.size = w.heap.size + 1 := by rw [← hwa]; simp
  have hsb : wb.heap.size = w.heap.size + 2 := by rw [← hwb]; simp [hsa]
  have ba : Below w.heap.size w wa := by rw [← hwa]; exact (Below.refl _ _).alloc (Nat.le_refl _) _
  have bb : Below wa.heap.size wa wb := by rw [← hwb]; exact (Below.refl _ _).alloc (Nat.le_refl _) _
  have TB := Lib.hid (show Blk wb w.heap.size #[.slice a1 ns.length k1, .int .i64 next] 26 from (show Blk wa w.heap.size _ 26 by rw [← hwa]; exact Blk.new _ _ _).on bb)
  have RB := Lib.hid (show Blk wb (w.heap.size + 1) #[.slice none 0 0, .int .i64 0] 26 by rw [← hwb, ← hsa]; exact Blk.new _ _ _)
  have HWB := Lib.hid (ba.trans (bb.mono (by omega)))
  have c0 := TB.out.cell 0
  have c1 := TB.out.cell 1
  have d0 := (TB.out.alloc (.cells #[] 37)).cell 0
  have d1 := (TB.out.alloc (.cells #[] 37)).cell 1
  have e0 := (RB.out.alloc (.cells #[] 37)).cell 0
  have e1 := (RB.out.alloc (.cells #[] 37)).cell 1
  have f0 := (RB.out.alloc (.cells #[] 37)).frozen 0
  have f1 := (RB.out.alloc (.cells #[] 37)).frozen 1
  have r0 := RB.out.cell 0
  have r1 := RB.out.cell 1
  have q0 := RB.out.frozen 0
  have q1 := RB.out.frozen 1
  have hown := World.ownsRow_lit (base := w.heap.size + 2) (e := 37) (size := 6) wb #[] 0 (by omega) (by simp [maxLen]) (by simp)
  rw [hsb] at hown
  cases a1 with
  | none =>
    have hns : ns = [] := by
      rcases hdat with h | ⟨g, h, _⟩
      · exact h
      · cases h
    have hk : k1 = 0 := hk0 _ _ rfl
    subst hk
    subst hns
    simp only [List.length_nil] at hwa TB ⊢
    have hR1 := ((RB.out.alloc (.cells #[] 37)).drew 1)
    have h0 := hR1.cell 0
    have h1 := hR1.cell 1
    have i0 := hR1.frozen 0
    have i1 := hR1.frozen 1
    have hRZ := ((RB.out.set 0 (.slice (some ⟨w.heap.size + 2, 0, none⟩) 0 0)).set 1 (.int .i64 next)).alloc (.cells #[] 37)
    have z0 := hRZ.cell 0
    have z1 := hRZ.cell 1
    have HOW := Lib.hid hown
    simp at c0 c1 d0 d1 e0 e1 r0 r1 h0 h1 z0 z1
    have HH := Lib.hid (And.intro h0 (And.intro h1 (And.intro i0 (And.intro i1 (And.intro z0 z1)))))
    clear hdat ba bb hown hRZ hR1 h0 h1 i0 i1 z0 z1 hk0
    go_enter Tryz.func60, Tryz.ntmps60
    go_wp2
    go_region_law (refine step_append_own_none _ (by rfl) _ _ _ (by rfl) (w.heap.size + 2) 37 j0 6 Tryz.underlying24 ji _ 0 [] (by rfl) HOW.out (by rfl) ?_)
    all_goals
      go_wp2
      refine bodyPost_ret (v := .agg #[.slice (some ⟨w.heap.size + 2, 0, none⟩) 0 0, .int .i64 next]) ?_ rfl ⟨.slice (some ⟨w.heap.size + 2, 0, none⟩) 0 0, rfl, ?_, ?_⟩
      · obtain ⟨h0, h1, i0, i1, z0, z1⟩ := HH.out
        simp [results, Tryz.results60, go_sem, h0, h1, i0, i1, z0, z1]
      · have hh : NRow ((((wb.setCell ⟨w.heap.size + 1, 0, none⟩ (.slice (some ⟨w.heap.size + 2, 0, none⟩) 0 0)).setCell ⟨w.heap.size + 1, 1, none⟩ (.int .i64 next)).alloc (.cells #[] 37)).drew) (w.heap.size + 2) (.slice (some ⟨w.heap.size + 2, 0, none⟩) 0 0) [] := by
          have h := World.ownsRow_lit (base := w.heap.size + 2) (e := 37) (size := 6) ((wb.setCell ⟨w.heap.size + 1, 0, none⟩ (.slice (some ⟨w.heap.size + 2, 0, none⟩) 0 0)).setCell ⟨w.heap.size + 1, 1, none⟩ (.int .i64 next)) #[] 0 (by simp; omega) (by simp [maxLen]) (by simp)
          have hz : ((wb.setCell ⟨w.heap.size + 1, 0, none⟩ (.slice (some ⟨w.heap.size + 2, 0, none⟩) 0 0)).setCell ⟨w.heap.size + 1, 1, none⟩ (.int .i64 next)).heap.size = w.heap.size + 2 := by simp; omega
          rw [hz] at h
          exact h
        exact owns_base hh (by omega)
      · refine Below.drew (Below.alloc (Below.setCell (Below.setCell HWB.out (by simp) _) (by simp) _) (by simp; omega) _)
  | some x =>
    obtain ⟨g, hxg, hn⟩ : ∃ g, (ns = [] ∨ x = ⟨g, 0, none⟩) ∧ ∀ i (hi : i < ns.length), NdAt w g (i * 6) ns[i] ∧ g < w.heap.size := by
      rcases hdat with h | ⟨g, h, hg, hc⟩
      · exact ⟨0, .inl h, fun i hi => by subst h; simp at hi⟩
      · cases h; exact ⟨g, .inr rfl, fun i hi => ⟨hc i hi, hg⟩⟩
    have HNEW := Lib.hid (show ∀ W, Below w.heap.size w W → ∀ j u, (nodesVals ns)[j]? = some u → W.cell? (x.add j) = some u from fun W hW j u hj => by
      rcases hxg with h | rfl
      · subst h; simp [nodesVals] at hj
      · exact nodes_news (fun i hi => (hn i hi).1.on (hn i hi).2 hW) j u hj)
    have HOW := Lib.hid hown
    have HT := Lib.hid (fun (w1 : World) (hg : (wb.alloc (.cells #[] 37)).drew.grownBy w1 (some (w.heap.size + 2))) => ((TB.out.alloc (.cells #[] 37)).drew 1).grown hg (by intro e; have := Option.some.inj e; omega))
    have HR := Lib.hid (fun (w1 : World) (hg : (wb.alloc (.cells #[] 37)).drew.grownBy w1 (some (w.heap.size + 2))) => ((RB.out.alloc (.cells #[] 37)).drew 1).grown hg (by intro e; have := Option.some.inj e; omega))
    simp at c0 c1 d0 d1 e0 e1 r0 r1
    clear hdat hxg hn ba bb hown
    go_enter Tryz.func60, Tryz.ntmps60
    go_wp2
    go_region_law (refine step_append_own _ (by rfl) _ _ _ (by rfl) (w.heap.size + 2) 37 j0 (.agg #[.string ⟨#[]⟩, .bool false, .int .i64 0, .int .i64 0, .int .i64 0, .string ⟨#[]⟩]) 6 64 Tryz.underlying24 ji jz0 jz1 jz2 rfl (by omega) _ 0 [] (by rfl) HOW.out x ns.length k1 (nodesVals ns) (by rfl) (nodesVals_len ns) (HNEW.out _ ((HWB.out.alloc (by omega) _).drew)) (nodesVals_oneCell ns) (by unfold maxLen; omega) (by omega) (by simp; omega) ?_; intro v1 w1 hown1 hgrow1; (obtain ⟨a2, k2, hv2⟩ := own_slice hown1); subst hv2; (have hT1 := HT.out _ hgrow1); (have hR1 := HR.out _ hgrow1); (have g0 := hT1.cell 0); (have g1 := hT1.cell 1); (have h0 := hR1.cell 0); (have h1 := hR1.cell 1); (have i0 := hR1.frozen 0); (have i1 := hR1.frozen 1); simp at g0 g1 h0 h1)
    all_goals
      go_wp2
      refine bodyPost_ret (v := .agg #[.slice a2 ns.length k2, .int .i64 next]) ?_ rfl ⟨.slice a2 ns.length k2, rfl, ?_, ?_⟩
      · simp [results, Tryz.results60, go_sem, h0, h1, i0, i1]
      · have hh : NRow w1 (w.heap.size + 2) (.slice a2 ns.length k2) ns := by
          have h2 := hown1
          rw [List.nil_append] at h2
          have e : 0 + ns.length = ns.length := by omega
          rw [e] at h2
          exact h2
        exact owns_base ((hh.other _ _ (by simp)).other _ _ (by simp)) (by omega)
      · iterate 2 (refine Below.setCell ?_ (by simp <;> omega) _)
        exact ((HWB.out.alloc (by omega) _).drew).grown hgrow1 (by first | omega | (simp; omega)) (fun j e => by have : w.heap.size + 2 = j := Option.some.inj e; omega)
end Go.Proofs.YtipedabppgbfcaaGreatDoor
