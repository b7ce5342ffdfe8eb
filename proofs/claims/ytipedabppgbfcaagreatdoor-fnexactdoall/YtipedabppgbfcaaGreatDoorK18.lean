/- The contract of spec.l07Put: a tree with a node more, at its place. The tree that is worked on, told as a tree: the contract of its method tree. -/
import Derived.Test.YtipedabppgbfcaaGreatDoorK6
import Derived.Test.YtipedabppgbfcaaGreatDoorK17
import Derived.Deep.RegionLaw
import Derived.Deep.AppendLies
import Derived.Deep.DeepCutAuto
set_option linter.all false
namespace Go.Proofs.YtipedabppgbfcaaGreatDoor
open Go.RowKit

theorem putN_last {n : Nd} : ∀ {l : List Nd}, (∀ m ∈ l, lessB n.path m.path = false) → putN n l = l ++ [n]
  | [], _ => rfl
  | m :: r, h => by
    unfold putN
    rw [h m (by simp), if_neg (by decide), putN_last (fun x hx => h x (by simp [hx]))]; rfl
theorem putN_here {n m : Nd} : ∀ {l : List Nd}, (∀ x ∈ l, lessB n.path x.path = false) → lessB n.path m.path = true → putN n (l ++ [m]) = l ++ [n, m]
  | [], _, h => by simp [putN, h]
  | x :: r, h1, h2 => by
    rw [List.cons_append, putN, h1 x (by simp), if_neg (by decide), putN_here (fun y hy => h1 y (by simp [hy])) h2]; rfl
theorem putN_more {n m : Nd} : ∀ {l : List Nd}, (∃ x ∈ l, lessB n.path x.path = true) → putN n (l ++ [m]) = putN n l ++ [m]
  | [], h => by obtain ⟨x, hx, _⟩ := h; cases hx
  | x :: r, h => by
    rw [List.cons_append, putN, putN]
    cases hx : lessB n.path x.path with
    | true => simp
    | false =>
      simp only [Bool.false_eq_true, if_false]
      rw [putN_more (by
        obtain ⟨y, hy, h2⟩ := h
        rcases List.mem_cons.1 hy with rfl | hy
        · rw [hx] at h2; cases h2
        · exact ⟨y, hy, h2⟩)]; rfl
theorem NRow.nocap {w : World} {B : Nat} {v : Value} {ns : List Nd} (h : NRow w B v ns) : ∀ n c, v = .slice none n c → c = 0 := by
  intro n c e
  rcases h.2 with ⟨h, _⟩ | ⟨g', cap, cur, h, _⟩
  · rw [h] at e; cases e; rfl
  · rw [h] at e; cases e
theorem NRow.ne {w : World} {B : Nat} {v : Value} {ns : List Nd} (h : NRow w B v ns) (a : Addr) (u : Value) (ha : v.ownBlock ≠ some a.block) : NRow (w.setCell a u) B v ns := by
  refine ⟨h.1, ?_⟩
  rcases h.2 with h | ⟨g, cap, cur, hv, hb, hg, rest⟩
  · exact .inl h
  · subst hv
    exact .inr ⟨g, cap, cur, rfl, hb, (Below.heap_setCell w a u g (fun e => ha (by rw [← e]; rfl))).trans hg, rest⟩
theorem cell_six_new (w : World) (n : Nd) (t : TypeId) : ∀ j u, (nodeVals n)[j]? = some u → (w.alloc (.cells #[.string (strOf n.path), .bool n.dir, .int .i64 n.mode, .int .i64 n.time, .int .i64 n.id, .string (strOf n.data)] t)).cell? ((⟨w.heap.size, 0, none⟩ : Addr).add j) = some u := fun j u hj => by
  have h := (Blk.new w #[.string (strOf n.path), .bool n.dir, .int .i64 n.mode, .int .i64 n.time, .int .i64 n.id, .string (strOf n.data)] t).cell j
  rw [show (⟨w.heap.size, 0, none⟩ : Addr).add j = ⟨w.heap.size, j, none⟩ by unfold Addr.add; split <;> simp_all, h, ← hj]
  match j with
  | 0 => rfl
  | 1 => rfl
  | 2 => rfl
  | 3 => rfl
  | 4 => rfl
  | 5 => rfl
  | j + 6 => simp [nodeVals]
theorem nodeVals_one (n : Nd) : ∀ u ∈ nodeVals n, u.oneCell' = true := by
  intro u hu
  simp only [nodeVals, List.mem_cons, List.not_mem_nil, or_false] at hu
  rcases hu with rfl | rfl | rfl | rfl | rfl | rfl <;> rfl
theorem ownsN_push {w w' : World} {B : Nat} {e : TypeId} {size : Nat} {v : Value} {n : Nat} {xs : List Value} {o : Obj} (h : w.ownsRow B e size v n xs) (hw : (w.alloc o).heap = w'.heap) : w'.ownsRow B e size v n xs := by
  have h2 := h.alloc o
  unfold World.ownsRow at *
  rw [← hw]; exact h2
/-- How far a node more has come. -/
def PutAt (n : Nd) (ns : List Nd) (k : Nat) (done : Bool) (acc : List Nd) : Prop :=
  (done = false ∧ acc = ns.take k ∧ ∀ m ∈ ns.take k, lessB n.path m.path = false) ∨ (done = true ∧ acc = putN n (ns.take k) ∧ ∃ x ∈ ns.take k, lessB n.path x.path = true)

theorem putAt_next {n md : Nd} {ns acc : List Nd} {k : Nat} {d : Bool} (h : PutAt n ns k d acc) (ht : ns.take (k + 1) = ns.take k ++ [md]) (hl : (!d && lessB n.path md.path) = false) : PutAt n ns (k + 1) d (acc ++ [md]) := by
  rcases h with ⟨rfl, rfl, hno⟩ | ⟨rfl, rfl, hx⟩
  · refine .inl ⟨rfl, ht.symm, fun m hm => ?_⟩
    rw [ht] at hm
    rcases List.mem_append.1 hm with hm | hm
    · exact hno m hm
    · simp at hm; subst hm; simpa using hl
  · refine .inr ⟨rfl, by rw [ht, putN_more hx], ?_⟩
    obtain ⟨x, hx, h2⟩ := hx
    exact ⟨x, by rw [ht]; simp [hx], h2⟩
theorem putAt_here {n md : Nd} {ns acc : List Nd} {k : Nat} (h : PutAt n ns k false acc) (ht : ns.take (k + 1) = ns.take k ++ [md]) (hl : lessB n.path md.path = true) : PutAt n ns (k + 1) true (acc ++ [n] ++ [md]) := by
  rcases h with ⟨_, rfl, hno⟩ | ⟨h, _⟩
  · exact .inr ⟨rfl, by rw [ht, putN_here hno hl]; simp, md, by rw [ht]; simp, hl⟩
  · cases h
theorem putAt_end {n : Nd} {ns acc : List Nd} {k : Nat} {d : Bool} (h : PutAt n ns k d acc) (hk : ns.length ≤ k) : putN n ns = if d then acc else acc ++ [n] := by
  rcases h with ⟨rfl, rfl, hno⟩ | ⟨rfl, rfl, hx⟩
  · rw [List.take_of_length_le hk] at hno ⊢
    exact putN_last hno
  · rw [List.take_of_length_le hk]; rfl
theorem putAt_len {n : Nd} {ns acc : List Nd} {k : Nat} (h : PutAt n ns k false acc) : acc.length ≤ k := by
  rcases h with ⟨_, rfl, _⟩ | ⟨h, _⟩
  · simp; omega
  · cases h

set_option maxRecDepth 100000 in
set_option maxHeartbeats 8000000 in
theorem specPut (w : World) (v : Value) (ns : List Nd) (next : Int) (nd : Nd) (h : NRd w v ns) (hl : ns.length ≤ 1048576) (hp : nd.path.length ≤ 2000000) (hz : ∀ n ∈ ns, n.path.length ≤ 2000000) :
    Calls Tryz.prog 142 #[.agg #[v, .int .i64 next], .agg #[.string (strOf nd.path), .bool nd.dir, .int .i64 nd.mode, .int .i64 nd.time, .int .i64 nd.id, .string (strOf nd.data)]] w fun e w' => ∃ v', e = .returned (.agg #[v', .int .i64 next]) ∧ NRow w' w.heap.size v' (putN nd ns) ∧ Below w.heap.size w w' := by
  obtain ⟨j0, ji, jz0, jz1, jz2⟩ := info_parts infoN
  obtain ⟨a1, k1, rfl⟩ : ∃ a c, v = .slice a ns.length c := by obtain ⟨a, c, h, _⟩ := h; exact ⟨a, c, h⟩
  obtain ⟨wa, hwa⟩ : ∃ wa, w.alloc (.cells #[.slice a1 ns.length k1, .int .i64 next] 26) = wa := ⟨_, rfl⟩
  obtain ⟨wb, hwb⟩ : ∃ wb, wa.alloc (.cells #[.string (strOf nd.path), .bool nd.dir, .int .i64 nd.mode, .int .i64 nd.time, .int .i64 nd.id, .string (strOf nd.data)] 37) = wb := ⟨_, rfl⟩
  obtain ⟨wq, hwc⟩ : ∃ wq, wb.alloc (.cells #[.slice none 0 0, .int .i64 0] 26) = wq := ⟨_, rfl⟩
  obtain ⟨wd, hwd⟩ : ∃ wd, wq.alloc (.cells #[.slice none 0 0, .int .i64 next] 26) = wd := ⟨_, rfl⟩
  have hsa : wa.heap.size = w.heap.size + 1 := by rw [← hwa]; simp
  have hsb : wb.heap.size = w.heap.size + 2 := by rw [← hwb]; simp [hsa]
  have hsc : wq.heap.size = w.heap.size + 3 := by rw [← hwc]; simp [hsb]
  have hsd : wd.heap.size = w.heap.size + 4 := by rw [← hwd]; simp [hsc]
  have ba : Below w.heap.size w wa := by rw [← hwa]; exact (Below.refl _ _).alloc (Nat.le_refl _) _
  have bb : Below wa.heap.size wa wb := by rw [← hwb]; exact (Below.refl _ _).alloc (Nat.le_refl _) _
  have bc : Below wb.heap.size wb wq := by rw [← hwc]; exact (Below.refl _ _).alloc (Nat.le_refl _) _
  have bd : Below wq.heap.size wq wd := by rw [← hwd]; exact (Below.refl _ _).alloc (Nat.le_refl _) _
  have T1 : Blk wa w.heap.size #[.slice a1 ns.length k1, .int .i64 next] 26 := by rw [← hwa]; exact Blk.new _ _ _
  have N1 : Blk wb (w.heap.size + 1) #[.string (strOf nd.path), .bool nd.dir, .int .i64 nd.mode, .int .i64 nd.time, .int .i64 nd.id, .string (strOf nd.data)] 37 := by rw [← hwb, ← hsa]; exact Blk.new _ _ _
  have R1 : Blk wq (w.heap.size + 2) #[.slice none 0 0, .int .i64 0] 26 := by rw [← hwc, ← hsb]; exact Blk.new _ _ _
  have O1 := Lib.hid (show Blk wd (w.heap.size + 3) #[.slice none 0 0, .int .i64 next] 26 by rw [← hwd, ← hsc]; exact Blk.new _ _ _)
  have TC := Lib.hid ((T1.on bb).on bc)
  have NC := Lib.hid (N1.on bc)
  have RC := Lib.hid R1
  have HWC := Lib.hid ((ba.trans (bb.mono (by omega))).trans (bc.mono (by omega)))
  have HBD := Lib.hid (show Below (w.heap.size + 3) wq wd from bd.mono (by omega))
  have HN0 := Lib.hid h
  have HZ := Lib.hid hz
  have t0 := (T1).cell 0
  have t1 := (T1).cell 1
  have u0 := (T1.on bb).cell 0
  have u1 := (T1.on bb).cell 1
  have v0 := ((T1.on bb).on bc).cell 0
  have v1 := ((T1.on bb).on bc).cell 1
  simp at t0 t1 u0 u1 v0 v1
  clear h hz ba bb bc bd T1 N1 R1
  go_enter Tryz.func142, Tryz.ntmps142
  go_wp2
  go_loopw [6, 7] (fun dv i W => ∃ (k : Nat) (d : Bool) (acc : List Nd) (v : Value), k ≤ ns.length ∧ i = .int .i64 k ∧ dv = .bool d ∧ Hid (PutAt nd ns k d acc) ∧ Blk W (w.heap.size + 3) #[v, .int .i64 next] 26 ∧ NRow W (w.heap.size + 4) v acc ∧ acc.length ≤ k + 1 ∧ Below (w.heap.size + 3) wq W ∧ w.heap.size + 4 ≤ W.heap.size) (fun _ i _ => ns.length - (intOf i).toNat)
  case atStart => exact ⟨0, false, [], _, Nat.zero_le _, rfl, rfl, Lib.hid (.inl ⟨rfl, by simp, by simp⟩), O1.out, NRow.nil _ _, by simp, HBD.out, by omega⟩
  case round =>
    obtain ⟨k, d, acc, v, hk, rfl, rfl, HP, hO, hR, hal, hb, hsz⟩ := hrel
    obtain ⟨a2, k2, rfl⟩ := hR.shape
    have HO := Lib.hid hO
    have HR := Lib.hid hR
    have HB := Lib.hid hb
    have TW := Lib.hid (TC.out.below hb (by omega))
    have NW := Lib.hid (NC.out.below hb (by omega))
    have RW := Lib.hid (RC.out.below hb (by omega))
    have HW := Lib.hid (HWC.out.trans (hb.mono (by omega)))
    have c0 := TW.out.cell 0
    have c1 := TW.out.cell 1
    have o0 := HO.out.cell 0
    have o1 := HO.out.cell 1
    have n0 := NW.out.cell 0
    have n1 := NW.out.cell 1
    have n2 := NW.out.cell 2
    have n3 := NW.out.cell 3
    have n4 := NW.out.cell 4
    have n5 := NW.out.cell 5
    simp at c0 c1 o0 o1 n0 n1 n2 n3 n4 n5
    clear hO hR hb
    by_cases hlt : k < ns.length
    rotate_left
    · have hki : ¬ (k : Int) < (ns.length : Int) := by omega
      have r0 := RW.out.cell 0
      have r1 := RW.out.cell 1
      have g0 := RW.out.frozen 0
      have g1 := RW.out.frozen 1
      simp at r0 r1
      have HE := Lib.hid (putAt_end HP.out (by omega))
      cases d with
      | true =>
        go_wp2
        refine bodyPost_ret (v := .agg #[.slice a2 acc.length k2, .int .i64 next]) ?_ rfl ⟨_, rfl, ?_, ?_⟩
        · simp [results, Tryz.results142, go_sem, r0, r1, o0, o1]
        · rw [HE.out]
          refine NRow.base (B := w.heap.size + 4) ?_ (by omega)
          iterate 2 (refine NRow.other ?_ _ _ (by simp))
          exact HR.out
        · iterate 2 (refine Below.setCell ?_ (by simp <;> omega) _)
          exact HW.out
      | false =>
        have halk := putAt_len HP.out
        go_wp2_with (at_builtin; refine wpList_append_own _ rfl _ _ 24 rfl (w.heap.size + 4) 37 j0 (.agg #[.string ⟨#[]⟩, .bool false, .int .i64 0, .int .i64 0, .int .i64 0, .string ⟨#[]⟩]) 6 64 Tryz.underlying24 ji jz0 jz1 jz2 rfl (by decide) _ _ _ rfl (HR.out.own.alloc _) ⟨wr.heap.size, 0, none⟩ 1 1 (nodeVals nd) rfl rfl (cell_six_new _ _ _) (nodeVals_one _) (by unfold maxLen; omega) (by omega) (by simp; omega) ?_; intro v' w1 hown' hgrow _; (have hR5 := NRow.snoc hown'); (obtain ⟨a5, k5, rfl⟩ := hR5.shape); (have hO5 := (HO.out.alloc _).grown hgrow (by intro e; have := (World.ownsRow.lt (HR.out.own) _ e.symm).1; omega)); (have hR6 := (RW.out.alloc _).grown hgrow (by intro e; have := (World.ownsRow.lt (HR.out.own) _ e.symm).1; omega)); (have o5 := hO5.cell 0); (have p5 := hO5.frozen 0); (have o6 := hO5.cell 1); (have r5 := hR6.cell 0); (have r6 := hR6.cell 1); (have r7 := hR6.frozen 0); (have r8 := hR6.frozen 1); simp at o5 o6 r5 r6)
        have hb5 : Below (w.heap.size + 3) wq w1 := (HB.out.alloc (by omega) _).grown hgrow (by first | omega | (simp; omega)) (fun j e => by have := (World.ownsRow.lt HR.out.own j e).1; omega)
        have HW5 := Lib.hid (HWC.out.trans (hb5.mono (by omega)))
        have HR5 := Lib.hid hR5
        clear hb5 hR5 hown'
        refine bodyPost_ret (v := .agg #[.slice a5 (acc.length + 1) k5, .int .i64 next]) ?_ rfl ⟨_, rfl, ?_, ?_⟩
        · simp [results, Tryz.results142, go_sem, o5, o6, r5, r6]
        · have h5 := HR5.out
          rw [show (acc ++ [nd]).length = acc.length + 1 by simp] at h5
          rw [HE.out, if_neg (by decide)]
          refine NRow.base (B := w.heap.size + 4) ?_ (by omega)
          iterate 3 (refine NRow.other ?_ _ _ (by simp))
          exact h5
        · iterate 3 (refine Below.setCell ?_ (by simp <;> omega) _)
          exact HW5.out
    have hki : (k : Int) < (ns.length : Int) := by omega
    obtain ⟨g, cap, hs, hg, hlc, hcm, hc⟩ := HN0.out.at (by intro e; subst e; simp at hlt)
    simp only [Value.slice.injEq] at hs
    obtain ⟨rfl, _, rfl⟩ := hs
    unfold maxLen at hcm
    have hzk := HZ.out ns[k] (List.getElem_mem hlt)
    have HTK := Lib.hid (List.take_succ_eq_append_getElem hlt)
    have hck := (hc k hlt).on hg HW.out
    have HC0 := Lib.hid (hc k hlt)
    obtain ⟨md, hmd⟩ : ∃ md, ns[k] = md := ⟨_, rfl⟩
    rw [hmd] at hck hzk HTK HC0
    have HCK := Lib.hid hck
    have HMD := Lib.hid hmd
    have hgW : g < wr.heap.size := Nat.lt_of_lt_of_le hg HW.out.size
    have s0 := fun q os => (TW.out.on (below_regrown wr q os)).cell 0
    have s1 := fun q os => (NW.out.on (below_regrown wr q os)).cell 0
    have s2 := fun q os => (hck.on hgW (below_regrown wr q os)).c0
    simp at s0 s1
    have K := Lib.hid (show ∀ q os, Calls Tryz.prog 65 #[.string (strOf nd.path), .string (strOf md.path)] (Sort.grow (redrawn wr q) os) fun e w'' => e = .returned (.bool (lessB nd.path md.path)) ∧ ∃ p : Regrown, w'' = Sort.grow (redrawn wr p.d) p.os from fun q os => Calls.regrown_of (specBeforeB nd.path md.path _ hp hzk))
    have HLB := Lib.hid (show lessB nd.path md.path = lessB nd.path md.path from rfl)
    obtain ⟨lb, hlb⟩ : ∃ lb, lessB nd.path md.path = lb := ⟨_, rfl⟩
    rw [hlb] at K
    have HLE := Lib.hid hlb
    clear hc hmd hck hlb HLB
    go_upto_region 6 with fail
    go_cut [30] (fun c V => c = .bool (!d && lb) ∧ Below wr.heap.size wr V)
    case first =>
      cases d with
      | true =>
        refine wp_region_quiet_below (by kernel_rfl) (by kernel_rfl) ?_
        repeat (go_big_quiet_step (exact K.out _ _))
        refine wpQuiet_nil ?_
        intro w6 hw6
        obtain ⟨r, rfl⟩ := hw6
        go_wp2
        go_meet
        exact ⟨rfl, below_regrown wr r.d r.os⟩
      | false =>
        refine wp_region_quiet_below (by kernel_rfl) (by kernel_rfl) ?_
        repeat (go_big_quiet_step (exact K.out _ _))
        refine wpQuiet_nil ?_
        intro w6 hw6
        obtain ⟨r, rfl⟩ := hw6
        go_wp2
        go_meet
        exact ⟨by cases lb <;> rfl, below_regrown wr r.d r.os⟩
    case rest =>
      obtain ⟨rfl, hb2⟩ := hcut
      have HO2 := Lib.hid (HO.out.on hb2)
      have HR2 := Lib.hid (HR.out.on hb2)
      have HB2 := Lib.hid (HB.out.trans (hb2.mono (by omega)))
      have NW2 := Lib.hid (NW.out.on hb2)
      have hs2 := hb2.size
      clear hb2 c0 c1 o0 o1 n0 n1 n2 n3 n4 n5 s0 s1 s2
      go_upto_if 30 with fail
      go_cut [6] (fun dv V => ∃ (d' : Bool) (acc' : List Nd) (v' : Value), dv = .bool d' ∧ Hid (PutAt nd ns (k + 1) d' (acc' ++ [md])) ∧ Blk V (w.heap.size + 3) #[v', .int .i64 next] 26 ∧ NRow V (w.heap.size + 4) v' acc' ∧ acc'.length ≤ k + 1 ∧ Below (w.heap.size + 3) wq V ∧ w.heap.size + 4 ≤ V.heap.size)
      case first =>
        cases hcb : (!d && lb) with
        | true =>
          have hdl : d = false ∧ lb = true := by cases d <;> cases lb <;> simp_all
          obtain ⟨rfl, rfl⟩ := hdl
          have halk := putAt_len HP.out
          have HPN := Lib.hid (putAt_here HP.out HTK.out HLE.out)
          have o0 := HO2.out.cell 0
          have n0 := NW2.out.cell 0
          have n1 := NW2.out.cell 1
          have n2 := NW2.out.cell 2
          have n3 := NW2.out.cell 3
          have n4 := NW2.out.cell 4
          have n5 := NW2.out.cell 5
          simp at o0 n0 n1 n2 n3 n4 n5
          go_wp2_with (at_builtin; refine wpList_append_own _ rfl _ _ 24 rfl (w.heap.size + 4) 37 j0 (.agg #[.string ⟨#[]⟩, .bool false, .int .i64 0, .int .i64 0, .int .i64 0, .string ⟨#[]⟩]) 6 64 Tryz.underlying24 ji jz0 jz1 jz2 rfl (by decide) _ _ _ rfl (HR2.out.own.alloc _) ⟨wc.heap.size, 0, none⟩ 1 1 (nodeVals nd) rfl rfl (cell_six_new _ _ _) (nodeVals_one _) (by unfold maxLen; omega) (by omega) (by simp; omega) ?_; intro v' w1 hown' hgrow _; (have hR5 := NRow.snoc hown'); (obtain ⟨a5, k5, rfl⟩ := hR5.shape); (have hO5 := (HO2.out.alloc _).grown hgrow (by intro e; have := (World.ownsRow.lt (HR2.out.own) _ e.symm).1; omega)); (have o5 := hO5.cell 0); (have p5 := hO5.frozen 0); simp at o5)
          go_meet
          have hB5 : Below (w.heap.size + 3) wq w1 := (HB2.out.alloc (by omega) _).grown hgrow (by first | omega | (simp; omega)) (fun j e => by have := (World.ownsRow.lt HR2.out.own j e).1; omega)
          have hs5 := hgrow.size
          simp only [World.size_alloc] at hs5
          have hR6 : NRow w1 (w.heap.size + 4) (.slice a5 (acc.length + 1) k5) (acc ++ [nd]) := by
            rw [show (acc ++ [nd]).length = acc.length + 1 by simp] at hR5; exact hR5
          exact ⟨true, acc ++ [nd], _, rfl, HPN, hO5.set 0 _, hR6.other _ _ (show w.heap.size + 3 < w.heap.size + 4 by omega), by simp; omega, hB5.setCell (Nat.le_refl (w.heap.size + 3)) _, by simp; omega⟩
        | false =>
          have HPN := Lib.hid (putAt_next HP.out HTK.out (by rw [HLE.out]; exact hcb))
          go_wp2
          go_meet
          exact ⟨d, acc, _, rfl, HPN, HO2.out, HR2.out, hal, HB2.out, by omega⟩
      case rest =>
        obtain ⟨d', acc', v', rfl, HP', hO', hR', hal', hb', hsz'⟩ := hcut
        obtain ⟨a6, k6, rfl⟩ := hR'.shape
        have HB6 := Lib.hid hb'
        have HO6 := Lib.hid hO'
        have HR6 := Lib.hid hR'
        have HW6 := Lib.hid (HWC.out.trans (hb'.mono (by omega)))
        have t0 := (TC.out.below hb' (by omega)).cell 0
        have o0 := hO'.cell 0
        obtain ⟨e0, e1, e2, e3, e4, e5⟩ := HC0.out.on hg HW6.out
        simp at t0 o0
        clear hO' hR' hb'
        have o1 := HO6.out.cell 1
        simp at o1
        have oA : (wc.alloc (.cells #[.string (strOf md.path), .bool md.dir, .int .i64 md.mode, .int .i64 md.time, .int .i64 md.id, .string (strOf md.data)] 37)).cell? ⟨w.heap.size + 3, 0, none⟩ = some (.slice a6 acc'.length k6) := (HO6.out.alloc _).cell 0
        have HO7 := Lib.hid (fun (o : Obj) (w1 : World) (hg : (wc.alloc o).drew.grownBy w1 (Value.ownBlock (.slice a6 acc'.length k6))) => ((HO6.out.alloc o).drew 1).grown hg (by intro e; have := (World.ownsRow.lt (HR6.out.own) _ e.symm).1; omega))
        go_wp2
        go_region_law (refine step_append_lies _ (by rfl) _ _ _ (by rfl) (w.heap.size + 4) 37 j0 (.agg #[.string ⟨#[]⟩, .bool false, .int .i64 0, .int .i64 0, .int .i64 0, .string ⟨#[]⟩]) 6 64 Tryz.underlying24 ji jz0 jz1 jz2 rfl (by omega) _ acc'.length (nodesVals acc') (by rfl) (ownsN_push HR6.out.own (by rfl)) ⟨wc.heap.size, 0, none⟩ 1 1 (nodeVals md) (by rfl) (by rfl) (cell_six_new _ _ _) (nodeVals_one _) (by omega) (by unfold maxLen; omega) (by omega) (by simp; omega) (wc.heap.size + 1) (by simp) ?_; intro g1 cap1 w1 hown1 hgrow1 hat1 hlt1; (have hO8 := HO7.out _ _ hgrow1); (have o8 := hO8.cell 0); (have p8 := hO8.frozen 0); simp at o8)
        all_goals
          go_wp2
          go_roundw
          case rel =>
            have hB5 : Below (w.heap.size + 3) wq w1 := (HB6.out.alloc (by omega) _).drew.grown hgrow1 (by first | omega | (simp; omega)) (fun j e => by have := (World.ownsRow.lt HR6.out.own j e).1; omega)
            have hs5 := hgrow1.size
            simp at hs5
            exact ⟨k + 1, d', acc' ++ [md], _, by omega, by go_num, rfl, HP', hO8.set 0 _, (NRow.snoc hown1).other _ _ (show w.heap.size + 3 < w.heap.size + 4 by omega), by simp; omega, hB5.setCell (Nat.le_refl (w.heap.size + 3)) _, by simp; omega⟩
          case measure => simp [intOf]; omega
end Go.Proofs.YtipedabppgbfcaaGreatDoor
namespace Go.Proofs.YtipedabppgbfcaaGreatDoor
open Go.RowKit
variable {R : World}

set_option maxRecDepth 100000 in
set_option maxHeartbeats 4000000 in
theorem wkTree (w : World) (B p : Nat) (v : Value) (ps : List (Nat × Nd)) (next : Int) (h : Work R w B p v ps next) (hlen : ps.length ≤ 60) :
    Calls Tryz.prog 75 #[.pointer (some ⟨p, 0, none⟩)] w fun e w' => ∃ v', e = .returned (.agg #[v', .int .i64 next]) ∧ NRow w' w.heap.size v' (nds ps) ∧ Below w.heap.size w w' := by
  obtain ⟨j0, ji, jz0, jz1, jz2⟩ := info_parts infoN
  obtain ⟨wa, hwa⟩ : ∃ wa, w.alloc (.cells #[.slice none 0 0, .int .i64 0] 26) = wa := ⟨_, rfl⟩
  obtain ⟨wb, hwb⟩ : ∃ wb, wa.alloc (.cells #[.slice none 0 0, .int .i64 next] 26) = wb := ⟨_, rfl⟩
  have hsa : wa.heap.size = w.heap.size + 1 := by rw [← hwa]; simp
  have hsb : wb.heap.size = w.heap.size + 2 := by rw [← hwb]; simp [hsa]
  have ba : Below w.heap.size w wa := by rw [← hwa]; exact (Below.refl _ _).alloc (Nat.le_refl _) _
  have bb : Below wa.heap.size wa wb := by rw [← hwb]; exact (Below.refl _ _).alloc (Nat.le_refl _) _
  have R0 := Lib.hid (show Blk wb w.heap.size #[.slice none 0 0, .int .i64 0] 26 from (show Blk wa w.heap.size _ 26 by rw [← hwa]; exact Blk.new _ _ _).on bb)
  have O0 := Lib.hid (show Blk wb (w.heap.size + 1) #[.slice none 0 0, .int .i64 next] 26 by rw [← hwb, ← hsa]; exact Blk.new _ _ _)
  have HB0 := Lib.hid (ba.trans (bb.mono (by omega)))
  have HW := Lib.hid (h.on HB0.out)
  have p0 := (h.top.on ba).cell 0
  have p1 := (h.top.on ba).cell 1
  have q0 := HW.out.top.cell 0
  simp at p0 p1 q0
  have HW0 := Lib.hid h
  obtain ⟨a, cap, rfl⟩ := h.shape
  have HL := Lib.hid (show (nds ps).length = ps.length by simp [nds])
  clear h ba bb
  go_enter Tryz.func75, Tryz.ntmps75
  go_wp2
  go_loopw [16] (fun iv W => ∃ (k : Nat) (v : Value), k ≤ ps.length ∧ iv = .int .i64 k ∧ Blk W (w.heap.size + 1) #[v, .int .i64 next] 26 ∧ NRow W (w.heap.size + 2) v ((nds ps).take k) ∧ Below (w.heap.size + 1) wb W ∧ w.heap.size + 2 ≤ W.heap.size) (fun iv _ => ps.length - (intOf iv).toNat)
  case atStart => exact ⟨0, _, Nat.zero_le _, rfl, O0.out, NRow.nil _ _, Below.refl _ _, by omega⟩
  case round =>
    obtain ⟨k, v, hk, rfl, hO, hR, hb, hsz⟩ := hrel
    obtain ⟨a2, k2, rfl⟩ := hR.shape
    have htk : ((nds ps).take k).length = k := by rw [List.length_take, HL.out]; omega
    rw [htk] at hO hR
    have HO := Lib.hid hO
    have HR := Lib.hid hR
    have HB := Lib.hid hb
    have HBW := Lib.hid (HB0.out.trans (hb.mono (by omega)))
    have RW := Lib.hid (R0.out.below hb (by omega))
    have o0 := hO.cell 0
    have o1 := hO.cell 1
    simp at o0 o1
    clear hO hR hb
    by_cases hlt : k < ps.length
    rotate_left
    · have hki : ¬ (k : Int) < (ps.length : Int) := by omega
      have r0 := RW.out.cell 0
      have r1 := RW.out.cell 1
      have g0 := RW.out.frozen 0
      have g1 := RW.out.frozen 1
      simp at r0 r1
      have HE := Lib.hid (show (nds ps).take k = nds ps from List.take_of_length_le (by rw [HL.out]; omega))
      go_wp2
      refine bodyPost_ret (v := .agg #[.slice a2 k k2, .int .i64 next]) ?_ rfl ⟨_, rfl, ?_, ?_⟩
      · simp [results, Tryz.results75, go_sem, r0, r1]
      · have hh := HR.out
        rw [HE.out] at hh
        refine NRow.base (B := w.heap.size + 2) ?_ (by omega)
        iterate 2 (refine NRow.other ?_ _ _ (by simp))
        exact hh
      · iterate 2 (refine Below.setCell ?_ (by simp) _)
        exact HBW.out
    have hki : (k : Int) < (ps.length : Int) := by omega
    have HWW := Lib.hid (HW0.out.on HBW.out)
    obtain ⟨g, c2, hs, hc⟩ := HWW.out.at hlt
    simp only [Value.slice.injEq] at hs
    obtain ⟨rfl, _, rfl⟩ := hs
    have hn := (HWW.out.node _ (List.getElem_mem hlt)).2
    have HTK := Lib.hid (List.take_succ_eq_append_getElem (l := nds ps) (i := k) (by rw [HL.out]; exact hlt))
    have HA := Lib.hid (nds_at ps k (by rw [HL.out]; exact hlt))
    generalize hq : ps[k] = q at hc hn
    have HQ := Lib.hid hq
    obtain ⟨b, nd⟩ := q
    have HN := Lib.hid hn
    clear hq hn q0 p0 p1
    cases hd : nd.dir with
    | true =>
      rw [wkVal_dir hd] at hc
      have CN := Lib.hid (fun W (hb : Below wr.heap.size wr W) => wkNodeD b nd W (HN.out.on hb) hd)
      have n1 := fun W => nil_folder "loop.example/g00704/impl.node" b W (.inr rfl)
      have m1 := fun W => node_folder b W
      clear hd
      go_wp2_with fail
      go_region_law (first
        | (refine step_append_lies _ (by rfl) _ _ _ (by rfl) (w.heap.size + 2) 37 j0 (.agg #[.string ⟨#[]⟩, .bool false, .int .i64 0, .int .i64 0, .int .i64 0, .string ⟨#[]⟩]) 6 64 Tryz.underlying24 ji jz0 jz1 jz2 rfl (by omega) _ k (nodesVals ((nds ps).take k)) (by rfl) (ownsN_push HR1.out (by rfl)) ⟨W1.heap.size, 0, none⟩ 1 1 (nodeVals nd) (by rfl) (by rfl) (cell_six_new _ _ _) (nodeVals_one _) (by omega) (by unfold maxLen; omega) (by omega) (by simp; omega) (W1.heap.size + 1) (by simp) ?_; intro g1 cap1 w1 hown1 hgrow1 hat1 hlt1; (have hO8 := HO7.out _ _ hgrow1); (have o8 := hO8.cell 0); (have p8 := hO8.frozen 0); simp at o8)
        | (go_simp; go_at_call 255; refine (CN.out _ (Below.refl _ _).drew).mono ?_; rintro e W1 ⟨rfl, hb1⟩; (have O1 := Lib.hid ((HO.out.drew 1).on hb1)); (have x0 := O1.out.cell 0); simp at x0; (have xA : (W1.alloc (.cells #[.string (strOf nd.path), .bool nd.dir, .int .i64 nd.mode, .int .i64 nd.time, .int .i64 nd.id, .string (strOf nd.data)] 37)).cell? ⟨w.heap.size + 1, 0, none⟩ = some (.slice a2 k k2) := (O1.out.alloc _).cell 0); (have HR1 := Lib.hid (show W1.ownsRow (w.heap.size + 2) 37 6 (.slice a2 k k2) k (nodesVals ((nds ps).take k)) by have := (HR.out.on (Below.refl _ _).drew).on hb1; unfold NRow at this; rw [htk] at this; exact this)); (have HB1 := Lib.hid hb1); (have hs1 := hb1.size); simp at hs1; (have HO7 := Lib.hid (fun (o : Obj) (w1 : World) (hg : (W1.alloc o).grownBy w1 (Value.ownBlock (.slice a2 k k2))) => (O1.out.alloc o).grown hg (by intro e; have := (World.ownsRow.lt HR1.out _ e.symm).1; omega))); clear hb1))
      all_goals
        have hR8 : NRow w1 (w.heap.size + 2) (.slice (some ⟨g1, 0, none⟩) (k + 1) cap1) ((nds ps).take (k + 1)) := by
          have e : (nds ps).take (k + 1) = (nds ps).take k ++ [nd] := by rw [HTK.out, HA.out, HQ.out]
          rw [e]; unfold NRow; rw [List.length_append, htk, nodesVals_append, nodesVals_one]; exact hown1
        have hB8 : Below (w.heap.size + 1) wb w1 := (((HB.out.drew).trans (HB1.out.mono (by simp; omega))).alloc (by omega) _).grown hgrow1 (by first | omega | (simp; omega)) (fun j e => by have := (World.ownsRow.lt HR1.out j e).1; omega)
        have hs8 := hgrow1.size
        simp only [World.size_alloc] at hs8
        have HR8 := Lib.hid hR8
        have HB8 := Lib.hid hB8
        have HO8 := Lib.hid hO8
        clear hR8 hB8 hO8 hown1 hgrow1
        go_wp2
        go_roundw
        case rel => exact ⟨k + 1, _, by omega, by go_num, HO8.out.set 0 _, HR8.out.other _ _ (show w.heap.size + 1 < w.heap.size + 2 by omega), HB8.out.setCell (Nat.le_refl (w.heap.size + 1)) _, by simp; omega⟩
        case measure => simp [intOf]; omega
    | false =>
      rw [wkVal_file hd] at hc
      have CN := Lib.hid (fun W (hb : Below wr.heap.size wr W) => wkNodeF b nd W (HN.out.on hb) hd)
      have n1 := fun W => nil_file "loop.example/g00704/impl.node" b W (.inr rfl)
      have m1 := fun W => node_file b W
      clear hd
      go_wp2_with fail
      go_region_law (first
        | (refine step_append_lies _ (by rfl) _ _ _ (by rfl) (w.heap.size + 2) 37 j0 (.agg #[.string ⟨#[]⟩, .bool false, .int .i64 0, .int .i64 0, .int .i64 0, .string ⟨#[]⟩]) 6 64 Tryz.underlying24 ji jz0 jz1 jz2 rfl (by omega) _ k (nodesVals ((nds ps).take k)) (by rfl) (ownsN_push HR1.out (by rfl)) ⟨W1.heap.size, 0, none⟩ 1 1 (nodeVals nd) (by rfl) (by rfl) (cell_six_new _ _ _) (nodeVals_one _) (by omega) (by unfold maxLen; omega) (by omega) (by simp; omega) (W1.heap.size + 1) (by simp) ?_; intro g1 cap1 w1 hown1 hgrow1 hat1 hlt1; (have hO8 := HO7.out _ _ hgrow1); (have o8 := hO8.cell 0); (have p8 := hO8.frozen 0); simp at o8)
        | (go_simp; go_at_call 256; refine (CN.out _ (Below.refl _ _).drew).mono ?_; rintro e W1 ⟨rfl, hb1⟩; (have O1 := Lib.hid ((HO.out.drew 1).on hb1)); (have x0 := O1.out.cell 0); simp at x0; (have xA : (W1.alloc (.cells #[.string (strOf nd.path), .bool nd.dir, .int .i64 nd.mode, .int .i64 nd.time, .int .i64 nd.id, .string (strOf nd.data)] 37)).cell? ⟨w.heap.size + 1, 0, none⟩ = some (.slice a2 k k2) := (O1.out.alloc _).cell 0); (have HR1 := Lib.hid (show W1.ownsRow (w.heap.size + 2) 37 6 (.slice a2 k k2) k (nodesVals ((nds ps).take k)) by have := (HR.out.on (Below.refl _ _).drew).on hb1; unfold NRow at this; rw [htk] at this; exact this)); (have HB1 := Lib.hid hb1); (have hs1 := hb1.size); simp at hs1; (have HO7 := Lib.hid (fun (o : Obj) (w1 : World) (hg : (W1.alloc o).grownBy w1 (Value.ownBlock (.slice a2 k k2))) => (O1.out.alloc o).grown hg (by intro e; have := (World.ownsRow.lt HR1.out _ e.symm).1; omega))); clear hb1))
      all_goals
        have hR8 : NRow w1 (w.heap.size + 2) (.slice (some ⟨g1, 0, none⟩) (k + 1) cap1) ((nds ps).take (k + 1)) := by
          have e : (nds ps).take (k + 1) = (nds ps).take k ++ [nd] := by rw [HTK.out, HA.out, HQ.out]
          rw [e]; unfold NRow; rw [List.length_append, htk, nodesVals_append, nodesVals_one]; exact hown1
        have hB8 : Below (w.heap.size + 1) wb w1 := (((HB.out.drew).trans (HB1.out.mono (by simp; omega))).alloc (by omega) _).grown hgrow1 (by first | omega | (simp; omega)) (fun j e => by have := (World.ownsRow.lt HR1.out j e).1; omega)
        have hs8 := hgrow1.size
        simp only [World.size_alloc] at hs8
        have HR8 := Lib.hid hR8
        have HB8 := Lib.hid hB8
        have HO8 := Lib.hid hO8
        clear hR8 hB8 hO8 hown1 hgrow1
        go_wp2
        go_roundw
        case rel => exact ⟨k + 1, _, by omega, by go_num, HO8.out.set 0 _, HR8.out.other _ _ (show w.heap.size + 1 < w.heap.size + 2 by omega), HB8.out.setCell (Nat.le_refl (w.heap.size + 1)) _, by simp; omega⟩
        case measure => simp [intOf]; omega
end Go.Proofs.YtipedabppgbfcaaGreatDoor
