/- The nodes that move, one after the other: plain facts on nodes with their blocks. What a move does to the tree that is worked on, step by step: no walk in this text. -/
import Derived.Test.YtipedabppgbfcaaGreatDoorK29
set_option linter.all false
namespace Go.Proofs.YtipedabppgbfcaaGreatDoor

theorem blk_same {ps : List (Nat × Nd)} (h : ps.Pairwise fun a b => a.1 ≠ b.1) {x y : Nat × Nd} (hx : x ∈ ps) (hy : y ∈ ps) (e : x.1 = y.1) : x = y := by
  obtain ⟨i, hi, rfl⟩ := List.getElem_of_mem hx
  obtain ⟨j, hj, rfl⟩ := List.getElem_of_mem hy
  rcases Nat.lt_trichotomy i j with hl | hl | hl
  · exact absurd e (List.pairwise_iff_getElem.1 h i j hi hj hl)
  · subst hl; rfl
  · exact absurd e.symm (List.pairwise_iff_getElem.1 h j i hj hi hl)
theorem path_same {ps : List (Nat × Nd)} (hu : Up (nds ps)) {i j : Nat} (hi : i < ps.length) (hj : j < ps.length) (e : ps[i].2.path = ps[j].2.path) : i = j := by
  have h2 := hu
  unfold Up at h2
  rw [List.pairwise_iff_getElem] at h2
  have hi2 : i < (nds ps).length := by rw [nds_len]; exact hi
  have hj2 : j < (nds ps).length := by rw [nds_len]; exact hj
  rcases Nat.lt_trichotomy i j with hl | hl | hl
  · have := less_ne (h2 i j hi2 hj2 hl)
    rw [nds_at, nds_at] at this
    exact absurd e this
  · exact hl
  · have := less_ne (h2 j i hj2 hi2 hl)
    rw [nds_at, nds_at] at this
    exact absurd e.symm this
theorem under_not_self {d : List UInt8} (h : 0 < depthV d) : underV d d = false := by
  obtain ⟨ns, hn0, hnf, rfl⟩ := names_pos h
  cases hu : underV (pathL ns) (pathL ns) with
  | false => rfl
  | true =>
    obtain ⟨k, hk, e⟩ := (under_names hnf hnf).1 hu
    have := congrArg List.length e
    rw [List.length_append] at this
    exact absurd (List.eq_nil_of_length_eq_zero (by omega)) hk
/-- The nodes that move, those under the path first. -/
def movP (o : Ov) (ps : List (Nat × Nd)) (f : Nat × Nd) : List (Nat × Nd) := underP o.path ps ++ [f]
structure MvFacts (o : Ov) (ps : List (Nat × Nd)) (f : Nat × Nd) : Prop where
  sub : ∀ q ∈ movP o ps f, q ∈ ps
  goes : ∀ q ∈ movP o ps f, goesB o q.2 = true
  all : ∀ q ∈ ps, goesB o q.2 = true → q ∈ movP o ps f
  apart : (movP o ps f).Pairwise fun a b => a.1 ≠ b.1
theorem mv_facts {o : Ov} {ps : List (Nat × Nd)} {f : Nat × Nd} (hu : Up (nds ps)) (ha : ps.Pairwise fun a b => a.1 ≠ b.1) (hp : 0 < depthV o.path) (hf : f ∈ ps) (hfp : f.2.path = o.path) : MvFacts o ps f := by
  refine ⟨fun q hq => ?_, fun q hq => ?_, fun q hq hg => ?_, ?_⟩
  · unfold movP underP at hq
    rcases List.mem_append.1 hq with hq | hq
    · exact (List.mem_filter.1 hq).1
    · simp at hq; subst hq; exact hf
  · unfold movP underP at hq
    unfold goesB
    rcases List.mem_append.1 hq with hq | hq
    · rw [(List.mem_filter.1 hq).2]; simp
    · simp at hq; subst hq; rw [decide_eq_true hfp]; rfl
  · unfold goesB at hg
    simp only [Bool.or_eq_true, decide_eq_true_eq] at hg
    unfold movP underP
    rcases hg with hg | hg
    · obtain ⟨i, hi, rfl⟩ := List.getElem_of_mem hq
      obtain ⟨j, hj, rfl⟩ := List.getElem_of_mem hf
      have := path_same hu hi hj (hg.trans hfp.symm)
      subst this
      simp
    · exact List.mem_append_left _ (List.mem_filter.2 ⟨hq, hg⟩)
  · unfold movP underP
    rw [List.pairwise_append]
    refine ⟨List.Pairwise.filter _ ha, List.pairwise_singleton _ _, fun x hx y hy => ?_⟩
    simp at hy; subst hy
    intro e
    have h1 := (List.mem_filter.1 hx)
    have := blk_same ha h1.1 hf e
    rw [this, hfp, under_not_self hp] at h1
    cases h1.2
/-- Moved already, where it is among the first k. -/
def upto1 (o : Ov) (ms : List (Nat × Nd)) (k : Nat) (q : Nat × Nd) : Nat × Nd := if (ms.take k).any (fun m => m.1 == q.1) = true then (q.1, movedN o q.2) else q
theorem upto_zero (o : Ov) (ms ls : List (Nat × Nd)) : ls.map (upto1 o ms 0) = ls := by
  have : upto1 o ms 0 = id := by funext q; simp [upto1]
  rw [this, List.map_id]
theorem upto_fst (o : Ov) (ms : List (Nat × Nd)) (k : Nat) (q : Nat × Nd) : (upto1 o ms k q).1 = q.1 := by unfold upto1; split <;> rfl
theorem any_not {ms : List (Nat × Nd)} (ha : ms.Pairwise fun a b => a.1 ≠ b.1) {k : Nat} (hk : k < ms.length) : (ms.take k).any (fun m => m.1 == ms[k].1) = false := by
  rw [List.any_eq_false]
  intro m hm
  obtain ⟨j, hj, rfl⟩ := List.getElem_of_mem hm
  rw [List.length_take] at hj
  rw [List.getElem_take]
  have := List.pairwise_iff_getElem.1 ha j k (by omega) hk (by omega)
  simpa using this
theorem upto_at {o : Ov} {ms : List (Nat × Nd)} (ha : ms.Pairwise fun a b => a.1 ≠ b.1) {k : Nat} (hk : k < ms.length) : upto1 o ms k ms[k] = ms[k] := by
  unfold upto1
  rw [any_not ha hk]; rfl
theorem upto_other (o : Ov) {ms : List (Nat × Nd)} {k : Nat} (hk : k < ms.length) {q : Nat × Nd} (h : ms[k].1 ≠ q.1) : upto1 o ms (k + 1) q = upto1 o ms k q := by
  have h2 : [ms[k]].any (fun m => m.1 == q.1) = false := by simpa using h
  unfold upto1
  rw [List.take_succ_eq_append_getElem hk, List.any_append, h2, Bool.or_false]
theorem upto_hit (o : Ov) {ms : List (Nat × Nd)} {k : Nat} (hk : k < ms.length) : upto1 o ms (k + 1) ms[k] = (ms[k].1, movedN o ms[k].2) := by
  have h2 : [ms[k]].any (fun m => m.1 == ms[k].1) = true := by simp
  unfold upto1
  rw [List.take_succ_eq_append_getElem hk, List.any_append, h2, Bool.or_true, if_pos rfl]
theorem upto_succ {o : Ov} {ms ls : List (Nat × Nd)} (ha : ls.Pairwise fun a b => a.1 ≠ b.1) {k j : Nat} (hk : k < ms.length) (hj : j < ls.length) (e : ls[j] = ms[k]) : (ls.map (upto1 o ms k)).set j (ms[k].1, movedN o ms[k].2) = ls.map (upto1 o ms (k + 1)) := by
  apply List.ext_getElem (by simp)
  intro i h1 h2
  have hi : i < ls.length := by simpa using h2
  rw [List.getElem_set]
  by_cases hij : j = i
  · subst hij
    rw [if_pos rfl, List.getElem_map, e, upto_hit o hk]
  · rw [if_neg hij, List.getElem_map, List.getElem_map, upto_other o hk]
    rw [← e]
    intro e2
    rcases Nat.lt_or_gt_of_ne hij with hl | hl
    · exact List.pairwise_iff_getElem.1 ha j i hj hi hl e2
    · exact List.pairwise_iff_getElem.1 ha i j hi hj hl e2.symm
/-- Behind all of them the nodes are what is left behind the move. -/
theorem upto_all {o : Ov} {ps ls : List (Nat × Nd)} {f : Nat × Nd} (h : MvFacts o ps f) (hls : ∀ q ∈ ls, q ∈ ps) (hn : nds ls = (nds ps).filter fun n => !decide (n.path = o.dest)) : nds (ls.map (upto1 o (movP o ps f) (movP o ps f).length)) = stayN o (nds ps) := by
  unfold stayN
  rw [← hn]
  unfold nds
  rw [List.map_map, List.map_map]
  apply List.map_congr_left
  intro q hq
  show (upto1 o (movP o ps f) (movP o ps f).length q).2 = movedN o q.2
  unfold upto1
  rw [List.take_length]
  by_cases hany : (movP o ps f).any (fun m => m.1 == q.1) = true
  · rw [if_pos hany]
  · rw [if_neg hany]
    cases hg : goesB o q.2 with
    | false => exact (goes_not hg).symm
    | true =>
      exfalso
      apply hany
      rw [List.any_eq_true]
      exact ⟨q, h.all q (hls q hq) hg, by simp⟩
theorem move_ne {ps : List (Nat × Nd)} {next : Int} {o : Ov} (hm : MayMove (nds ps) next o) {n : Nd} (hg : goesB o n = true) : n.path ≠ o.dest := by
  intro e
  unfold goesB at hg
  simp only [Bool.or_eq_true, decide_eq_true_eq] at hg
  rcases hg with hg | hg
  · exact hm.ne (e.symm.trans hg)
  · have := hm.under
    rw [← e, hg] at this; cases this
theorem bad_paths {o : Ov} {ps : List (Nat × Nd)} {next : Int} {f : Nat × Nd} (h : MvFacts o ps f) (hm : MayMove (nds ps) next o) : (movP o ps f).any (badP o) = !pathsOk (stayN o (nds ps)) := by
  cases hp : pathsOk (stayN o (nds ps)) with
  | true =>
    rw [Bool.not_true, List.any_eq_false]
    intro q hq
    have h1 := h.sub q hq
    have hmem : movedN o q.2 ∈ stayN o (nds ps) := mem_stay.2 ⟨q.2, List.mem_map_of_mem (f := Prod.snd) h1, move_ne hm (h.goes q hq), rfl⟩
    unfold pathsOk at hp
    rw [List.all_eq_true] at hp
    unfold badP
    rw [hp _ hmem]; simp
  | false =>
    rw [Bool.not_false, List.any_eq_true]
    unfold pathsOk at hp
    rw [List.all_eq_false] at hp
    obtain ⟨m, hmm, hbad⟩ := hp
    obtain ⟨n, hn, hnd, rfl⟩ := mem_stay.1 hmm
    obtain ⟨q, hq, rfl⟩ := List.mem_map.1 hn
    cases hg : goesB o q.2 with
    | true => exact ⟨q, h.all q hq hg, by unfold badP; simpa using hbad⟩
    | false =>
      rw [goes_not hg] at hbad
      exact absurd (decide_eq_true (node_path (hm.right.node _ hn))) hbad
theorem taken_ls {ps : List (Nat × Nd)} {d : List UInt8} (hu : Up (nds ps)) (hf : (findV d (nds ps)).isSome = true) : nds (ps.take (placeV d (nds ps)) ++ ps.drop (placeV d (nds ps) + 1)) = (nds ps).filter fun n => !decide (n.path = d) := by
  obtain ⟨_, h1, _⟩ := found_is hu hf
  have := without_place hu h1
  unfold withoutN at this
  rw [this]
  simp [nds, List.map_take, List.map_drop]
theorem free_ls {ps : List (Nat × Nd)} {d : List UInt8} (hf : (findV d (nds ps)).isSome = false) : nds ps = (nds ps).filter fun n => !decide (n.path = d) := by
  rw [List.filter_eq_self.2]
  intro n hn
  have : findV d (nds ps) = none := by cases hg : findV d (nds ps) with | none => rfl | some k => rw [hg] at hf; cases hf
  simpa using none_path this n hn
end Go.Proofs.YtipedabppgbfcaaGreatDoor
namespace Go.Proofs.YtipedabppgbfcaaGreatDoor
open Go.RowKit
variable {R : World}

theorem own_grown {w w' : World} {B : Nat} {e : TypeId} {size : Nat} {v : Value} {n : Nat} {xs : List Value} {row : Option Nat} (h : w.ownsRow B e size v n xs) (hg : w.grownBy w' row) (hne : ∀ j, row = some j → j < B) : w'.ownsRow B e size v n xs := by
  refine h.kept hg ?_
  rcases h.2 with ⟨rfl, _⟩ | ⟨g, cap, cur, rfl, hb, _⟩
  · exact .inl rfl
  · refine .inr ?_
    intro e
    have := hne g (by first | exact e.symm | (rw [← e]; rfl))
    omega
theorem Work.rowNe {W : World} {B p b : Nat} {v : Value} {ps : List (Nat × Nd)} {next : Int} {cs : Array Value} {t : TypeId} (h : Work R W B p v ps next) (hb : Blk W b cs t) (ht : t ≠ 149) : some b ≠ v.ownBlock := by
  intro e
  rcases h.form with ⟨rfl, _⟩ | ⟨g, cap, rfl, _, _, _, _, _, _, cur, hg, _⟩
  · cases e
  · have e2 : b = g := by simpa [Value.ownBlock] using e
    subst e2
    have := hb.blk
    rw [hg] at this
    simp at this
    exact ht this.2.symm
theorem Work.reorder {W W' : World} {B p : Nat} {v : Value} {ps ps' : List (Nat × Nd)} {next : Int} (h : Work R W B p v ps next) (hg : W.grownBy W' v.ownBlock) (hr : W'.ownsRow B 149 1 v ps'.length (ps'.map wkVal)) (hp : ps'.Perm ps) : Work R W' B p v ps' next := by
  refine ⟨h.lo, h.top.grown hg fun e => (h.rowBlk e.symm).1 rfl, hr, fun q hq => ?_, (hp.pairwise_iff (fun e => Ne.symm e)).2 h.apart, h.oth.trans (.grown hg (row_bound h.row))⟩
  have hq2 := hp.mem_iff.1 hq
  exact ⟨(h.node q hq2).1, (h.node q hq2).2.grown hg fun e => (h.rowBlk e.symm).2 q hq2 rfl⟩
theorem WkAt.off {W : World} {b q : Nat} {n : Nd} {cs : Array Value} {t : TypeId} (h : WkAt W b n) (hb : Blk W q cs t) (h1 : t ≠ 142) (h2 : t ≠ 145) : q ≠ b := by
  intro e
  subst e
  have e1 := h.blk.blk
  rw [hb.blk] at e1
  unfold wkType at e1
  cases hd : n.dir <;> rw [hd] at e1 <;> simp at e1
  · exact h2 e1.2
  · exact h1 e1.2
theorem moved_form (o : Ov) (n : Nd) : movedN o n = { n with path := (movedN o n).path } := by
  unfold movedN
  split <;> rfl
theorem at_mover {W : World} {B p : Nat} {v : Value} {ls ms : List (Nat × Nd)} {next : Int} {o : Ov} {k : Nat} (h : Work R W B p v (ls.map (upto1 o ms k)) next) (ha : ms.Pairwise fun a b => a.1 ≠ b.1) (hk : k < ms.length) (hm : ms[k] ∈ ls) : WkAt W ms[k].1 ms[k].2 := by
  have := List.mem_map_of_mem (f := upto1 o ms k) hm
  rw [upto_at ha hk] at this
  exact (h.node _ this).2
theorem Work.moved {W : World} {B p : Nat} {v : Value} {ls ms : List (Nat × Nd)} {next : Int} {o : Ov} {k : Nat} (h : Work R W B p v (ls.map (upto1 o ms k)) next) (ha : ms.Pairwise fun a b => a.1 ≠ b.1) (hla : ls.Pairwise fun a b => a.1 ≠ b.1) (hk : k < ms.length) (hm : ms[k] ∈ ls) {b : Nat} {nd : Nd} (hq : ms[k] = (b, nd)) : Work R (W.setCell ⟨b, 0, none⟩ (.string (strOf (movedN o nd).path))) B p v (ls.map (upto1 o ms (k + 1))) next := by
  obtain ⟨j, hj, e⟩ := List.getElem_of_mem hm
  have hj2 : j < (ls.map (upto1 o ms k)).length := by simpa using hj
  have e2 : (ls.map (upto1 o ms k))[j] = (b, nd) := by rw [List.getElem_map, e, upto_at ha hk, hq]
  have hn := (h.node _ (List.getElem_mem hj2)).2
  have hd : (movedN o nd).dir = (ls.map (upto1 o ms k))[j].2.dir := by rw [e2]; exact (moved_rest o nd).1
  have h1 := h.renode j hj2 0 (.string (strOf (movedN o nd).path)) (movedN o nd) hd (by
    rw [e2] at hn ⊢
    have := hn.setPath (movedN o nd).path
    rw [← moved_form] at this
    exact this)
  rw [e2] at h1
  have h2 := upto_succ (o := o) hla hk hj e
  rw [hq] at h2
  have h3 : (ls.map (upto1 o ms k)).set j ((b, nd).1, movedN o nd) = ls.map (upto1 o ms (k + 1)) := h2
  rw [h3] at h1
  exact h1
/-- Behind the sort: what the document's move leaves. -/
theorem moved_end {ps ls l2 : List (Nat × Nd)} {next : Int} {o : Ov} {f : Nat × Nd} (hm : MayMove (nds ps) next o) (hF : MvFacts o ps f) (hls : ∀ q ∈ ls, q ∈ ps) (hn : nds ls = (nds ps).filter fun n => !decide (n.path = o.dest)) (hp : l2.Perm (ls.map (upto1 o (movP o ps f) (movP o ps f).length))) (hs : (nds l2).Pairwise fun a b => lessB b.path a.path = false) : nds l2 = putAll [] (stayN o (nds ps)) := by
  refine move_sorted hm ?_ hs
  rw [← upto_all hF hls hn]
  exact hp.map Prod.snd
end Go.Proofs.YtipedabppgbfcaaGreatDoor
