/- The trace while one goroutine sends over a channel with a buffer and goroutine 0 receives, beside goroutines that only leave. -/
import Derived.Test.YtnmlhjigiemfgaaDoorTameCrowd
import Derived.Conc.JoinTrace
namespace Go.Proofs.YtnmlhjigiemfgaaDoor
open Go Go.Conc

theorem noRace_mute {said : Bool} {t u : Trace} (h : ¬ Race said t) (hu : ∀ op ∈ u, op.act.touch? = none) : ¬ Race said (t ++ u) := by
  rintro ⟨i, j, hij, ⟨a, b, ha, hb, hc⟩, n1, n2⟩
  obtain ⟨x, hx, hxa⟩ := touch_of ha
  obtain ⟨y, hy, hyb⟩ := touch_of hb
  rcases getElem?_append_cases hy with ⟨hj, hy'⟩ | ⟨hj, hyu⟩
  · have hi : i < t.size := Nat.lt_trans hij hj
    have hx' : t[i]? = some x := by rw [← getElem?_append_old (u := u) hi]; exact hx
    exact h ⟨i, j, hij, ⟨a, b, by simp [Trace.act?, hx', hxa], by simp [Trace.act?, hy', hyb], hc⟩, fun e => n1 (hb_app u e), fun e => n2 (hb_app u e)⟩
  · rw [hu y hyu] at hyb; cases hyb

structure LT (j c : Nat) (Mine : Loc → Prop) (T : Trace) (closed : Bool) : Prop where
  clean : ∀ said, ¬ Race said T
  k0 : ∀ i a, touchAt T i = some a → a.loc.isMemory = true → Knows T 0 i ∨ (T.g? i = some j ∧ a.write = false ∧ ¬ Mine a.loc)
  kj : ∀ i a, touchAt T i = some a → a.loc.isMemory = true → a.write = true → ¬ Mine a.loc → Knows T j i
  hand : ∀ i g, T.g? i = some g → g ≠ 0 → T.counts i → g = j ∨ ∃ k, T.g? k = some 0 ∧ HappensBefore T i k
  h0 : Deaf T 0 = 0
  hj : Deaf T j = 0
  shut : closed = true → ∃ pc op, T[pc]? = some op ∧ op.g = j ∧ op.act = .close c ∧ T.heard pc ∧ ∀ i x, T[i]? = some x → x.g = j → x.act.touch? ≠ none → i < pc

section
variable {j c : Nat} {Mine : Loc → Prop} {T u : Trace} {closed : Bool}

theorem g?_of {t : Trace} {i : Nat} {op : MemOp} (h : t[i]? = some op) : t.g? i = some op.g := by simp [Trace.g?, h]

theorem hand_app (h : ∀ i g, T.g? i = some g → g ≠ 0 → T.counts i → g = j ∨ ∃ k, T.g? k = some 0 ∧ HappensBefore T i k) (hu : ∀ op ∈ u, op.g = 0 ∨ op.g = j ∨ op.act.touch? = none) :
    ∀ i g, (T ++ u).g? i = some g → g ≠ 0 → (T ++ u).counts i → g = j ∨ ∃ k, (T ++ u).g? k = some 0 ∧ HappensBefore (T ++ u) i k := by
  intro i g hg hne hc
  obtain ⟨x, hx, _⟩ := hc
  obtain ⟨op, hop, hox⟩ := touch_of hx
  rcases getElem?_append_cases hop with ⟨hi, hop'⟩ | ⟨_, hopu⟩
  · rcases h i g (by simpa [Trace.g?, getElem?_append_old hi] using hg) hne ((counts_old hi).1 ⟨x, hx, ‹_›⟩) with h1 | ⟨k, hk, hb⟩
    · exact .inl h1
    · have hkl : k < T.size := by
        unfold Trace.g? at hk
        obtain ⟨z, hz, _⟩ := Option.map_eq_some_iff.1 hk
        exact lt_size_of_getElem? hz
      exact .inr ⟨k, by rw [g?_old hkl]; exact hk, hb_app u hb⟩
  · have e : op.g = g := by simpa [Trace.g?, hop] using hg
    rcases hu op hopu with h0 | h0 | h0
    · exact absurd (e.symm.trans h0) hne
    · exact .inl (e.symm.trans h0)
    · rw [h0] at hox; cases hox

theorem shut_app (h : closed = true → ∃ pc op, T[pc]? = some op ∧ op.g = j ∧ op.act = .close c ∧ T.heard pc ∧ ∀ i x, T[i]? = some x → x.g = j → x.act.touch? ≠ none → i < pc)
    (hu : ∀ op ∈ u, op.g = j → op.act.touch? = none) :
    closed = true → ∃ pc op, (T ++ u)[pc]? = some op ∧ op.g = j ∧ op.act = .close c ∧ (T ++ u).heard pc ∧ ∀ i x, (T ++ u)[i]? = some x → x.g = j → x.act.touch? ≠ none → i < pc := by
  intro hc
  obtain ⟨pc, op, h1, h2, h3, h4, h5⟩ := h hc
  have hl := lt_size_of_getElem? h1
  refine ⟨pc, op, by rw [getElem?_append_old hl]; exact h1, h2, h3, (heard_old hl).2 h4, fun i x hx hg ht => ?_⟩
  rcases getElem?_append_cases hx with ⟨hi, hx'⟩ | ⟨_, hxu⟩
  · exact h5 i x hx' hg ht
  · exact absurd (hu x hxu hg) ht

/-- Goroutine 0's own operations. -/
theorem LT.main (hj0 : j ≠ 0) (h : LT j c Mine T closed) (hu : ∀ op ∈ u, op.g = 0) (hm : ∀ op ∈ u, ∀ b, op.act.touch? = some b → b.loc.isMemory = true → b.write = true → Mine b.loc) (hd : Deaf (T ++ u) 0 = Deaf T 0) : LT j c Mine (T ++ u) closed := by
  refine ⟨fun said => noRace_append (h.clean said) hu fun i a ha op hop b hb hc => ?_, fun i a ha hmem => ?_, fun i a ha hmem hw hM => ?_, hand_app h.hand fun op hop => .inl (hu op hop), hd.trans h.h0, ?_, shut_app h.shut fun op hop hg => absurd (hg.symm.trans (hu op hop)) hj0⟩
  · rcases h.k0 i a ha hc.2.1 with hk | ⟨_, hw, hM⟩
    · exact hk
    · rcases hc.2.2.1 with x | x
      · rw [hw] at x; cases x
      · exact absurd (by rw [hc.1]; exact hm op hop b hb (hc.1 ▸ hc.2.1) x) hM
  · obtain ⟨x, hx, hxa⟩ := touch_of ha
    rcases getElem?_append_cases hx with ⟨hi, hx'⟩ | ⟨_, hxu⟩
    · rcases h.k0 i a (by rw [touchAt_of hx']; exact hxa) hmem with hk | ⟨h1, h2, h3⟩
      · exact .inl (hk.app u)
      · exact .inr ⟨by rw [g?_old hi]; exact h1, h2, h3⟩
    · have := knows_own hx
      rw [hu x hxu] at this
      exact .inl this
  · obtain ⟨x, hx, hxa⟩ := touch_of ha
    rcases getElem?_append_cases hx with ⟨_, hx'⟩ | ⟨_, hxu⟩
    · exact (h.kj i a (by rw [touchAt_of hx']; exact hxa) hmem hw hM).app u
    · exact absurd (hm x hxu a hxa hmem hw) hM
  · exact (Deaf_other T (Ne.symm hj0) u hu).trans h.hj

/-- The sender's own. -/
theorem LT.child (hj0 : j ≠ 0) (h : LT j c Mine T false) (hu : ∀ op ∈ u, op.g = j) (hm : ∀ op ∈ u, ∀ b, op.act.touch? = some b → b.write = false ∧ ¬ Mine b.loc) (hd : Deaf (T ++ u) j = Deaf T j) : LT j c Mine (T ++ u) false := by
  refine ⟨fun said => noRace_append (h.clean said) hu fun i a ha op hop b hb hc => ?_, fun i a ha hmem => ?_, fun i a ha hmem hw hM => ?_, hand_app h.hand fun op hop => .inr (.inl (hu op hop)), ?_, hd.trans h.hj, fun e => by cases e⟩
  · obtain ⟨hbw, hbM⟩ := hm op hop b hb
    have haw : a.write = true := by
      rcases hc.2.2.1 with x | x
      · exact x
      · rw [hbw] at x; cases x
    exact h.kj i a ha hc.2.1 haw (by rw [hc.1]; exact hbM)
  · obtain ⟨x, hx, hxa⟩ := touch_of ha
    rcases getElem?_append_cases hx with ⟨hi, hx'⟩ | ⟨_, hxu⟩
    · rcases h.k0 i a (by rw [touchAt_of hx']; exact hxa) hmem with hk | ⟨h1, h2, h3⟩
      · exact .inl (hk.app u)
      · exact .inr ⟨by rw [g?_old hi]; exact h1, h2, h3⟩
    · obtain ⟨h1, h2⟩ := hm x hxu a hxa
      exact .inr ⟨by rw [g?_of hx, hu x hxu], h1, h2⟩
  · obtain ⟨x, hx, hxa⟩ := touch_of ha
    rcases getElem?_append_cases hx with ⟨_, hx'⟩ | ⟨_, hxu⟩
    · exact (h.kj i a (by rw [touchAt_of hx']; exact hxa) hmem hw hM).app u
    · have := (hm x hxu a hxa).1
      rw [hw] at this; cases this
  · exact (Deaf_other T hj0 u hu).trans h.h0

/-- Operations that touch nothing, whosever. -/
theorem LT.mute (h : LT j c Mine T closed) (hu : ∀ op ∈ u, op.act.touch? = none) (hd0 : Deaf (T ++ u) 0 = Deaf T 0) (hdj : Deaf (T ++ u) j = Deaf T j) : LT j c Mine (T ++ u) closed := by
  have old : ∀ {i : Nat} {a : Touch}, touchAt (T ++ u) i = some a → i < T.size ∧ touchAt T i = some a := by
    intro i a ha
    obtain ⟨x, hx, hxa⟩ := touch_of ha
    rcases getElem?_append_cases hx with ⟨hi, hx'⟩ | ⟨_, hxu⟩
    · exact ⟨hi, by rw [touchAt_of hx']; exact hxa⟩
    · rw [hu x hxu] at hxa; cases hxa
  refine ⟨fun said => noRace_mute (h.clean said) hu, fun i a ha hmem => ?_, fun i a ha hmem hw hM => ?_, hand_app h.hand fun op hop => .inr (.inr (hu op hop)), hd0.trans h.h0, hdj.trans h.hj, shut_app h.shut fun op hop _ => hu op hop⟩
  · obtain ⟨hi, ha'⟩ := old ha
    rcases h.k0 i a ha' hmem with hk | ⟨h1, h2, h3⟩
    · exact .inl (hk.app u)
    · exact .inr ⟨by rw [g?_old hi]; exact h1, h2, h3⟩
  · obtain ⟨hi, ha'⟩ := old ha
    exact (h.kj i a ha' hmem hw hM).app u

theorem heard_last (T : Trace) (op : MemOp) (h : Deaf T op.g = 0) : (T ++ #[op]).heard T.size := by
  refine ⟨op.g, by simp [Trace.g?], ?_⟩
  rw [deaf_old (Nat.le_refl _)]
  exact h

/-- The sender closes. -/
theorem LT.close (h : LT j c Mine T false) (op : MemOp) (hg : op.g = j) (ha : op.act = .close c) : LT j c Mine (T ++ #[op]) true := by
  have ht : op.act.touch? = none := by rw [ha]; rfl
  have hd : ∀ g, Deaf (T ++ #[op]) g = Deaf T g := by
    intro g
    rw [Deaf_push]
    simp [deafStep, ha]
  have hm := h.mute (u := #[op]) (by simp [ht]) (hd 0) (hd j)
  refine ⟨hm.clean, hm.k0, hm.kj, hm.hand, hm.h0, hm.hj, fun _ => ⟨T.size, op, by simp, hg, ha, heard_last T op (by rw [hg]; exact h.hj), fun i x hx _ hxt => ?_⟩⟩
  rcases getElem?_append_cases hx with ⟨hi, _⟩ | ⟨_, hxu⟩
  · exact hi
  · simp only [List.mem_toArray, List.mem_singleton] at hxu
    subst hxu
    exact absurd ht hxt

/-- Goroutine 0 finds the channel closed: all is known to it. -/
theorem LT.done (h : LT j c Mine T true) (x : MemOp) (hg : x.g = 0) (ha : x.act = .recvClosed c) : ∃ B, Past NoShun B (T ++ #[x]) := by
  have ht : x.act.touch? = none := by rw [ha]; rfl
  have hd : ∀ g, Deaf (T ++ #[x]) g = Deaf T g := by
    intro g
    rw [Deaf_push]
    simp [deafStep, ha]
  obtain ⟨pc, op, h1, h2, h3, h4, h5⟩ := h.shut rfl
  have hl := lt_size_of_getElem? h1
  have hlast : (T ++ #[x])[T.size]? = some x := by simp
  have hpc : HappensBefore (T ++ #[x]) pc T.size :=
    .single (.inr ⟨.closed (c := c) (by rw [act?_old hl, act?_of h1, h3]) (by rw [act?_of hlast, ha]), (heard_old hl).2 h4, heard_last T x (by rw [hg]; exact h.h0)⟩)
  have hchild : ∀ i op', T[i]? = some op' → op'.g = j → op'.act.touch? ≠ none → HappensBefore (T ++ #[x]) i T.size := by
    intro i op' hi hgi hti
    have hlt := h5 i op' hi hgi hti
    have hil := lt_size_of_getElem? hi
    exact (hb_po hlt (by rw [getElem?_append_old hil]; exact hi) (by rw [getElem?_append_old hl]; exact h1) (hgi.trans h2.symm)).trans hpc
  obtain ⟨B, hB⟩ : ∃ B, ∀ op ∈ T ++ #[x], op.act.low B := by
    have key : ∀ l : List MemOp, ∃ B, ∀ op ∈ l, op.act.low B := by
      intro l
      induction l with
      | nil => exact ⟨0, by simp⟩
      | cons o l ih =>
        obtain ⟨B1, hB1⟩ := ih
        obtain ⟨B2, hB2⟩ := low_some o.act
        refine ⟨max B1 B2, fun y hy => ?_⟩
        rcases List.mem_cons.1 hy with rfl | hy
        · exact MemAct.low_mono (by omega) hB2
        · exact MemAct.low_mono (by omega) (hB1 y hy)
    obtain ⟨B, hB⟩ := key (T ++ #[x]).toList
    exact ⟨B, fun op hop => hB op (Array.mem_toList_iff.2 hop)⟩
  refine ⟨B, fun said => noRace_mute (h.clean said) (by simp [ht]), fun i a hta hmem => .inl ?_, fun i g hgi hne hc => ?_, (hd 0).trans h.h0, hB⟩
  · obtain ⟨y, hy, hya⟩ := touch_of hta
    rcases getElem?_append_cases hy with ⟨hi, hy'⟩ | ⟨_, hyu⟩
    · rcases h.k0 i a (by rw [touchAt_of hy']; exact hya) hmem with hk | ⟨hgj, _, _⟩
      · exact hk.app _
      · have : y.g = j := by simpa [Trace.g?, hy'] using hgj
        exact ⟨T.size, x, hlast, hg, .inr (hchild i y hy' this (by rw [hya]; simp))⟩
    · simp only [List.mem_toArray, List.mem_singleton] at hyu
      subst hyu
      rw [ht] at hya; cases hya
  · obtain ⟨b, hb, hbm⟩ := hc
    obtain ⟨y, hy, hyb⟩ := touch_of hb
    rcases getElem?_append_cases hy with ⟨hi, hy'⟩ | ⟨_, hyu⟩
    · rcases h.hand i g (by rw [← g?_old (u := #[x]) hi]; exact hgi) hne ((counts_old hi).1 ⟨b, hb, hbm⟩) with hgj | ⟨k, hk, hbk⟩
      · have hyg : y.g = j := by
          have : some y.g = some g := by rw [← hgi, g?_of hy]
          rw [Option.some.inj this]; exact hgj
        exact ⟨T.size, by rw [g?_of hlast, hg], hchild i y hy' hyg (by rw [hyb]; simp)⟩
      · have hkl : k < T.size := by
          unfold Trace.g? at hk
          obtain ⟨z, hz, _⟩ := Option.map_eq_some_iff.1 hk
          exact lt_size_of_getElem? hz
        exact ⟨k, by rw [g?_old hkl]; exact hk, hb_app _ hbk⟩
    · simp only [List.mem_toArray, List.mem_singleton] at hyu
      subst hyu
      rw [ht] at hyb; cases hyb
end

/-- The go statement: what goroutine 0 knew, the child knows. -/
theorem LT.begin {j c : Nat} {Mine : Loc → Prop} {B : Nat} {T : Trace} (hj0 : j ≠ 0) (hP : Past NoShun B T) (hdj : Deaf T j = 0) (x y : MemOp) (hx : x.g = 0) (hxa : x.act = .go j) (hy : y.g = j) (hya : y.act = .start) : LT j c Mine (T ++ #[x, y]) false := by
  have e : T ++ #[x, y] = (T ++ #[x]) ++ #[y] := by rw [Array.append_assoc]; rfl
  have hd1 : ∀ g, Deaf (T ++ #[x]) g = Deaf T g := by
    intro g; rw [Deaf_push]; simp [deafStep, hxa]
  have hd2 : ∀ g, Deaf ((T ++ #[x]) ++ #[y]) g = Deaf T g := by
    intro g; rw [Deaf_push, hd1]; simp [deafStep, hya]
  have hsz : (T ++ #[x]).size = T.size + 1 := by simp
  have hgo : ((T ++ #[x]) ++ #[y])[T.size]? = some x := by rw [getElem?_append_old (by omega)]; simp
  have hst : ((T ++ #[x]) ++ #[y])[T.size + 1]? = some y := by
    rw [Array.getElem?_append_right (by omega)]; simp
  have hxt : x.act.touch? = none := by rw [hxa]; rfl
  have hyt : y.act.touch? = none := by rw [hya]; rfl
  have hh1 : ((T ++ #[x]) ++ #[y]).heard T.size := (heard_old (by omega)).2 (heard_last T x (by rw [hx]; exact hP.hears))
  have hh2 : ((T ++ #[x]) ++ #[y]).heard (T.size + 1) := by
    have := heard_last (T ++ #[x]) y (by rw [hy, hd1]; exact hdj)
    rw [hsz] at this; exact this
  have hsp : HappensBefore ((T ++ #[x]) ++ #[y]) T.size (T.size + 1) :=
    .single (.inr ⟨.spawn (child := j) (by rw [act?_of hgo, hxa]) (by rw [act?_of hst, hya]) (by rw [g?_of hst, hy]), hh1, hh2⟩)
  rw [e]
  have old : ∀ {i : Nat} {a : Touch}, touchAt ((T ++ #[x]) ++ #[y]) i = some a → i < T.size ∧ touchAt T i = some a := by
    intro i a ha
    obtain ⟨z, hz, hza⟩ := touch_of ha
    rcases getElem?_append_cases hz with ⟨hi, hz'⟩ | ⟨_, hzu⟩
    · rcases getElem?_append_cases hz' with ⟨hi', hz''⟩ | ⟨_, hzu⟩
      · exact ⟨hi', by rw [touchAt_of hz'']; exact hza⟩
      · simp only [List.mem_toArray, List.mem_singleton] at hzu
        subst hzu; rw [hxt] at hza; cases hza
    · simp only [List.mem_toArray, List.mem_singleton] at hzu
      subst hzu; rw [hyt] at hza; cases hza
  have known : ∀ {i : Nat} {a : Touch}, touchAt T i = some a → a.loc.isMemory = true → Knows T 0 i := by
    intro i a ha hm
    rcases hP.known i a ha hm with h | ⟨h, _⟩
    · exact h
    · exact h.elim
  refine ⟨fun said => noRace_mute (noRace_mute (hP.clean said) (by simp [hxt])) (by simp [hyt]), fun i a ha hm => ?_, fun i a ha hm _ _ => ?_, fun i g hg hne hc => ?_, (hd2 0).trans hP.hears, (hd2 j).trans hdj, fun h => by cases h⟩
  · obtain ⟨_, ha'⟩ := old ha
    exact .inl (((known ha' hm).app _).app _)
  · obtain ⟨hi, ha'⟩ := old ha
    have hk : Knows (T ++ #[x]) 0 i := (known ha' hm).app _
    have hb : HappensBefore ((T ++ #[x]) ++ #[y]) i T.size := by
      obtain ⟨q, z, h1, h2, h3⟩ := known ha' hm
      have hql := lt_size_of_getElem? h1
      refine ((h3.app #[x]).app #[y]).hb (hb_po hql (by rw [getElem?_append_old (by omega), getElem?_append_old hql]; exact h1) hgo (h2.trans hx.symm))
    exact ⟨T.size + 1, y, hst, hy, .inr (hb.trans hsp)⟩
  · right
    obtain ⟨b, hb, hbm⟩ := hc
    obtain ⟨hi, hb'⟩ := old (show touchAt _ i = some b from hb)
    have hi1 : i < (T ++ #[x]).size := by omega
    have hcT : T.counts i := (counts_old hi).1 ((counts_old hi1).1 ⟨b, hb, hbm⟩)
    obtain ⟨k, hk, hbk⟩ := hP.over i g (by rw [← g?_old (u := #[x]) hi, ← g?_old (u := #[y]) hi1]; exact hg) hne hcT
    have hkl : k < T.size := by
      unfold Trace.g? at hk
      obtain ⟨z, hz, _⟩ := Option.map_eq_some_iff.1 hk
      exact lt_size_of_getElem? hz
    exact ⟨k, by rw [g?_old (by omega), g?_old hkl]; exact hk, hb_app _ (hb_app _ hbk)⟩
end Go.Proofs.YtnmlhjigiemfgaaDoor
