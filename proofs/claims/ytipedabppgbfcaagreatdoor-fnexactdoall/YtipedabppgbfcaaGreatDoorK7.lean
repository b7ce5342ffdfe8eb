/- Nodes in order: places, what is put in and taken out, and the right tree as a list of facts; no program in this text. Moves of nodes, and what is done to right trees: they stay right; no program in this text. -/
import Derived.Test.YtipedabppgbfcaaGreatDoorK6
set_option linter.all false
namespace Go.Proofs.YtipedabppgbfcaaGreatDoor

/-- Nodes in order. -/
def Up (ns : List Nd) : Prop := ns.Pairwise fun a b => lessB a.path b.path = true
theorem up_of_tree {ns : List Nd} {next : Int} (h : treeB ns next = true) : Up ns := by
  unfold Up
  rw [List.pairwise_iff_getElem]
  intro i j hi hj hij
  exact rising_of_tree h i j hj hij
theorem up_cons {n : Nd} {r : List Nd} : Up (n :: r) ↔ (∀ m ∈ r, lessB n.path m.path = true) ∧ Up r := by
  unfold Up; rw [List.pairwise_cons]
/-- How many nodes stand ahead of a text. -/
def placeV (p : List UInt8) (ns : List Nd) : Nat := ns.countP fun n => lessB n.path p
theorem place_le (p : List UInt8) (ns : List Nd) : placeV p ns ≤ ns.length := List.countP_le_length
theorem place_t {p : List UInt8} {n : Nd} {r : List Nd} (h : lessB n.path p = true) : placeV p (n :: r) = placeV p r + 1 := by
  unfold placeV; exact List.countP_cons_of_pos (p := fun n : Nd => lessB n.path p) h
theorem place_f {p : List UInt8} {n : Nd} {r : List Nd} (hu : Up (n :: r)) (h : lessB n.path p = false) : placeV p (n :: r) = 0 := by
  unfold placeV
  rw [List.countP_cons_of_neg (p := fun n : Nd => lessB n.path p) (by simp [h]), List.countP_eq_zero]
  intro m hm e
  have := less_trans ((up_cons.1 hu).1 m hm) e
  rw [h] at this; cases this
/-- In order, a path is found at its place. -/
theorem find_place {p : List UInt8} : ∀ {ns : List Nd}, Up ns → findV p ns = match ns[placeV p ns]? with | some n => if n.path = p then some (placeV p ns) else none | none => none
  | [], _ => rfl
  | n :: r, hu => by
    have hr := find_place (p := p) (up_cons.1 hu).2
    cases hl : lessB n.path p with
    | true =>
      rw [place_t hl, List.getElem?_cons_succ]
      simp only [findV]
      rw [if_neg (less_ne hl), hr]
      cases r[placeV p r]? with
      | none => rfl
      | some m => by_cases e : m.path = p <;> simp [e]
    | false =>
      rw [place_f hu hl, List.getElem?_cons_zero]
      simp only [findV]
      by_cases e : n.path = p
      · rw [if_pos e, if_pos e]
      · rw [if_neg e, if_neg e]
        have hpn : lessB p n.path = true := by
          cases h : lessB p n.path with
          | true => rfl
          | false => exact absurd (less_tri _ _ hl h) e
        rw [find_miss fun j hj e2 => by
          have := less_trans hpn ((up_cons.1 hu).1 _ (List.getElem_mem hj))
          rw [e2, less_irr] at this; cases this]
        rfl
theorem place_hit {p : List UInt8} {ns : List Nd} (hu : Up ns) (h : placeV p ns < ns.length) (e : ns[placeV p ns].path = p) : findV p ns = some (placeV p ns) := by
  rw [find_place hu, List.getElem?_eq_getElem h]
  simp only [e, if_true]
theorem place_miss {p : List UInt8} {ns : List Nd} (hu : Up ns) (h : ∀ (h : placeV p ns < ns.length), ns[placeV p ns].path ≠ p) : findV p ns = none := by
  rw [find_place hu]
  by_cases hl : placeV p ns < ns.length
  · rw [List.getElem?_eq_getElem hl]
    simp only [h hl, if_false]
  · rw [List.getElem?_eq_none (by omega)]
theorem find_is_place {p : List UInt8} {ns : List Nd} {k : Nat} (hu : Up ns) (h : findV p ns = some k) : placeV p ns = k ∧ ∃ h : k < ns.length, ns[k].path = p := by
  obtain ⟨h1, h2, _⟩ := find_some h
  rw [find_place hu] at h
  cases hg : ns[placeV p ns]? with
  | none => rw [hg] at h; cases h
  | some m =>
    rw [hg] at h
    simp only at h
    by_cases e : m.path = p
    · rw [if_pos e] at h; cases h; exact ⟨rfl, h1, h2⟩
    · rw [if_neg e] at h; cases h
/-- A node more, at its place. -/
theorem put_place {n : Nd} : ∀ {ns : List Nd}, Up ns → (∀ m ∈ ns, m.path ≠ n.path) → putN n ns = ns.take (placeV n.path ns) ++ n :: ns.drop (placeV n.path ns)
  | [], _, _ => rfl
  | m :: r, hu, hne => by
    have hr := put_place (n := n) (up_cons.1 hu).2 fun x hx => hne x (by simp [hx])
    unfold putN
    cases hl : lessB n.path m.path with
    | true =>
      rw [if_pos rfl, place_f hu (less_asym hl)]
      rfl
    | false =>
      have hm : lessB m.path n.path = true := by
        cases h : lessB m.path n.path with
        | true => rfl
        | false => exact absurd (less_tri _ _ h hl) (hne m (by simp))
      rw [if_neg (by simp), place_t hm, hr]
      rfl
theorem none_path {p : List UInt8} {ns : List Nd} (h : findV p ns = none) : ∀ m ∈ ns, m.path ≠ p := fun m hm => by
  obtain ⟨j, hj, rfl⟩ := List.getElem_of_mem hm
  exact find_none h j hj
theorem some_path {p : List UInt8} {ns : List Nd} (h : (findV p ns).isSome = true) : ∃ m ∈ ns, m.path = p := by
  cases hf : findV p ns with
  | none => rw [hf] at h; cases h
  | some k => obtain ⟨h1, h2, _⟩ := find_some hf; exact ⟨_, List.getElem_mem h1, h2⟩
theorem path_some {p : List UInt8} {ns : List Nd} {m : Nd} (hm : m ∈ ns) (e : m.path = p) : (findV p ns).isSome = true := by
  cases hf : findV p ns with
  | none => exact absurd e (none_path hf m hm)
  | some k => rfl
/-- In order, without a node is without its place. -/
theorem without_place {p : List UInt8} : ∀ {ns : List Nd} {k : Nat}, Up ns → findV p ns = some k → withoutN p ns = ns.take k ++ ns.drop (k + 1)
  | n :: r, k, hu, h => by
    unfold withoutN
    simp only [findV] at h
    by_cases e : n.path = p
    · rw [if_pos e] at h
      cases h
      rw [List.filter_cons_of_neg (by simp [e]), List.filter_eq_self.2]
      · rfl
      · intro m hm
        have := less_ne ((up_cons.1 hu).1 m hm)
        rw [e] at this
        simpa using this.symm
    · rw [if_neg e] at h
      cases h2 : findV p r with
      | none => rw [h2] at h; cases h
      | some i =>
        rw [h2] at h
        simp only [Option.map_some, Option.some.injEq] at h
        subst h
        have hr := without_place (up_cons.1 hu).2 h2
        unfold withoutN at hr
        rw [List.filter_cons_of_pos (by simp [e]), hr]
        rfl
theorem putN_perm (n : Nd) : ∀ ns : List Nd, (putN n ns).Perm (n :: ns)
  | [] => List.Perm.refl _
  | m :: r => by
    unfold putN
    split
    · exact List.Perm.refl _
    · exact ((putN_perm n r).cons m).trans (List.Perm.swap n m r)
theorem up_put {n : Nd} : ∀ {ns : List Nd}, Up ns → (∀ m ∈ ns, m.path ≠ n.path) → Up (putN n ns)
  | [], _, _ => List.pairwise_singleton _ _
  | m :: r, hu, hne => by
    unfold putN
    cases hl : lessB n.path m.path with
    | true =>
      rw [if_pos rfl]
      refine up_cons.2 ⟨fun x hx => ?_, hu⟩
      rcases List.mem_cons.1 hx with rfl | hx
      · exact hl
      · exact less_trans hl ((up_cons.1 hu).1 x hx)
    | false =>
      have hm : lessB m.path n.path = true := by
        cases h : lessB m.path n.path with
        | true => rfl
        | false => exact absurd (less_tri _ _ h hl) (hne m (by simp))
      rw [if_neg (by simp)]
      refine up_cons.2 ⟨fun x hx => ?_, up_put (up_cons.1 hu).2 fun x hx => hne x (by simp [hx])⟩
      rcases (putN_mem n x r).1 hx with rfl | hx
      · exact hm
      · exact (up_cons.1 hu).1 x hx
/-- What is in order is one alone. -/
theorem up_unique : ∀ {a b : List Nd}, Up a → Up b → a.Perm b → a = b
  | [], b, _, _, h => h.nil_eq
  | x :: a, [], _, _, h => absurd h.length_eq (by simp)
  | x :: a, y :: b, ha, hb, h => by
    have e : x = y := by
      rcases List.mem_cons.1 (h.subset (List.mem_cons_self)) with e | hx
      · exact e
      · rcases List.mem_cons.1 (h.symm.subset (List.mem_cons_self)) with e | hy
        · exact e.symm
        · have h1 := (up_cons.1 hb).1 x hx
          have h2 := (up_cons.1 ha).1 y hy
          rw [less_asym h1] at h2; cases h2
    subst e
    rw [up_unique (up_cons.1 ha).2 (up_cons.1 hb).2 h.cons_inv]
theorem up_same {ns : List Nd} (hu : Up ns) {a b : Nd} (ha : a ∈ ns) (hb : b ∈ ns) (e : a.path = b.path) : a = b := by
  obtain ⟨i, hi, rfl⟩ := List.getElem_of_mem ha
  obtain ⟨j, hj, rfl⟩ := List.getElem_of_mem hb
  unfold Up at hu
  rw [List.pairwise_iff_getElem] at hu
  rcases Nat.lt_trichotomy i j with h | h | h
  · exact absurd e (less_ne (hu i j hi hj h))
  · subst h; rfl
  · exact absurd e.symm (less_ne (hu j i hj hi h))

theorem dirB_iff {ns : List Nd} (hu : Up ns) {p : List UInt8} : dirB ns p = true ↔ p = [47] ∨ ∃ m ∈ ns, m.path = p ∧ m.dir = true := by
  unfold dirB
  rw [Bool.or_eq_true, beq_iff_eq]
  refine or_congr Iff.rfl ?_
  constructor
  · intro h
    cases hf : findV p ns with
    | none => rw [hf] at h; cases h
    | some k =>
      obtain ⟨h1, h2, _⟩ := find_some hf
      rw [hf] at h
      simp only [List.getElem?_eq_getElem h1] at h
      exact ⟨_, List.getElem_mem h1, h2, h⟩
  · rintro ⟨m, hm, e, hd⟩
    cases hf : findV p ns with
    | none => exact absurd e (none_path hf m hm)
    | some k =>
      obtain ⟨h1, h2, _⟩ := find_some hf
      simp only [List.getElem?_eq_getElem h1]
      rw [up_same hu (List.getElem_mem h1) hm (h2.trans e.symm)]
      exact hd
theorem dirAt_iff {ns : List Nd} (hu : Up ns) {p : List UInt8} : dirAt ns p = true ↔ ∃ m ∈ ns, m.path = p ∧ m.dir = true := by
  unfold dirAt
  constructor
  · intro h
    cases hf : findV p ns with
    | none => rw [hf] at h; cases h
    | some k =>
      obtain ⟨h1, h2, _⟩ := find_some hf
      rw [hf] at h
      simp only [List.getElem?_eq_getElem h1] at h
      exact ⟨_, List.getElem_mem h1, h2, h⟩
  · rintro ⟨m, hm, e, hd⟩
    cases hf : findV p ns with
    | none => exact absurd e (none_path hf m hm)
    | some k =>
      obtain ⟨h1, h2, _⟩ := find_some hf
      simp only [List.getElem?_eq_getElem h1]
      rw [up_same hu (List.getElem_mem h1) hm (h2.trans e.symm)]
      exact hd
/-- The right tree, as a list of facts. -/
structure Right (ns : List Nd) (next : Int) : Prop where
  len : ns.length ≤ 60
  lo : 1 ≤ next
  hi : next ≤ 1000000
  up : Up ns
  node : ∀ n ∈ ns, nodeB n next = true
  dir : ∀ n ∈ ns, dirB ns (dirV n.path) = true
  ids : ns.Pairwise fun a b => a.id ≠ b.id
theorem Right.of {ns : List Nd} {next : Int} (h : treeB ns next = true) : Right ns next := by
  obtain ⟨h1, h2, h3⟩ := tree_iff.1 h
  have hs : ∀ i (hi : i < ns.length), nodeB ns[i] next = true ∧ dirB ns (dirV ns[i].path) = true ∧ lessAt ns i ns[i].path = true ∧ freeB ns i ns[i].id = true := fun i hi => by
    have := h3 i hi
    rw [step_at hi] at this
    simpa only [Bool.and_eq_true] using this
  unfold inB at h2
  simp only [Bool.and_eq_true, decide_eq_true_eq] at h2
  refine ⟨h1, h2.1, h2.2, up_of_tree h, fun n hn => ?_, fun n hn => ?_, ?_⟩
  · obtain ⟨i, hi, rfl⟩ := List.getElem_of_mem hn; exact (hs i hi).1
  · obtain ⟨i, hi, rfl⟩ := List.getElem_of_mem hn; exact (hs i hi).2.1
  · rw [List.pairwise_iff_getElem]
    intro i j hi hj hij e
    have := (hs j hj).2.2.2
    unfold freeB at this
    rw [List.all_eq_true] at this
    have := this ns[i] (List.mem_take_iff_getElem.2 ⟨i, by omega, rfl⟩)
    simp [e] at this
theorem Right.tree {ns : List Nd} {next : Int} (h : Right ns next) : treeB ns next = true := by
  refine tree_iff.2 ⟨h.len, inB_t h.lo h.hi, fun i hi => ?_⟩
  rw [step_at hi]
  simp only [Bool.and_eq_true]
  refine ⟨h.node _ (List.getElem_mem hi), h.dir _ (List.getElem_mem hi), ?_, ?_⟩
  · unfold lessAt
    by_cases e : i = 0
    · rw [if_pos e]
    · rw [if_neg e, List.getElem?_eq_getElem (by omega)]
      exact List.pairwise_iff_getElem.1 h.up (i - 1) i (by omega) hi (by omega)
  · unfold freeB
    rw [List.all_eq_true]
    intro m hm
    obtain ⟨j, hj, rfl⟩ := List.mem_take_iff_getElem.1 hm
    have := List.pairwise_iff_getElem.1 h.ids j i (by omega) hi (by omega)
    simpa using this
end Go.Proofs.YtipedabppgbfcaaGreatDoor
namespace Go.Proofs.YtipedabppgbfcaaGreatDoor

theorem names_pos {l : List UInt8} (h : 0 < depthV l) : ∃ ns, ns ≠ [] ∧ fit ns = true ∧ l = pathL ns := by
  rcases path_or l with ⟨ns, hf, rfl⟩ | hn
  · rw [depthV_of hf] at h
    exact ⟨ns, fun e => by subst e; simp at h, hf, rfl⟩
  · unfold depthV at h; rw [hn] at h; simp at h
theorem pos_names {ns : List (List UInt8)} (h : fit ns = true) (hn : ns ≠ []) : 0 < depthV (pathL ns) := by
  rw [depthV_of h]
  cases ns with
  | nil => exact absurd rfl hn
  | cons => simp
theorem pathL_inj {a b : List (List UInt8)} (ha : fit a = true) (hb : fit b = true) (e : pathL a = pathL b) : a = b := by
  have h1 := namesO_of ha
  rw [e, namesO_of hb] at h1
  exact (Option.some.inj h1).symm
theorem fit_free {ns : List (List UInt8)} (h : fit ns = true) : ∀ n ∈ ns, n ≠ [] ∧ 47 ∉ n := fun n hn => by
  have := (fit_mem h).2 n hn
  exact ⟨fun e => by subst e; simp [nameB] at this, nameB_free this⟩
theorem under_names {ns ms : List (List UInt8)} (h : fit ns = true) (hm : fit ms = true) : underV (pathL ns) (pathL ms) = true ↔ ∃ k, k ≠ [] ∧ ns = ms ++ k := by
  unfold underV
  rw [namesO_of h, namesO_of hm]
  simp only [Bool.and_eq_true, decide_eq_true_eq, beq_iff_eq]
  constructor
  · rintro ⟨h1, h2⟩
    refine ⟨ns.drop ms.length, fun e => ?_, ?_⟩
    · have := congrArg List.length e; simp at this; omega
    · conv => lhs; rw [← List.take_append_drop ms.length ns, h2]
  · rintro ⟨k, hk, rfl⟩
    have : k.length ≠ 0 := fun e => hk (List.eq_nil_of_length_eq_zero e)
    simp; omega
theorem dir_snoc {ms : List (List UInt8)} {n : List UInt8} (h : fit (ms ++ [n]) = true) : dirV (pathL (ms ++ [n])) = pathL ms := by
  unfold dirV
  rw [namesO_of h]
  simp
theorem snoc_of {ns : List (List UInt8)} (h : ns ≠ []) : ∃ ms n, ns = ms ++ [n] := ⟨ns.dropLast, ns.getLast h, (List.dropLast_concat_getLast h).symm⟩
/-- Of what stands in a right tree all folders above it stand there, too. -/
theorem above {ns : List Nd} {next : Int} (h : Right ns next) : ∀ (m : Nat) (ds ks : List (List UInt8)) (n : Nd), ks.length = m + 1 → ds ≠ [] → fit (ds ++ ks) = true → n ∈ ns → n.path = pathL (ds ++ ks) → ∃ q ∈ ns, q.path = pathL ds ∧ q.dir = true
  | m, ds, ks, n, hl, hd, hf, hn, hp => by
    obtain ⟨ms, x, rfl⟩ := snoc_of (show ks ≠ [] by intro e; subst e; simp at hl)
    have h1 := h.dir n hn
    rw [hp, ← List.append_assoc, dir_snoc (by rw [List.append_assoc]; exact hf)] at h1
    have hf2 : fit (ds ++ ms) = true := (fit_sub (b := [x]) (by rw [List.append_assoc]; exact hf)).1
    rcases (dirB_iff h.up).1 h1 with e | ⟨q, hq, hqp, hqd⟩
    · have := (pathL_root hf2).1 e
      exact absurd (List.append_eq_nil_iff.1 this).1 hd
    · cases m with
      | zero =>
        have : ms = [] := by simpa using hl
        subst this
        rw [List.append_nil] at hqp
        exact ⟨q, hq, hqp, hqd⟩
      | succ m => exact above h m ds ms q (by simp at hl; omega) hd hf2 hq hqp
theorem node_names {ns : List Nd} {next : Int} (h : Right ns next) {n : Nd} (hn : n ∈ ns) : ∃ ms, ms ≠ [] ∧ fit ms = true ∧ n.path = pathL ms := names_pos (node_path (h.node n hn))
theorem above_under {ns : List Nd} {next : Int} (h : Right ns next) {n : Nd} (hn : n ∈ ns) {d : List UInt8} (hd : 0 < depthV d) (hu : underV n.path d = true) : ∃ q ∈ ns, q.path = d ∧ q.dir = true := by
  obtain ⟨ds, hds, hdf, rfl⟩ := names_pos hd
  obtain ⟨ms, hms, hmf, hp⟩ := node_names h hn
  rw [hp] at hu
  obtain ⟨k, hk, rfl⟩ := (under_names hmf hdf).1 hu
  have hkl : k.length ≠ 0 := fun e => hk (List.eq_nil_of_length_eq_zero e)
  exact above h (k.length - 1) ds k n (by omega) hds hmf hn hp

/-! What moves. -/
def goesB (o : Ov) (n : Nd) : Bool := decide (n.path = o.path) || underV n.path o.path
theorem goes_not {o : Ov} {n : Nd} (h : goesB o n = false) : movedN o n = n := by
  unfold goesB at h
  simp only [Bool.or_eq_false_iff, decide_eq_false_iff_not] at h
  unfold movedN
  rw [if_neg]
  rintro (e | e)
  · exact h.1 e
  · rw [h.2] at e; cases e
theorem goes_yes {o : Ov} {n : Nd} (h : goesB o n = true) : movedN o n = { n with path := o.dest ++ n.path.drop o.path.length } := by
  unfold goesB at h
  simp only [Bool.or_eq_true, decide_eq_true_eq] at h
  unfold movedN
  rw [if_pos h]
theorem goes_iff {o : Ov} {n : Nd} {ps ms : List (List UInt8)} (hp : o.path = pathL ps) (hpf : fit ps = true) (hn : n.path = pathL ms) (hmf : fit ms = true) : goesB o n = true ↔ ∃ k, ms = ps ++ k := by
  unfold goesB
  simp only [Bool.or_eq_true, decide_eq_true_eq]
  rw [hn, hp, under_names hmf hpf]
  constructor
  · rintro (e | ⟨k, _, rfl⟩)
    · exact ⟨[], by rw [List.append_nil]; exact pathL_inj hmf hpf e⟩
    · exact ⟨k, rfl⟩
  · rintro ⟨k, rfl⟩
    by_cases hk : k = []
    · subst hk; rw [List.append_nil]; exact .inl rfl
    · exact .inr ⟨k, hk, rfl⟩
theorem moved_names {o : Ov} {n : Nd} {ps ds k : List (List UInt8)} (hp : o.path = pathL ps) (hp0 : ps ≠ []) (hd : o.dest = pathL ds) (hd0 : ds ≠ []) (hpf : fit ps = true) (hn : n.path = pathL (ps ++ k)) (hnf : fit (ps ++ k) = true) : (movedN o n).path = pathL (ds ++ k) := by
  rw [goes_yes ((goes_iff hp hpf hn hnf).2 ⟨k, rfl⟩)]
  show o.dest ++ n.path.drop o.path.length = _
  rw [hn, hp, hd, pathL_ne hp0, pathL_ne hd0, pathL_ne (by simp [hp0]), pathL_ne (by simp [hd0]), joinT_append, joinT_append, List.drop_left]
theorem moved_rest (o : Ov) (n : Nd) : (movedN o n).dir = n.dir ∧ (movedN o n).mode = n.mode ∧ (movedN o n).time = n.time ∧ (movedN o n).id = n.id ∧ (movedN o n).data = n.data := by
  unfold movedN
  split <;> exact ⟨rfl, rfl, rfl, rfl, rfl⟩
/-- What is left behind a move, not yet in order. -/
def stayN (o : Ov) (ns : List Nd) : List Nd := (ns.filter fun n => !decide (n.path = o.dest)).map (movedN o)
def pathsOk (ns : List Nd) : Bool := ns.all fun n => decide (0 < depthV n.path)
def putAll (acc ns : List Nd) : List Nd := ns.foldl (fun a n => putN n a) acc
theorem moveGo_is (o : Ov) : ∀ (ns acc : List Nd), moveGo o acc ns = if pathsOk (stayN o ns) = true then some (putAll acc (stayN o ns)) else none
  | [], acc => rfl
  | n :: r, acc => by
    show (if n.path = o.dest then moveGo o acc r else if 0 < depthV (movedN o n).path then moveGo o (putN (movedN o n) acc) r else none) = _
    by_cases e : n.path = o.dest
    · rw [if_pos e, moveGo_is o r acc]
      have : stayN o (n :: r) = stayN o r := by unfold stayN; rw [List.filter_cons_of_neg (by simp [e])]
      rw [this]
    · have hs : stayN o (n :: r) = movedN o n :: stayN o r := by unfold stayN; rw [List.filter_cons_of_pos (by simp [e])]; rfl
      rw [if_neg e, hs]
      by_cases h0 : 0 < depthV (movedN o n).path
      · rw [if_pos h0, moveGo_is o r]
        have : pathsOk (movedN o n :: stayN o r) = pathsOk (stayN o r) := by unfold pathsOk; rw [List.all_cons, decide_eq_true h0, Bool.true_and]
        rw [this]
        rfl
      · rw [if_neg h0]
        have : pathsOk (movedN o n :: stayN o r) = false := by unfold pathsOk; rw [List.all_cons, decide_eq_false h0, Bool.false_and]
        rw [this]; rfl
theorem putAll_perm : ∀ (ns acc : List Nd), (putAll acc ns).Perm (acc ++ ns)
  | [], acc => by rw [List.append_nil]; exact List.Perm.refl _
  | n :: r, acc => by
    refine (putAll_perm r (putN n acc)).trans ?_
    refine ((putN_perm n acc).append_right r).trans ?_
    rw [List.cons_append]
    exact List.perm_middle.symm
theorem putAll_up : ∀ (ns acc : List Nd), Up acc → (∀ a ∈ acc, ∀ n ∈ ns, a.path ≠ n.path) → (ns.Pairwise fun a b => a.path ≠ b.path) → Up (putAll acc ns)
  | [], acc, h, _, _ => h
  | n :: r, acc, h, h1, h2 => by
    rw [List.pairwise_cons] at h2
    refine putAll_up r (putN n acc) (up_put h fun m hm => h1 m hm n (by simp)) (fun a ha x hx => ?_) h2.2
    rcases (putN_mem n a acc).1 ha with rfl | ha
    · exact h2.1 x hx
    · exact h1 a ha x (by simp [hx])
/-- What a move may go by. -/
structure MayMove (ns : List Nd) (next : Int) (o : Ov) : Prop where
  right : Right ns next
  path : 0 < depthV o.path
  dest : 0 < depthV o.dest
  ne : o.dest ≠ o.path
  under : underV o.dest o.path = false
  kind : ¬ ((findV o.dest ns).isSome = true ∧ (dirAt ns o.dest = true ∨ dirAt ns o.path = true))
  dir : dirB ns (dirV o.dest) = true
theorem MayMove.nofolder {ns : List Nd} {next : Int} {o : Ov} (h : MayMove ns next o) {q : Nd} (hq : q ∈ ns) (hd : q.dir = true) : q.path ≠ o.dest := fun e =>
  h.kind ⟨path_some hq e, .inl ((dirAt_iff h.right.up).2 ⟨q, hq, e, hd⟩)⟩
theorem MayMove.nounder {ns : List Nd} {next : Int} {o : Ov} (h : MayMove ns next o) {n : Nd} (hn : n ∈ ns) : underV n.path o.dest = false := by
  cases hu : underV n.path o.dest with
  | false => rfl
  | true =>
    obtain ⟨q, hq, e, hd⟩ := above_under h.right hn h.dest hu
    exact absurd e (h.nofolder hq hd)
theorem same_moved {ns : List Nd} {next : Int} {o : Ov} (h : MayMove ns next o) {a b : Nd} (ha : a ∈ ns) (hb : b ∈ ns) (hbd : b.path ≠ o.dest) (ga : goesB o a = true) (gb : goesB o b = false) : (movedN o a).path ≠ (movedN o b).path := by
  intro e
  obtain ⟨ps, hp0, hpf, hp⟩ := names_pos h.path
  obtain ⟨ds, hd0, hdf, hd⟩ := names_pos h.dest
  obtain ⟨xs, _, haf, hap⟩ := node_names h.right ha
  obtain ⟨ys, _, hbf, hbp⟩ := node_names h.right hb
  obtain ⟨k, rfl⟩ := (goes_iff hp hpf hap haf).1 ga
  rw [moved_names hp hp0 hd hd0 hpf hap haf, goes_not gb, hbp] at e
  have h1 := namesO_free (ns := ds ++ k) fun n hn => by
    rcases List.mem_append.1 hn with hn | hn
    · exact fit_free hdf n hn
    · exact fit_free haf n (by simp [hn])
  rw [e, namesO_of hbf] at h1
  by_cases hf : fit (ds ++ k) = true
  · rw [if_pos hf] at h1
    obtain rfl := Option.some.inj h1
    by_cases hk : k = []
    · subst hk
      rw [List.append_nil] at hbp
      exact hbd (hbp.trans hd.symm)
    · have := h.nounder hb
      rw [hbp, hd] at this
      rw [(under_names hbf hdf).2 ⟨k, hk, rfl⟩] at this
      cases this
  · rw [if_neg hf] at h1; cases h1
theorem moved_apart {ns : List Nd} {next : Int} {o : Ov} (h : MayMove ns next o) {a b : Nd} (ha : a ∈ ns) (hb : b ∈ ns) (had : a.path ≠ o.dest) (hbd : b.path ≠ o.dest) (hab : a.path ≠ b.path) : (movedN o a).path ≠ (movedN o b).path := by
  cases ga : goesB o a with
  | false =>
    cases gb : goesB o b with
    | false => rw [goes_not ga, goes_not gb]; exact hab
    | true => exact (same_moved h hb ha had gb ga).symm
  | true =>
    cases gb : goesB o b with
    | false => exact same_moved h ha hb hbd ga gb
    | true =>
      intro e
      obtain ⟨ps, hp0, hpf, hp⟩ := names_pos h.path
      obtain ⟨ds, hd0, hdf, hd⟩ := names_pos h.dest
      obtain ⟨xs, _, haf, hap⟩ := node_names h.right ha
      obtain ⟨ys, _, hbf, hbp⟩ := node_names h.right hb
      obtain ⟨k, rfl⟩ := (goes_iff hp hpf hap haf).1 ga
      obtain ⟨q, rfl⟩ := (goes_iff hp hpf hbp hbf).1 gb
      rw [moved_names hp hp0 hd hd0 hpf hap haf, moved_names hp hp0 hd hd0 hpf hbp hbf, pathL_ne (by simp [hd0]), pathL_ne (by simp [hd0]), joinT_append, joinT_append] at e
      have := List.append_cancel_left e
      apply hab
      rw [hap, hbp, pathL_ne (by simp [hp0]), pathL_ne (by simp [hp0]), joinT_append, joinT_append, this]
theorem stay_apart {ns : List Nd} {next : Int} {o : Ov} (h : MayMove ns next o) : (stayN o ns).Pairwise fun a b => a.path ≠ b.path := by
  unfold stayN
  rw [List.pairwise_map]
  refine List.Pairwise.imp_of_mem (R := fun a b => lessB a.path b.path = true) (fun {a b} ha hb hl => ?_) (List.Pairwise.filter _ (show ns.Pairwise fun a b => lessB a.path b.path = true from h.right.up))
  have ha2 := List.mem_filter.1 ha
  have hb2 := List.mem_filter.1 hb
  exact moved_apart h ha2.1 hb2.1 (by simpa using ha2.2) (by simpa using hb2.2) (less_ne hl)
/-- Whatever holds what is left, in order, is what the move makes. -/
theorem move_sorted {ns : List Nd} {next : Int} {o : Ov} (h : MayMove ns next o) {l : List Nd} (hp : l.Perm (stayN o ns)) (hs : l.Pairwise fun a b => lessB b.path a.path = false) : l = putAll [] (stayN o ns) := by
  have ha := stay_apart h
  refine up_unique ?_ (putAll_up _ [] List.Pairwise.nil (by simp) ha) (hp.trans (putAll_perm (stayN o ns) []).symm)
  have ha2 : l.Pairwise fun a b => a.path ≠ b.path := (hp.pairwise_iff (fun e => Ne.symm e)).2 ha
  refine List.Pairwise.imp (fun {a b} hh => ?_) (hs.and ha2)
  cases hl : lessB a.path b.path with
  | true => rfl
  | false => exact absurd (less_tri _ _ hl hh.1) hh.2
theorem mem_stay {o : Ov} {ns : List Nd} {m : Nd} : m ∈ stayN o ns ↔ ∃ n ∈ ns, n.path ≠ o.dest ∧ movedN o n = m := by
  unfold stayN
  simp only [List.mem_map, List.mem_filter, Bool.not_eq_true', decide_eq_false_iff_not]
  constructor
  · rintro ⟨n, ⟨h1, h2⟩, h3⟩; exact ⟨n, h1, h2, h3⟩
  · rintro ⟨n, h1, h2, h3⟩; exact ⟨n, ⟨h1, h2⟩, h3⟩
/-- A folder of a node that stays is moved as the node is. -/
theorem stay_dir {ns : List Nd} {next : Int} {o : Ov} (h : MayMove ns next o) {n : Nd} (hn : n ∈ ns) (hok : 0 < depthV (movedN o n).path) : dirV (movedN o n).path = [47] ∨ ∃ q ∈ stayN o ns, q.path = dirV (movedN o n).path ∧ q.dir = true := by
  obtain ⟨ps, hp0, hpf, hp⟩ := names_pos h.path
  obtain ⟨ds, hd0, hdf, hd⟩ := names_pos h.dest
  obtain ⟨ms, hm0, hmf, hmp⟩ := node_names h.right hn
  cases g : goesB o n with
  | false =>
    rw [goes_not g]
    rcases (dirB_iff h.right.up).1 (h.right.dir n hn) with e | ⟨q, hq, hqp, hqd⟩
    · exact .inl e
    · have gq : goesB o q = false := by
        cases gq : goesB o q with
        | false => rfl
        | true =>
          exfalso
          obtain ⟨qs, hq0, hqf, hqp2⟩ := node_names h.right hq
          obtain ⟨k, rfl⟩ := (goes_iff hp hpf hqp2 hqf).1 gq
          obtain ⟨ms', x, rfl⟩ := snoc_of hm0
          rw [hmp, dir_snoc hmf, hqp2] at hqp
          have e := pathL_inj hqf (fit_sub hmf).1 hqp
          rw [← e, List.append_assoc] at hmf hmp
          rw [(goes_iff hp hpf hmp hmf).2 ⟨_, rfl⟩] at g; cases g
      refine .inr ⟨q, mem_stay.2 ⟨q, hq, h.nofolder hq hqd, goes_not gq⟩, hqp, hqd⟩
  | true =>
    obtain ⟨k, rfl⟩ := (goes_iff hp hpf hmp hmf).1 g
    rw [moved_names hp hp0 hd hd0 hpf hmp hmf] at hok ⊢
    have hfd : fit (ds ++ k) = true := by
      have h1 := namesO_free (ns := ds ++ k) fun n hn => by
        rcases List.mem_append.1 hn with hn | hn
        · exact fit_free hdf n hn
        · exact fit_free hmf n (by simp [hn])
      by_cases hf : fit (ds ++ k) = true
      · exact hf
      · rw [if_neg hf] at h1
        unfold depthV at hok
        rw [h1] at hok; simp at hok
    by_cases hk : k = []
    · subst hk
      rw [List.append_nil, ← hd]
      rcases (dirB_iff h.right.up).1 h.dir with e | ⟨q, hq, hqp, hqd⟩
      · exact .inl e
      · have gq : goesB o q = false := by
          cases gq : goesB o q with
          | false => rfl
          | true =>
            exfalso
            obtain ⟨qs, hq0, hqf, hqp2⟩ := node_names h.right hq
            obtain ⟨j, rfl⟩ := (goes_iff hp hpf hqp2 hqf).1 gq
            obtain ⟨ds', x, rfl⟩ := snoc_of hd0
            rw [hd, dir_snoc hdf, hqp2] at hqp
            have e := pathL_inj hqf (fit_sub hdf).1 hqp
            have hu := h.under
            rw [hd, hp] at hu
            rw [(under_names hdf hpf).2 ⟨j ++ [x], by simp, by rw [← e, List.append_assoc]⟩] at hu
            cases hu
        exact .inr ⟨q, mem_stay.2 ⟨q, hq, h.nofolder hq hqd, goes_not gq⟩, hqp, hqd⟩
    · obtain ⟨k', x, rfl⟩ := snoc_of hk
      rw [← List.append_assoc] at hfd hmf hmp ⊢
      rw [dir_snoc hfd]
      have hdr := h.right.dir n hn
      rw [hmp, dir_snoc hmf] at hdr
      have hkf := (fit_sub hmf).1
      rcases (dirB_iff h.right.up).1 hdr with e | ⟨q, hq, hqp, hqd⟩
      · exact absurd (List.append_eq_nil_iff.1 ((pathL_root hkf).1 e)).1 hp0
      · refine .inr ⟨movedN o q, mem_stay.2 ⟨q, hq, h.nofolder hq hqd, rfl⟩, moved_names hp hp0 hd hd0 hpf hqp hkf, ?_⟩
        rw [(moved_rest o q).1]; exact hqd
theorem node_moved {o : Ov} {n : Nd} {next : Int} (h : nodeB n next = true) (hp : 0 < depthV (movedN o n).path) : nodeB (movedN o n) next = true := by
  obtain ⟨h1, h2, h3, h4, h5⟩ := moved_rest o n
  unfold nodeB at h ⊢
  rw [h1, h2, h3, h4, h5, decide_eq_true hp]
  simp only [Bool.and_eq_true] at h
  simp only [Bool.and_eq_true]
  exact ⟨trivial, h.2⟩
theorem move_right {ns : List Nd} {next : Int} {o : Ov} (h : MayMove ns next o) (hok : pathsOk (stayN o ns) = true) : Right (putAll [] (stayN o ns)) next := by
  have hpm : (putAll [] (stayN o ns)).Perm (stayN o ns) := putAll_perm (stayN o ns) []
  have hmem : ∀ m, m ∈ putAll [] (stayN o ns) ↔ m ∈ stayN o ns := fun m => hpm.mem_iff
  have hup : Up (putAll [] (stayN o ns)) := putAll_up _ [] List.Pairwise.nil (by simp) (stay_apart h)
  have hd : ∀ m ∈ stayN o ns, 0 < depthV m.path := fun m hm => by
    unfold pathsOk at hok
    rw [List.all_eq_true] at hok
    simpa using hok m hm
  refine ⟨?_, h.right.lo, h.right.hi, hup, fun m hm => ?_, fun m hm => ?_, ?_⟩
  · rw [hpm.length_eq]
    unfold stayN
    rw [List.length_map]
    exact Nat.le_trans (List.length_filter_le _ _) h.right.len
  · have hm2 := (hmem m).1 hm
    obtain ⟨n, hn, _, rfl⟩ := mem_stay.1 hm2
    exact node_moved (h.right.node n hn) (hd _ hm2)
  · have hm2 := (hmem m).1 hm
    obtain ⟨n, hn, _, rfl⟩ := mem_stay.1 hm2
    rw [dirB_iff hup]
    rcases stay_dir h hn (hd _ hm2) with e | ⟨q, hq, h1, h2⟩
    · exact .inl e
    · exact .inr ⟨q, (hmem q).2 hq, h1, h2⟩
  · refine (hpm.pairwise_iff (fun e => Ne.symm e)).2 ?_
    unfold stayN
    rw [List.pairwise_map]
    refine List.Pairwise.imp (fun {a b} hh => ?_) (List.Pairwise.filter _ h.right.ids)
    rw [(moved_rest o a).2.2.2.1, (moved_rest o b).2.2.2.1]
    exact hh
end Go.Proofs.YtipedabppgbfcaaGreatDoor
