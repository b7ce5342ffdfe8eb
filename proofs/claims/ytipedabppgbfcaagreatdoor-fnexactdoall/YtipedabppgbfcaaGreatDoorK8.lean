/- Whatever is done, a right tree stays right; no program in this text. The tree that is worked on: a block that holds a row of interface values, each over a node's own block. -/
import Derived.Test.YtipedabppgbfcaaGreatDoorK7
import Derived.Test.YtipedabppgbfcaaGreatDoorK6
set_option linter.all false
namespace Go.Proofs.YtipedabppgbfcaaGreatDoor

structure Args (o : Ov) : Prop where
  kind : 0 ≤ o.kind ∧ o.kind ≤ 8
  path : o.kind ≠ 8 → 0 < depthV o.path
  new : o.kind = 0 ∨ o.kind = 1 → inB o.mode 0 511 = true ∧ timeOk o.time = true
  mode : o.kind = 6 → inB o.mode 0 511 = true
  time : o.kind = 2 ∨ o.kind = 3 ∨ o.kind = 7 → timeOk o.time = true
  move : o.kind = 4 → 0 < depthV o.dest ∧ o.dest ≠ o.path ∧ underV o.dest o.path = false
theorem Args.of {o : Ov} (h : argsB o = true) : Args o := by
  unfold argsB at h
  by_cases h0 : inB o.kind 0 8 = true
  rotate_left
  · rw [if_neg h0] at h; cases h
  rw [if_pos h0] at h
  have hk : 0 ≤ o.kind ∧ o.kind ≤ 8 := by unfold inB at h0; simpa using h0
  by_cases h8 : o.kind = 8
  · exact ⟨hk, fun e => absurd h8 e, fun e => by omega, fun e => by omega, fun e => by omega, fun e => by omega⟩
  rw [if_neg h8] at h
  by_cases hp : 0 < depthV o.path
  rotate_left
  · rw [if_neg hp] at h; cases h
  rw [if_pos hp] at h
  by_cases h1 : o.kind = 0 ∨ o.kind = 1
  · rw [if_pos h1, Bool.and_eq_true] at h
    exact ⟨hk, fun _ => hp, fun _ => h, fun e => by omega, fun e => by omega, fun e => by omega⟩
  rw [if_neg h1] at h
  by_cases h6 : o.kind = 6
  · rw [if_pos h6] at h
    exact ⟨hk, fun _ => hp, fun e => absurd e h1, fun _ => h, fun e => by omega, fun e => by omega⟩
  rw [if_neg h6] at h
  by_cases h2 : o.kind = 2 ∨ o.kind = 3 ∨ o.kind = 7
  · rw [if_pos h2] at h
    exact ⟨hk, fun _ => hp, fun e => absurd e h1, fun e => absurd e h6, fun _ => h, fun e => by omega⟩
  rw [if_neg h2] at h
  by_cases h4 : o.kind = 4
  · rw [if_pos h4] at h
    simp only [Bool.and_eq_true, decide_eq_true_eq, Bool.not_eq_true', decide_eq_false_iff_not] at h
    exact ⟨hk, fun _ => hp, fun e => absurd e h1, fun e => absurd e h6, fun e => absurd e h2, fun _ => ⟨h.1, h.2.1, h.2.2⟩⟩
  · exact ⟨hk, fun _ => hp, fun e => absurd e h1, fun e => absurd e h6, fun e => absurd e h2, fun e => absurd e h4⟩

theorem node_mono {n : Nd} {a b : Int} (h : nodeB n a = true) (hab : a ≤ b) : nodeB n b = true := by
  unfold nodeB inB at h ⊢
  simp only [Bool.and_eq_true, decide_eq_true_eq] at h ⊢
  obtain ⟨h1, h2, h3, ⟨h4, h5⟩, h6⟩ := h
  exact ⟨h1, h2, h3, ⟨h4, by omega⟩, h6⟩
theorem node_id {n : Nd} {next : Int} (h : nodeB n next = true) : 1 ≤ n.id ∧ n.id ≤ next - 1 := by
  unfold nodeB inB at h
  simp only [Bool.and_eq_true, decide_eq_true_eq] at h
  exact h.2.2.2.1
theorem new_right {t : Tv} {o : Ov} (h : Right t.ns t.next) (hp : 0 < depthV o.path) (hm : inB o.mode 0 511 = true) (ht : timeOk o.time = true) (hf : findV o.path t.ns = none) (hd : dirB t.ns (dirV o.path) = true) (hl : ¬ (t.ns.length = 60 ∨ t.next = 1000000)) : Right (putN (newNd t o) t.ns) (t.next + 1) := by
  have hno := none_path hf
  have hup : Up (putN (newNd t o) t.ns) := up_put h.up hno
  have h1 := h.len
  have h2 := h.lo
  have h3 := h.hi
  refine ⟨by rw [putN_len]; omega, by omega, by omega, hup, fun n hn => ?_, fun n hn => ?_, ?_⟩
  · rcases (putN_mem _ n _).1 hn with rfl | hn
    · unfold nodeB newNd
      simp only [List.length_nil, List.isEmpty_nil, Bool.or_true, Bool.and_true, Bool.and_eq_true, decide_eq_true_eq]
      exact ⟨hp, hm, ht, inB_t h2 (by omega), by omega⟩
    · exact node_mono (h.node n hn) (by omega)
  · rw [dirB_iff hup]
    have hold : dirB t.ns (dirV n.path) = true := by
      rcases (putN_mem _ n _).1 hn with rfl | hn
      · exact hd
      · exact h.dir n hn
    rcases (dirB_iff h.up).1 hold with e | ⟨q, hq, e1, e2⟩
    · exact .inl e
    · exact .inr ⟨q, (putN_mem _ q _).2 (.inr hq), e1, e2⟩
  · refine ((putN_perm (newNd t o) t.ns).pairwise_iff (fun e => Ne.symm e)).2 ?_
    rw [List.pairwise_cons]
    refine ⟨fun m hm e => ?_, h.ids⟩
    have := (node_id (h.node m hm)).2
    have e2 : t.next = m.id := e
    omega
theorem set_right {ns : List Nd} {next : Int} {i : Nat} {n : Nd} (h : Right ns next) (hi : i < ns.length) (hp : n.path = ns[i].path) (hd : n.dir = ns[i].dir) (hid : n.id = ns[i].id) (hn : nodeB n next = true) : Right (ns.set i n) next := by
  have hat : ∀ j (hj : j < (ns.set i n).length), ∃ hj2 : j < ns.length, (ns.set i n)[j].path = ns[j].path ∧ (ns.set i n)[j].dir = ns[j].dir ∧ (ns.set i n)[j].id = ns[j].id ∧ nodeB (ns.set i n)[j] next = true := fun j hj => by
    have hj2 : j < ns.length := by simpa using hj
    refine ⟨hj2, ?_⟩
    rw [List.getElem_set]
    by_cases e : i = j
    · subst e
      rw [if_pos rfl]; exact ⟨hp, hd, hid, hn⟩
    · rw [if_neg e]; exact ⟨rfl, rfl, rfl, h.node _ (List.getElem_mem hj2)⟩
  have hup : Up (ns.set i n) := by
    unfold Up
    rw [List.pairwise_iff_getElem]
    intro a b ha hb hab
    obtain ⟨ha2, e1, _⟩ := hat a ha
    obtain ⟨hb2, e2, _⟩ := hat b hb
    rw [e1, e2]
    exact List.pairwise_iff_getElem.1 h.up a b ha2 hb2 hab
  refine ⟨by rw [List.length_set]; exact h.len, h.lo, h.hi, hup, fun m hm => ?_, fun m hm => ?_, ?_⟩
  · obtain ⟨j, hj, rfl⟩ := List.getElem_of_mem hm
    exact (hat j hj).2.2.2.2
  · obtain ⟨j, hj, rfl⟩ := List.getElem_of_mem hm
    obtain ⟨hj2, e1, _⟩ := hat j hj
    rw [e1, dirB_iff hup]
    rcases (dirB_iff h.up).1 (h.dir _ (List.getElem_mem hj2)) with e | ⟨q, hq, e2, e3⟩
    · exact .inl e
    · obtain ⟨a, ha, rfl⟩ := List.getElem_of_mem hq
      have ha2 : a < (ns.set i n).length := by simpa using ha
      obtain ⟨_, e4, e5, _⟩ := hat a ha2
      exact .inr ⟨_, List.getElem_mem ha2, e4.trans e2, e5.trans e3⟩
  · rw [List.pairwise_iff_getElem]
    intro a b ha hb hab
    obtain ⟨ha2, _, _, e1, _⟩ := hat a ha
    obtain ⟨hb2, _, _, e2, _⟩ := hat b hb
    rw [e1, e2]
    exact List.pairwise_iff_getElem.1 h.ids a b ha2 hb2 hab
theorem without_right {ns : List Nd} {next : Int} {p : List UInt8} (h : Right ns next) (hp : 0 < depthV p) (hb : busyB ns p = false) : Right (withoutN p ns) next := by
  unfold withoutN
  have hup : Up (ns.filter fun n => !decide (n.path = p)) := List.Pairwise.filter _ (show ns.Pairwise fun a b => lessB a.path b.path = true from h.up)
  refine ⟨Nat.le_trans (List.length_filter_le _ _) h.len, h.lo, h.hi, hup, fun n hn => h.node n (List.mem_filter.1 hn).1, fun n hn => ?_, List.Pairwise.filter _ h.ids⟩
  have hn2 := (List.mem_filter.1 hn).1
  rw [dirB_iff hup]
  rcases (dirB_iff h.up).1 (h.dir n hn2) with e | ⟨q, hq, e1, e2⟩
  · exact .inl e
  · refine .inr ⟨q, List.mem_filter.2 ⟨hq, ?_⟩, e1, e2⟩
    simp only [Bool.not_eq_true', decide_eq_false_iff_not]
    intro e
    obtain ⟨ps, hp0, hpf, rfl⟩ := names_pos hp
    obtain ⟨ms, hm0, hmf, hmp⟩ := node_names h hn2
    obtain ⟨ms', x, rfl⟩ := snoc_of hm0
    rw [hmp, dir_snoc hmf, e] at e1
    have e3 := pathL_inj hpf (fit_sub hmf).1 e1
    have : underV n.path (pathL ps) = true := by rw [hmp, under_names hmf hpf]; exact ⟨[x], by simp, by rw [e3]⟩
    unfold busyB at hb
    rw [List.any_eq_false] at hb
    exact hb n hn2 this
theorem may_of {t : Tv} {o : Ov} (h : Right t.ns t.next) (ha : argsB o = true) (h4 : o.kind = 4) (hk : ¬ ((findV o.dest t.ns).isSome = true ∧ (dirAt t.ns o.dest = true ∨ dirAt t.ns o.path = true))) (hd : dirB t.ns (dirV o.dest) = true) : MayMove t.ns t.next o :=
  have hA := Args.of ha
  ⟨h, hA.path (by omega), (hA.move h4).1, (hA.move h4).2.1, (hA.move h4).2.2, hk, hd⟩
theorem move_is {t : Tv} {o : Ov} (hk : ¬ ((findV o.dest t.ns).isSome = true ∧ (dirAt t.ns o.dest = true ∨ dirAt t.ns o.path = true))) (hd : dirB t.ns (dirV o.dest) = true) : moveV t o = if pathsOk (stayN o t.ns) = true then (⟨putAll [] (stayN o t.ns), t.next⟩, 0) else (t, 1) := by
  unfold moveV
  rw [if_neg hk, hd, if_pos rfl, moveGo_is]
  by_cases h : pathsOk (stayN o t.ns) = true
  · rw [if_pos h, if_pos h]
  · rw [if_neg h, if_neg h]
theorem change_right {t : Tv} {o : Ov} (h : Right t.ns t.next) (hA : Args o) (hk : o.kind = 2 ∨ o.kind = 3 ∨ o.kind = 6 ∨ o.kind = 7) : Right (changeV t o).1.ns (changeV t o).1.next := by
  unfold changeV
  cases hf : findV o.path t.ns with
  | none => exact h
  | some i =>
    obtain ⟨hi, _, _⟩ := find_some hf
    simp only [List.getElem?_eq_getElem hi]
    by_cases h0 : (changeN o t.ns[i]).2 = 0
    rotate_left
    · rw [if_neg h0]; exact h
    rw [if_pos h0]
    have hn := h.node _ (List.getElem_mem hi)
    show Right (t.ns.set i (changeN o t.ns[i]).1) t.next
    generalize hnd : t.ns[i] = n at hn h0 ⊢
    have hs : ∀ m : Nd, m.path = n.path → m.dir = n.dir → m.id = n.id → nodeB m t.next = true → Right (t.ns.set i m) t.next := fun m e1 e2 e3 e4 => set_right h hi (by rw [hnd]; exact e1) (by rw [hnd]; exact e2) (by rw [hnd]; exact e3) e4
    unfold nodeB at hn
    simp only [Bool.and_eq_true, decide_eq_true_eq] at hn
    obtain ⟨n1, n2, n3, n4, n5, n6⟩ := hn
    have mk : ∀ m : Nd, m.path = n.path → m.dir = n.dir → m.id = n.id → inB m.mode 0 511 = true → timeOk m.time = true → m.data.length ≤ 3000 → (!m.dir || m.data.isEmpty) = true → Right (t.ns.set i m) t.next := fun m e1 e2 e3 e4 e5 e6 e7 => hs m e1 e2 e3 (by
      unfold nodeB
      simp only [Bool.and_eq_true, decide_eq_true_eq]
      exact ⟨by rw [e1]; exact n1, e4, e5, by rw [e3]; exact n4, e6, e7⟩)
    unfold changeN at h0 ⊢
    by_cases h6 : o.kind = 6
    · rw [if_pos h6]
      exact mk _ rfl rfl rfl (hA.mode h6) n3 n5 n6
    rw [if_neg h6] at h0 ⊢
    by_cases h7 : o.kind = 7
    · rw [if_pos h7]
      exact mk _ rfl rfl rfl n2 (hA.time (by omega)) n5 n6
    rw [if_neg h7] at h0 ⊢
    by_cases hd : n.dir = true
    · rw [if_pos hd] at h0; simp at h0
    rw [if_neg hd] at h0 ⊢
    have hdf : n.dir = false := by simpa using hd
    by_cases h3 : o.kind = 3
    · rw [if_pos h3]
      exact mk _ rfl rfl rfl n2 (hA.time (by omega)) (by simp) (by simp)
    rw [if_neg h3] at h0 ⊢
    by_cases hl : 3000 < n.data.length + o.data.length
    · rw [if_pos hl] at h0; simp at h0
    rw [if_neg hl]
    exact mk _ rfl rfl rfl n2 (hA.time (by omega)) (by simp; omega) (by simp [hdf])
theorem do_right {t : Tv} {o : Ov} (h : Right t.ns t.next) : Right (doV t o).1.ns (doV t o).1.next := by
  unfold doV
  by_cases ha : argsB o = true
  rotate_left
  · rw [if_neg ha]; exact h
  rw [if_pos ha]
  have hA := Args.of ha
  by_cases h8 : o.kind = 8
  · rw [if_pos h8]; exact h
  rw [if_neg h8]
  by_cases h1 : o.kind = 0 ∨ o.kind = 1
  · rw [if_pos h1]
    unfold newV
    cases hf : findV o.path t.ns with
    | some i => exact h
    | none =>
      simp only [Option.isSome_none, Bool.false_eq_true, if_false]
      by_cases hd : dirB t.ns (dirV o.path) = true
      rotate_left
      · rw [if_neg hd]; exact h
      rw [if_pos hd]
      by_cases hl : t.ns.length = 60 ∨ t.next = 1000000
      · rw [if_pos hl]; exact h
      rw [if_neg hl]
      exact new_right h (hA.path h8) (hA.new h1).1 (hA.new h1).2 hf hd hl
  rw [if_neg h1]
  by_cases hs : (findV o.path t.ns).isSome = true
  rotate_left
  · rw [if_neg hs]; exact h
  rw [if_pos hs]
  by_cases h4 : o.kind = 4
  · rw [if_pos h4]
    by_cases hk : (findV o.dest t.ns).isSome = true ∧ (dirAt t.ns o.dest = true ∨ dirAt t.ns o.path = true)
    · unfold moveV; rw [if_pos hk]; exact h
    by_cases hd : dirB t.ns (dirV o.dest) = true
    rotate_left
    · unfold moveV; rw [if_neg hk, if_neg hd]; exact h
    rw [move_is hk hd]
    by_cases hp : pathsOk (stayN o t.ns) = true
    · rw [if_pos hp]; exact move_right (may_of h ha h4 hk hd) hp
    · rw [if_neg hp]; exact h
  rw [if_neg h4]
  by_cases h5 : o.kind = 5
  · rw [if_pos h5]
    cases hb : busyB t.ns o.path with
    | true => exact h
    | false => exact without_right h (hA.path h8) hb
  rw [if_neg h5]
  exact change_right h hA (by have := hA.kind; omega)
theorem doGo_right : ∀ (os : List Ov) {t : Tv} {k : Nat}, Right t.ns t.next → Right (doGo t os k).1.ns (doGo t os k).1.next
  | [], _, _, h => h
  | o :: r, t, k, h => by
    unfold doGo
    by_cases h0 : (doV t o).2 = 0
    · rw [if_pos h0]; exact doGo_right r (do_right h)
    · rw [if_neg h0]; exact h
end Go.Proofs.YtipedabppgbfcaaGreatDoor
namespace Go.Proofs.YtipedabppgbfcaaGreatDoor
open Go.RowKit
variable {R : World}

/-- The cells of a node that is worked on. -/
def wkCells (n : Nd) : Array Value := if n.dir = true then #[.string (strOf n.path), .int .i64 n.mode, .int .i64 n.time, .int .i64 n.id] else #[.string (strOf n.path), .int .i64 n.mode, .int .i64 n.time, .int .i64 n.id, .string (strOf n.data)]
def wkType (n : Nd) : TypeId := if n.dir = true then 142 else 145
/-- Its interface value. -/
def wkVal (q : Nat × Nd) : Value := .iface (if q.2.dir = true then 140 else 143) (.pointer (some ⟨q.1, 0, none⟩))
/-- A node and its block. -/
structure WkAt (W : World) (b : Nat) (n : Nd) : Prop where
  blk : Blk W b (wkCells n) (wkType n)
  data : n.dir = true → n.data = []
theorem WkAt.dir {W : World} {b : Nat} {n : Nd} (h : WkAt W b n) (hd : n.dir = true) : Blk W b #[.string (strOf n.path), .int .i64 n.mode, .int .i64 n.time, .int .i64 n.id] 142 := by
  have := h.blk; unfold wkCells wkType at this; rw [if_pos hd, if_pos hd] at this; exact this
theorem WkAt.file {W : World} {b : Nat} {n : Nd} (h : WkAt W b n) (hd : n.dir = false) : Blk W b #[.string (strOf n.path), .int .i64 n.mode, .int .i64 n.time, .int .i64 n.id, .string (strOf n.data)] 145 := by
  have := h.blk; unfold wkCells wkType at this; rw [if_neg (by rw [hd]; decide), if_neg (by rw [hd]; decide)] at this; exact this
theorem wkVal_dir {b : Nat} {n : Nd} (hd : n.dir = true) : wkVal (b, n) = .iface 140 (.pointer (some ⟨b, 0, none⟩)) := by unfold wkVal; rw [if_pos hd]
theorem wkVal_file {b : Nat} {n : Nd} (hd : n.dir = false) : wkVal (b, n) = .iface 143 (.pointer (some ⟨b, 0, none⟩)) := by unfold wkVal; rw [if_neg (by rw [hd]; decide)]
theorem wkVal_one (q : Nat × Nd) : (wkVal q).oneCell' = true := rfl
theorem WkAt.lt {W : World} {b : Nat} {n : Nd} (h : WkAt W b n) : b < W.heap.size := h.blk.lt
/-- The first four cells, whatever it is. -/
theorem WkAt.cells {W : World} {b : Nat} {n : Nd} (h : WkAt W b n) : W.cell? ⟨b, 0, none⟩ = some (.string (strOf n.path)) ∧ W.cell? ⟨b, 1, none⟩ = some (.int .i64 n.mode) ∧ W.cell? ⟨b, 2, none⟩ = some (.int .i64 n.time) ∧ W.cell? ⟨b, 3, none⟩ = some (.int .i64 n.id) := by
  cases hd : n.dir with
  | true => have B := h.dir hd; exact ⟨B.cell 0, B.cell 1, B.cell 2, B.cell 3⟩
  | false => have B := h.file hd; exact ⟨B.cell 0, B.cell 1, B.cell 2, B.cell 3⟩
theorem WkAt.frozen {W : World} {b : Nat} {n : Nd} (h : WkAt W b n) (j : Nat) : W.frozen? ⟨b, j, none⟩ = false := h.blk.frozen j
theorem WkAt.on {W W' : World} {b : Nat} {n : Nd} (h : WkAt W b n) (hb : Below W.heap.size W W') : WkAt W' b n := ⟨h.blk.on hb, h.data⟩
theorem WkAt.grown {W W' : World} {b : Nat} {n : Nd} {row : Option Nat} (h : WkAt W b n) (hg : W.grownBy W' row) (hne : some b ≠ row) : WkAt W' b n := ⟨h.blk.grown hg hne, h.data⟩
theorem WkAt.other {W : World} {b : Nat} {n : Nd} (h : WkAt W b n) (a : Addr) (v : Value) (hne : b ≠ a.block) : WkAt (W.setCell a v) b n := ⟨h.blk.other a v hne, h.data⟩
theorem WkAt.type {W : World} {b : Nat} {n : Nd} (h : WkAt W b n) : ∃ cs, W.heap[b]? = some (.cells cs (wkType n) (0, 0)) := ⟨_, h.blk.blk⟩
/-- One of the first cells is written. -/
theorem WkAt.setPath {W : World} {b : Nat} {n : Nd} (h : WkAt W b n) (p : List UInt8) : WkAt (W.setCell ⟨b, 0, none⟩ (.string (strOf p))) b { n with path := p } := by
  refine ⟨?_, h.data⟩
  have := h.blk.set 0 (.string (strOf p))
  unfold wkCells wkType at this ⊢
  cases hd : n.dir with
  | true => simp only [hd, if_true] at this ⊢; exact this
  | false => simp only [hd, Bool.false_eq_true, if_false] at this ⊢; exact this
theorem WkAt.setMode {W : World} {b : Nat} {n : Nd} (h : WkAt W b n) (m : Int) : WkAt (W.setCell ⟨b, 1, none⟩ (.int .i64 m)) b { n with mode := m } := by
  refine ⟨?_, h.data⟩
  have := h.blk.set 1 (.int .i64 m)
  unfold wkCells wkType at this ⊢
  cases hd : n.dir with
  | true => simp only [hd, if_true] at this ⊢; exact this
  | false => simp only [hd, Bool.false_eq_true, if_false] at this ⊢; exact this
theorem WkAt.setTime {W : World} {b : Nat} {n : Nd} (h : WkAt W b n) (m : Int) : WkAt (W.setCell ⟨b, 2, none⟩ (.int .i64 m)) b { n with time := m } := by
  refine ⟨?_, h.data⟩
  have := h.blk.set 2 (.int .i64 m)
  unfold wkCells wkType at this ⊢
  cases hd : n.dir with
  | true => simp only [hd, if_true] at this ⊢; exact this
  | false => simp only [hd, Bool.false_eq_true, if_false] at this ⊢; exact this
theorem WkAt.setData {W : World} {b : Nat} {n : Nd} (h : WkAt W b n) (hf : n.dir = false) (d : List UInt8) : WkAt (W.setCell ⟨b, 4, none⟩ (.string (strOf d))) b { n with data := d } := by
  refine ⟨?_, fun e => by rw [show ({ n with data := d } : Nd).dir = n.dir from rfl, hf] at e; cases e⟩
  have := h.blk.set 4 (.string (strOf d))
  unfold wkCells wkType at this ⊢
  simp only [hf, Bool.false_eq_true, if_false] at this ⊢
  exact this

/-- A block that no tree that is worked on is made of. -/
def Free (o : Obj) : Prop := ∀ cs t m, o = .cells cs t m → t ≠ 137 ∧ t ≠ 149 ∧ t ≠ 142 ∧ t ≠ 145
/-- Each such block of R is in W as it is in R. -/
def Others (R W : World) : Prop := ∀ (k : Nat) (o : Obj), R.heap[k]? = some o → Free o → W.heap[k]? = some o
theorem Others.refl (W : World) : Others W W := fun _ _ h _ => h
theorem Others.trans {A B C : World} (h : Others A B) (k : Others B C) : Others A C := fun i o hi hf => k i o (h i o hi hf) hf
theorem Others.below {A B : World} (h : Below A.heap.size A B) : Others A B := fun i o hi _ => (h.block i (Array.getElem?_eq_some_iff.1 hi).1).trans hi
/-- A block of a tree's is written, or set anew. -/
theorem Others.grown {A B : World} {row : Option Nat} (h : A.grownBy B row) (hr : ∀ k, row = some k → ∀ o, A.heap[k]? = some o → ¬ Free o) : Others A B := fun i o hi hf =>
  (h.block i (Array.getElem?_eq_some_iff.1 hi).1 fun e => hr i e.symm o hi hf).trans hi
theorem Others.set {A : World} (a : Addr) (v : Value) (h : ∀ o, A.heap[a.block]? = some o → ¬ Free o) : Others A (A.setCell a v) := fun i o hi hf =>
  (Below.heap_setCell A a v i fun e => h o (by rw [← e]; exact hi) hf).trans hi
theorem Blk.bound {W : World} {b : Nat} {cs : Array Value} {t : TypeId} (h : Blk W b cs t) (ht : t = 137 ∨ t = 149 ∨ t = 142 ∨ t = 145) : ∀ o, W.heap[b]? = some o → ¬ Free o := fun o ho hf => by
  rw [h.blk] at ho
  cases ho
  obtain ⟨h1, h2, h3, h4⟩ := hf _ _ _ rfl
  rcases ht with e | e | e | e
  · exact h1 e
  · exact h2 e
  · exact h3 e
  · exact h4 e
theorem WkAt.bound {W : World} {b : Nat} {n : Nd} (h : WkAt W b n) : ∀ o, W.heap[b]? = some o → ¬ Free o := h.blk.bound (by
  unfold wkType
  cases n.dir
  · exact .inr (.inr (.inr rfl))
  · exact .inr (.inr (.inl rfl)))
theorem row_bound {W : World} {B n : Nat} {v : Value} {xs : List Value} (h : W.ownsRow B 149 1 v n xs) : ∀ k, v.ownBlock = some k → ∀ o, W.heap[k]? = some o → ¬ Free o := fun k hk o ho hf => by
  rcases h.2 with ⟨hv, _⟩ | ⟨g, cap, cur, hv, _, hg, _⟩
  · rw [hv] at hk; cases hk
  · rw [hv] at hk
    have e2 : g = k := by simpa [Value.ownBlock] using hk
    subst e2
    rw [hg] at ho
    cases ho
    exact (hf _ _ _ rfl).2.1 rfl
/-- The tree that is worked on, at block p; all its blocks lie from B on; what isn't a tree's is as it was in R. -/
structure Work (R W : World) (B p : Nat) (v : Value) (ps : List (Nat × Nd)) (next : Int) : Prop where
  lo : B ≤ p
  top : Blk W p #[v, .int .i64 next] 137
  row : W.ownsRow B 149 1 v ps.length (ps.map wkVal)
  node : ∀ q ∈ ps, B ≤ q.1 ∧ WkAt W q.1 q.2
  apart : ps.Pairwise fun a b => a.1 ≠ b.1
  oth : Others R W
abbrev nds (ps : List (Nat × Nd)) : List Nd := ps.map Prod.snd
theorem Work.on {W W' : World} {B p : Nat} {v : Value} {ps : List (Nat × Nd)} {next : Int} (h : Work R W B p v ps next) (hb : Below W.heap.size W W') : Work R W' B p v ps next :=
  ⟨h.lo, h.top.on hb, owns_on6 h.row hb, fun q hq => ⟨(h.node q hq).1, (h.node q hq).2.on hb⟩, h.apart, h.oth.trans (.below hb)⟩
/-- From here on. -/
theorem Work.now {W : World} {B p : Nat} {v : Value} {ps : List (Nat × Nd)} {next : Int} (h : Work R W B p v ps next) : Work W W B p v ps next := ⟨h.lo, h.top, h.row, h.node, h.apart, .refl W⟩
/-- Seen from an elder world. -/
theorem Work.past {W V : World} {B p : Nat} {v : Value} {ps : List (Nat × Nd)} {next : Int} (h : Work V W B p v ps next) (ho : Others R V) : Work R W B p v ps next := ⟨h.lo, h.top, h.row, h.node, h.apart, ho.trans h.oth⟩
theorem Work.plt {W : World} {B p : Nat} {v : Value} {ps : List (Nat × Nd)} {next : Int} (h : Work R W B p v ps next) : B ≤ p ∧ p < W.heap.size := ⟨h.lo, h.top.lt⟩
theorem Work.form {W : World} {B p : Nat} {v : Value} {ps : List (Nat × Nd)} {next : Int} (h : Work R W B p v ps next) :
    (v = .slice none 0 0 ∧ ps = []) ∨ ∃ g cap, v = .slice (some ⟨g, 0, none⟩) ps.length cap ∧ B ≤ g ∧ g < W.heap.size ∧ (∀ j (hj : j < ps.length), W.cell? ⟨g, j, none⟩ = some (wkVal ps[j])) ∧ (∀ j, W.frozen? ⟨g, j, none⟩ = false) ∧ ps.length ≤ cap ∧ cap ≤ maxLen ∧ ∃ cur : Array Value, W.heap[g]? = some (.cells cur 149 (0, 0)) ∧ cur.size = cap := by
  have h' := h.row
  rcases h'.2 with ⟨hv, hn⟩ | ⟨g, cap, cur, hv, hb, hg, hc, hm, hs, ht⟩
  · exact .inl ⟨hv, List.eq_nil_of_length_eq_zero hn⟩
  · subst hv
    refine .inr ⟨g, cap, rfl, hb, (Array.getElem?_eq_some_iff.1 hg).1, fun j hj => ?_, fun j => World.ownsRow.frozenAt h' j, hc, hm, cur, hg, by simpa using hs⟩
    rw [World.ownsRow.cellAt h' j (by omega), List.getElem?_map, List.getElem?_eq_getElem hj]; rfl
theorem Work.shape {W : World} {B p : Nat} {v : Value} {ps : List (Nat × Nd)} {next : Int} (h : Work R W B p v ps next) : ∃ a cap, v = .slice a ps.length cap := by
  rcases h.form with ⟨rfl, rfl⟩ | ⟨g, cap, rfl, _⟩
  · exact ⟨_, _, rfl⟩
  · exact ⟨_, _, rfl⟩
/-- The row's block is none of a node, nor the tree's own. -/
theorem Work.rowBlk {W : World} {B p : Nat} {v : Value} {ps : List (Nat × Nd)} {next : Int} (h : Work R W B p v ps next) {g : Nat} (hv : v.ownBlock = some g) : g ≠ p ∧ ∀ q ∈ ps, g ≠ q.1 := by
  rcases h.form with ⟨rfl, _⟩ | ⟨g2, cap, rfl, _, _, _, _, _, _, cur, hg, _⟩
  · cases hv
  · have e : g2 = g := by simpa [Value.ownBlock] using hv
    subst e
    refine ⟨fun e => ?_, fun q hq e => ?_⟩
    · have := h.top.blk
      rw [← e, hg] at this
      simp at this
    · have := (h.node q hq).2.blk.blk
      rw [← e, hg] at this
      unfold wkType at this
      cases hd : q.2.dir <;> rw [hd] at this <;> simp at this
theorem Work.topApart {W : World} {B p : Nat} {v : Value} {ps : List (Nat × Nd)} {next : Int} (h : Work R W B p v ps next) : ∀ q ∈ ps, p ≠ q.1 := fun q hq e => by
  have h1 := h.top.blk
  have h2 := (h.node q hq).2.blk.blk
  rw [e, h2] at h1
  unfold wkType at h1
  cases hd : q.2.dir <;> rw [hd] at h1 <;> simp at h1
/-- The row is written, or a new one is; nothing else. -/
theorem Work.rerow {W W' : World} {B p : Nat} {v v' : Value} {ps ps' : List (Nat × Nd)} {next : Int} (h : Work R W B p v ps next) (hg : W.grownBy W' v.ownBlock) (hr : W'.ownsRow B 149 1 v' ps'.length (ps'.map wkVal)) (hsub : ∀ q ∈ ps', q ∈ ps) (hap : ps'.Pairwise fun a b => a.1 ≠ b.1) (u : Value) (hu : u = v') :
    Work R (W'.setCell ⟨p, 0, none⟩ u) B p v' ps' next := by
  subst hu
  have hne : some p ≠ v.ownBlock := fun e => (h.rowBlk e.symm).1 rfl
  have ht := h.top.grown hg hne
  have hpr : ∀ k, u.ownBlock = some k → k ≠ p := fun k hk e => by
    subst e
    rcases hr.2 with ⟨hv, _⟩ | ⟨g, cap, cur, hv, _, hgg, _⟩
    · rw [hv] at hk; cases hk
    · rw [hv] at hk
      have e2 : g = k := by simpa [Value.ownBlock] using hk
      subst e2
      have := ht.blk
      rw [hgg] at this
      simp at this
  refine ⟨h.lo, ?_, ?_, fun q hq => ?_, hap, (h.oth.trans (.grown hg (row_bound h.row))).trans (.set _ _ (ht.bound (.inl rfl)))⟩
  · have := ht.set 0 u
    exact this
  · refine ⟨hr.1, ?_⟩
    rcases hr.2 with hn | ⟨g, cap, cur, hv, hb, hgg, rest⟩
    · exact .inl hn
    · exact .inr ⟨g, cap, cur, hv, hb, (Below.heap_setCell W' ⟨p, 0, none⟩ u g (fun e => hpr g (by rw [hv]; rfl) e)).trans hgg, rest⟩
  · have hq2 := hsub q hq
    obtain ⟨h1, h2⟩ := h.node q hq2
    refine ⟨h1, (h2.grown hg fun e => ?_).other _ _ fun e => h.topApart q hq2 e.symm⟩
    exact (h.rowBlk e.symm).2 q hq2 rfl
/-- A node's block is written. -/
theorem Work.renode {W : World} {B p : Nat} {v : Value} {ps : List (Nat × Nd)} {next : Int} (h : Work R W B p v ps next) (i : Nat) (hi : i < ps.length) (o : Nat) (u : Value) (n : Nd) (hd : n.dir = ps[i].2.dir) (hn : WkAt (W.setCell ⟨ps[i].1, o, none⟩ u) ps[i].1 n) :
    Work R (W.setCell ⟨ps[i].1, o, none⟩ u) B p v (ps.set i (ps[i].1, n)) next := by
  have hmem := List.getElem_mem hi
  have hval : (ps.set i (ps[i].1, n)).map wkVal = ps.map wkVal := by
    apply List.ext_getElem (by simp)
    intro j h1 h2
    simp only [List.getElem_map, List.getElem_set]
    by_cases e : i = j
    · subst e; simp only [if_true]; unfold wkVal; rw [hd]
    · simp only [e, if_false]
  refine ⟨h.lo, h.top.other _ _ (h.topApart _ hmem), ?_, fun q hq => ?_, ?_, h.oth.trans (.set _ _ (h.node _ hmem).2.bound)⟩
  · rw [hval, List.length_set]
    refine ⟨h.row.1, ?_⟩
    rcases h.row.2 with hn | ⟨g, cap, cur, hv, hb, hgg, rest⟩
    · exact .inl hn
    · exact .inr ⟨g, cap, cur, hv, hb, (Below.heap_setCell W _ u g ((h.rowBlk (by rw [hv]; rfl)).2 _ hmem)).trans hgg, rest⟩
  · obtain ⟨j, hj, rfl⟩ := List.getElem_of_mem hq
    have hj2 : j < ps.length := by simpa using hj
    rw [List.getElem_set]
    by_cases e : i = j
    · subst e; rw [if_pos rfl]; exact ⟨(h.node _ hmem).1, hn⟩
    · rw [if_neg e]
      have h2 := h.node _ (List.getElem_mem hj2)
      refine ⟨h2.1, h2.2.other _ _ ?_⟩
      rcases Nat.lt_or_gt_of_ne e with hl | hl
      · exact (List.pairwise_iff_getElem.1 h.apart i j hi hj2 hl).symm
      · exact List.pairwise_iff_getElem.1 h.apart j i hj2 hi hl
  · rw [List.pairwise_iff_getElem]
    intro a b ha hb hab
    have ha2 : a < ps.length := by simpa using ha
    have hb2 : b < ps.length := by simpa using hb
    have hh := List.pairwise_iff_getElem.1 h.apart a b ha2 hb2 hab
    rw [List.getElem_set, List.getElem_set]
    by_cases e1 : i = a
    · subst e1
      rw [if_pos rfl, if_neg (by omega)]; exact hh
    · rw [if_neg e1]
      by_cases e2 : i = b
      · subst e2; rw [if_pos rfl]; exact hh
      · rw [if_neg e2]; exact hh
theorem Work.renext {W : World} {B p : Nat} {v : Value} {ps : List (Nat × Nd)} {next : Int} (h : Work R W B p v ps next) (x : Int) : Work R (W.setCell ⟨p, 1, none⟩ (.int .i64 x)) B p v ps x := by
  refine ⟨h.lo, ?_, ?_, fun q hq => ⟨(h.node q hq).1, (h.node q hq).2.other _ _ (h.topApart q hq).symm⟩, h.apart, h.oth.trans (.set _ _ (h.top.bound (.inl rfl)))⟩
  · have := h.top.set 1 (.int .i64 x)
    exact this
  · refine ⟨h.row.1, ?_⟩
    rcases h.row.2 with hn | ⟨g, cap, cur, hv, hb, hgg, rest⟩
    · exact .inl hn
    · exact .inr ⟨g, cap, cur, hv, hb, (Below.heap_setCell W _ _ g ((h.rowBlk (by rw [hv]; rfl)).1)).trans hgg, rest⟩
theorem nds_set (ps : List (Nat × Nd)) (i : Nat) (q : Nat × Nd) : nds (ps.set i q) = (nds ps).set i q.2 := by simp [nds, List.map_set]
theorem concreteFolder : Tryz.prog.concrete 140 = true := by kernel_rfl
theorem concreteFile : Tryz.prog.concrete 143 = true := by kernel_rfl
theorem nil_folder (s : String) (b : Nat) (W : World) (hs : s = "loop.example/g00704/impl.base" ∨ s = "loop.example/g00704/impl.node") : (nilAhead 370 140 (.pointer (some ⟨b, 0, none⟩)) s).run Tryz.prog W = .ok (some false) W := by rcases hs with rfl | rfl <;> kernel_rfl
theorem nil_file (s : String) (b : Nat) (W : World) (hs : s = "loop.example/g00704/impl.base" ∨ s = "loop.example/g00704/impl.node") : (nilAhead 370 143 (.pointer (some ⟨b, 0, none⟩)) s).run Tryz.prog W = .ok (some false) W := by rcases hs with rfl | rfl <;> kernel_rfl
theorem base_folder (b : Nat) (W : World) : (method 370 140 (.pointer (some ⟨b, 0, none⟩)) "loop.example/g00704/impl.base").run Tryz.prog W = .ok (254, .pointer (some ⟨b, 0, none⟩)) W := by kernel_rfl
theorem base_file (b : Nat) (W : World) : (method 370 143 (.pointer (some ⟨b, 0, none⟩)) "loop.example/g00704/impl.base").run Tryz.prog W = .ok (254, .pointer (some ⟨b, 0, none⟩)) W := by kernel_rfl
theorem node_folder (b : Nat) (W : World) : (method 370 140 (.pointer (some ⟨b, 0, none⟩)) "loop.example/g00704/impl.node").run Tryz.prog W = .ok (255, .pointer (some ⟨b, 0, none⟩)) W := by kernel_rfl
theorem node_file (b : Nat) (W : World) : (method 370 143 (.pointer (some ⟨b, 0, none⟩)) "loop.example/g00704/impl.node").run Tryz.prog W = .ok (256, .pointer (some ⟨b, 0, none⟩)) W := by kernel_rfl
theorem infoWk : (Tryz.prog.info? 149).map (fun i => (i.zero, i.size, i.bytes)) = some (some .nilIface, 1, 16) := by kernel_rfl
end Go.Proofs.YtipedabppgbfcaaGreatDoor
