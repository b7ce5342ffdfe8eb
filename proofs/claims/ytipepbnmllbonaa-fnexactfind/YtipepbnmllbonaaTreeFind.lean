/- Contracts of spec.Find and impl.Find: the place of the first node of a path. -/
import Derived.Test.YtipepbnmllbonaaNodeTrees
namespace Go.Proofs.Ytipepbnmllbonaa
open Go.RowKit

theorem str_t {a b : List UInt8} (h : a = b) : ((strOf a).toList == (strOf b).toList) = true := by subst h; simp
theorem str_f {a b : List UInt8} (h : a ≠ b) : ((strOf a).toList == (strOf b).toList) = false := by
  rw [Lib.toList_data, Lib.toList_data, strOf_data, strOf_data]
  simpa using h
theorem findI_hit {p : List UInt8} {ns : List Nd} {k : Nat} (h : k < ns.length) (h1 : ∀ j (hj : j < ns.length), j < k → ns[j].path ≠ p) (h2 : ns[k].path = p) : findI p ns = k := by
  unfold findI; rw [find_hit h h1 h2]
theorem findI_miss {p : List UInt8} {ns : List Nd} (h : ∀ j (hj : j < ns.length), ns[j].path ≠ p) : findI p ns = -1 := by
  unfold findI; rw [find_miss h]

set_option maxRecDepth 100000 in
set_option maxHeartbeats 2000000 in
theorem specFind (w : World) (v : Value) (ns : List Nd) (next : Int) (p : List UInt8) (h : NRd w v ns) :
    Calls Try.prog 5 #[.agg #[v, .int .i64 next], .string (strOf p)] w fun e w' => e = .returned (.int .i64 (findI p ns)) ∧ Below w.heap.size w w' := by
  by_cases hn : ns = []
  · subst hn
    obtain ⟨a1, c1, rfl, _⟩ := h
    go_enter Try.func5, Try.ntmps5
    go_wp2
    go_loop [5] (fun i => i = .int .i64 0) (fun _ => 0)
    case atStart => rfl
    case round =>
      subst hrel
      go_wp2
      go_ret
      exact ⟨rfl, (Below.refl _ _).alloc (Nat.le_refl _) _⟩
  · obtain ⟨g1, c1, rfl, hg1, hl1, hm1, hc1⟩ := h.at hn
    clear h hn
    unfold maxLen at hm1
    have HC1 := Lib.hid hc1
    have hb : Below w.heap.size w (w.alloc (.cells #[.slice (some ⟨g1, 0, none⟩) ns.length c1, .int .i64 next] 29)) := (Below.refl _ _).alloc (Nat.le_refl _) _
    have HB := Lib.hid hb
    clear hc1 hb
    go_enter Try.func5, Try.ntmps5
    go_wp2
    go_loop [5] (fun i => ∃ k : Nat, k ≤ ns.length ∧ i = .int .i64 k ∧ ∀ j (hj : j < ns.length), j < k → ns[j].path ≠ p) (fun i => ns.length - (intOf i).toNat)
    case atStart => exact ⟨0, Nat.zero_le _, rfl, fun j _ hj => by omega⟩
    case round =>
      obtain ⟨k, hk, rfl, hno⟩ := hrel
      have HNO := Lib.hid hno
      clear hno
      by_cases h : k < ns.length
      · have hki : (k : Int) < (ns.length : Int) := by omega
        have hk1 := ((HC1.out k h).on hg1 HB.out).c0
        by_cases he : ns[k].path = p
        · have ht := str_t he
          have HE := Lib.hid he
          clear he
          go_wp2
          go_ret
          exact ⟨ret_int (by rw [findI_hit h HNO.out HE.out]), HB.out⟩
        · have ht := str_f he
          have HE := Lib.hid he
          clear he
          go_wp2
          go_round
          case rel => exact ⟨k + 1, by omega, by go_num, fun j hj hjk => by
            by_cases e : j = k
            · subst e; exact HE.out
            · exact HNO.out j hj (by omega)⟩
          case measure => simp [intOf]; omega
      · have hki : ¬ (k : Int) < (ns.length : Int) := by omega
        go_wp2
        go_ret
        exact ⟨ret_int (by rw [findI_miss (fun j hj => HNO.out j hj (by omega))]), HB.out⟩

set_option maxRecDepth 100000 in
set_option maxHeartbeats 2000000 in
/-- The predicate that impl.Find hands on. -/
theorem implFind1 (nd : Nd) (p : List UInt8) (B : Nat) (w : World) (t : TypeId) (h : Blk w B #[.string (strOf p)] t) :
    Calls Try.prog 12 #[.agg #[.string (strOf nd.path), .bool nd.dir, .int .i64 nd.mode, .int .i64 nd.time, .int .i64 nd.id, .string (strOf nd.data)], .pointer (some ⟨B, 0, none⟩)] w fun e w' => e = .returned (.bool ((strOf nd.path).toList == (strOf p).toList)) ∧ Below w.heap.size w w' := by
  have hc := (h.alloc (.cells #[.string (strOf nd.path), .bool nd.dir, .int .i64 nd.mode, .int .i64 nd.time, .int .i64 nd.id, .string (strOf nd.data)] 35)).cell 0
  simp at hc
  have hlt := h.lt
  clear h
  go_enter Try.func12, Try.ntmps12
  go_wp2
  all_goals
    go_ret
    exact ⟨by simp_all, (Below.refl _ _).alloc (Nat.le_refl _) _⟩

set_option maxRecDepth 100000 in
set_option maxHeartbeats 2000000 in
theorem implIndex (w : World) (v : Value) (ns : List Nd) (p : List UInt8) (B : Nat) (t : TypeId) (h : NRd w v ns) (hB : Blk w B #[.string (strOf p)] t) :
    Calls Try.prog 11 #[v, .func (.func 12) #[] #[.pointer (some ⟨B, 0, none⟩)]] w fun e w' => e = .returned (.int .i64 (findI p ns)) ∧ Below w.heap.size w w' := by
  by_cases hn : ns = []
  · subst hn
    obtain ⟨a1, c1, rfl, _⟩ := h
    go_enter Try.func11, Try.ntmps11
    go_wp2
    go_loop [8] (fun i => i = .int .i64 0) (fun _ => 0)
    case atStart => rfl
    case round =>
      subst hrel
      go_wp2
      go_ret
      exact ⟨rfl, Below.refl _ _⟩
  · obtain ⟨g1, c1, rfl, hg1, hl1, hm1, hc1⟩ := h.at hn
    clear h hn
    unfold maxLen at hm1
    have HC1 := Lib.hid hc1
    have HBK := Lib.hid hB
    have hlt := hB.lt
    have eg : ∀ args w, (callFunc 12 args).run Try.prog w = .ok (.enter 12 args) w := enters_of Try.func12 (by kernel_rfl) rfl
    clear hc1 hB
    go_enter Try.func11, Try.ntmps11
    go_wp2
    go_loopw [5, 8] (fun _ i W => ∃ k : Nat, k ≤ ns.length ∧ i = .int .i64 k ∧ (∀ j (hj : j < ns.length), j < k → ns[j].path ≠ p) ∧ Below w.heap.size w W) (fun _ i _ => ns.length - (intOf i).toNat)
    case atStart => exact ⟨0, Nat.zero_le _, rfl, fun j _ hj => by omega, Below.refl _ _⟩
    case round =>
      obtain ⟨k, hk, rfl, hno, hb⟩ := hrel
      have HNO := Lib.hid hno
      have HB := Lib.hid hb
      clear hno hb
      by_cases h : k < ns.length
      · have hki : (k : Int) < (ns.length : Int) := by omega
        have hk1 := (HC1.out k h).on hg1 HB.out
        obtain ⟨d0, d1, d2, d3, d4, d5⟩ := hk1
        obtain ⟨nd, hnd⟩ : ∃ nd, ns[k] = nd := ⟨_, rfl⟩
        rw [hnd] at d0 d1 d2 d3 d4 d5
        have C1 := implFind1 nd p B wr t (HBK.out.below HB.out hlt)
        have HND := Lib.hid hnd
        clear hnd
        by_cases he : nd.path = p
        · rw [str_t he] at C1
          have HE := Lib.hid he
          clear he
          go_wp2_with (go_at_fn 12; refine C1.mono ?_; rintro e w' ⟨rfl, hb2⟩)
          go_ret
          exact ⟨ret_int (by rw [findI_hit h HNO.out (by rw [HND.out]; exact HE.out)]), HB.out.trans (hb2.mono HB.out.size)⟩
        · rw [str_f he] at C1
          have HE := Lib.hid he
          clear he
          go_wp2_with (go_at_fn 12; refine C1.mono ?_; rintro e w' ⟨rfl, hb2⟩)
          go_roundw
          case rel => exact ⟨k + 1, by omega, by go_num, fun j hj hjk => by
            by_cases e : j = k
            · subst e; rw [HND.out]; exact HE.out
            · exact HNO.out j hj (by omega), HB.out.trans (hb2.mono HB.out.size)⟩
          case measure => simp [intOf]; omega
      · have hki : ¬ (k : Int) < (ns.length : Int) := by omega
        go_wp2
        go_ret
        exact ⟨ret_int (by rw [findI_miss (fun j hj => HNO.out j hj (by omega))]), HB.out⟩

set_option maxRecDepth 100000 in
set_option maxHeartbeats 2000000 in
theorem implFind (w : World) (v : Value) (ns : List Nd) (next : Int) (p : List UInt8) (h : NRd w v ns) :
    Calls Try.prog 7 #[.agg #[v, .int .i64 next], .string (strOf p)] w fun e w' => e = .returned (.int .i64 (findI p ns)) ∧ Below w.heap.size w w' := by
  have hb := ((Below.refl w.heap.size w).alloc (Nat.le_refl _) (.cells #[v, .int .i64 next] 29))
  have hb2 := hb.alloc hb.size (.cells #[.string (strOf p)] 9)
  have CI := implIndex _ v ns p _ _ (h.on hb2) (Blk.new (w.alloc (.cells #[v, .int .i64 next] 29)) #[.string (strOf p)] 9)
  obtain ⟨a1, k1, rfl⟩ : ∃ a c, v = .slice a ns.length c := by obtain ⟨a, c, h, _⟩ := h; exact ⟨a, c, h⟩
  simp at CI
  have HB := Lib.hid hb2
  clear h hb hb2
  go_enter Try.func7, Try.ntmps7
  go_wp2_with fail
  refine CI.mono ?_
  rintro e W1 ⟨rfl, hb3⟩
  go_wp2
  go_ret
  exact ⟨rfl, HB.out.trans (hb3.mono (by omega))⟩
end Go.Proofs.Ytipepbnmllbonaa
