/- Contracts of spec.Find and impl.Find: the place of the first node of a path. -/
import Derived.Test.YtipepbnmllbonaaDoorNodeTrees
namespace Go.Proofs.YtipepbnmllbonaaDoor
open Go.RowKit

theorem str_t {a b : List UInt8} (h : a = b) : ((strOf a).toList == (strOf b).toList) = true := by subst h; simp
theorem str_f {a b : List UInt8} (h : a ≠ b) : ((strOf a).toList == (strOf b).toList) = false := by
  rw [Lib.toList_data, Lib.toList_data, strOf_data, strOf_data]
  simpa using h
theorem findI_hit {p : List UInt8} {ns : List Nd} {k : Nat} (h : k < ns.length) (h1 : ∀ j (hj : j < ns.length), j < k → ns[j].path ≠ p) (h2 : ns[k].path = p) : findI p ns = k := by
  unfold findI; rw [find_hit h h1 h2]
theorem findI_miss {p : List UInt8} {ns : List Nd} (h : ∀ j (hj : j < ns.length), ns[j].path ≠ p) : findI p ns = -1 := by
  unfold findI; rw [find_miss h]

set_option maxRecDepth 100000 in
set_option maxHeartbeats 2000000 in
theorem specFind (w : World) (v : Value) (ns : List Nd) (next : Int) (p : List UInt8) (h : NRd w v ns) :
    Calls Tryd.prog 34 #[.agg #[v, .int .i64 next], .string (strOf p)] w fun e w' => e = .returned (.int .i64 (findI p ns)) ∧ Below w.heap.size w w' := by
  by_cases hn : ns = []
  · subst hn
    obtain ⟨a1, c1, rfl, _⟩ := h
    go_enter Tryd.func34, Tryd.ntmps34
    go_wp2
    go_loop [5] (fun i => i = .int .i64 0) (fun _ => 0)
    case atStart => rfl
    case round =>
      subst hrel
      go_wp2
      go_ret
      exact ⟨rfl, (Below.refl _ _).alloc (Nat.le_refl _) _⟩
  · obtain ⟨g1, c1, rfl, hg1, hl1, hm1, hc1⟩ := h.at hn
    clear h hn
    unfold maxLen at hm1
    have HC1 := Lib.hid hc1
    have hb : Below w.heap.size w (w.alloc (.cells #[.slice (some ⟨g1, 0, none⟩) ns.length c1, .int .i64 next] 29)) := (Below.refl _ _).alloc (Nat.le_refl _) _
    have HB := Lib.hid hb
    clear hc1 hb
    go_enter Tryd.func34, Tryd.ntmps34
    go_wp2
    go_loop [5] (fun i => ∃ k : Nat, k ≤ ns.length ∧ i = .int .i64 k ∧ ∀ j (hj : j < ns.length), j < k → ns[j].path ≠ p) (fun i => ns.length - (intOf i).toNat)
    case atStart => exact ⟨0, Nat.zero_le _, rfl, fun j _ hj => by omega⟩
    case round =>
      obtain ⟨k, hk, rfl, hno⟩ := hrel
      have HNO := Lib.hid hno
      clear hno
      by_cases h : k < ns.length
      · have hki : (k : Int) < (ns.length : Int) := by omega
        have hk1 := ((HC1.out k h).on hg1 HB.out).c0
        by_cases he : ns[k].path = p
        · have ht := str_t he
          have HE := Lib.hid he
          clear he
          go_wp2
          go_ret
          exact ⟨ret_int (by rw [findI_hit h HNO.out HE.out]), HB.out⟩
        · have ht := str_f he
          have HE := Lib.hid he
          clear he
          go_wp2
          go_round
          case rel => exact ⟨k + 1, by omega, by go_num, fun j hj hjk => by
            by_cases e : j = k
            · subst e; exact HE.out
            · exact HNO.out j hj (by omega)⟩
          case measure => simp [intOf]; omega
      · have hki : ¬ (k : Int) < (ns.length : Int) := by omega
        go_wp2
        go_ret
        exact ⟨ret_int (by rw [findI_miss (fun j hj => HNO.out j hj (by omega))]), HB.out⟩

end Go.Proofs.YtipepbnmllbonaaDoor
