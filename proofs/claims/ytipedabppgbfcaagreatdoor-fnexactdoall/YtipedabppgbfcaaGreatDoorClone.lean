/- slices.Clone of nodes. -/
import Derived.Test.YtipedabppgbfcaaGreatDoorK19
import Derived.Lib.SliceRun
set_option linter.all false
namespace Go.Proofs.YtipedabppgbfcaaGreatDoor
open Go.RowKit

set_option maxRecDepth 100000 in
set_option maxHeartbeats 2000000 in
theorem implClone (w : World) (v : Value) (ns : List Nd) (h : NRd w v ns) (hk0 : ∀ n c, v = .slice none n c → c = 0) (hl : ns.length ≤ 1048576) :
    Calls Tryz.prog 72 #[v] w fun e w' => ∃ v', e = .returned v' ∧ NRow w' w.heap.size v' ns ∧ Below w.heap.size w w' := by
  obtain ⟨j0, ji, jz0, jz1, jz2⟩ := info_parts infoN
  obtain ⟨a1, k1, rfl, hlc, hcm, hdat⟩ : ∃ a c, v = .slice a ns.length c ∧ ns.length ≤ c ∧ c ≤ maxLen ∧ (ns = [] ∨ ∃ g, a = some ⟨g, 0, none⟩ ∧ g < w.heap.size ∧ ∀ i (hi : i < ns.length), NdAt w g (i * 6) ns[i]) := h
  have HE := fun (W : World) n c n' c' => Lib.run_eql_slice_nil (P := Tryz.prog) W 24 37 a1 n c n' c' Tryz.underlying24
  cases a1 with
  | none =>
    have hns : ns = [] := by
      rcases hdat with h | ⟨g, h, _⟩
      · exact h
      · cases h
    subst hns
    clear hdat
    go_enter Tryz.func72, Tryz.ntmps72
    go_wp2
    go_ret
    exact ⟨_, rfl, NRow.nil _ _, Below.refl _ _⟩
  | some x =>
    obtain ⟨g, hxg, hn⟩ : ∃ g, (ns = [] ∨ x = ⟨g, 0, none⟩) ∧ ∀ i (hi : i < ns.length), NdAt w g (i * 6) ns[i] ∧ g < w.heap.size := by
      rcases hdat with h | ⟨g, h, hg, hc⟩
      · exact ⟨0, .inl h, fun i hi => by subst h; simp at hi⟩
      · cases h; exact ⟨g, .inr rfl, fun i hi => ⟨hc i hi, hg⟩⟩
    have HNEW := Lib.hid (show ∀ W, Below w.heap.size w W → ∀ j u, (nodesVals ns)[j]? = some u → W.cell? (x.add j) = some u from fun W hW j u hj => by
      rcases hxg with h | rfl
      · subst h; simp [nodesVals] at hj
      · exact nodes_news (fun i hi => (hn i hi).1.on (hn i hi).2 hW) j u hj)
    have HOW := Lib.hid (World.ownsRow_lit (base := w.heap.size) (e := 37) (size := 6) w #[] 0 (by omega) (by simp [maxLen]) (by simp))
    clear hdat hxg hn
    go_enter Tryz.func72, Tryz.ntmps72
    go_wp2_with (at_builtin; refine wpList_append_own _ rfl _ _ 24 rfl w.heap.size 37 j0 (.agg #[.string ⟨#[]⟩, .bool false, .int .i64 0, .int .i64 0, .int .i64 0, .string ⟨#[]⟩]) 6 64 Tryz.underlying24 ji jz0 jz1 jz2 rfl (by omega) _ 0 [] rfl HOW.out x ns.length k1 (nodesVals ns) rfl (nodesVals_len ns) (HNEW.out _ ((Below.refl _ _).alloc (Nat.le_refl _) _)) (nodesVals_oneCell ns) (by unfold maxLen; omega) (by omega) (by simp) ?_; intro v1 w1 hown1 hgrow1 _; (obtain ⟨a2, k2, hv2⟩ := own_slice hown1); subst hv2)
    all_goals
      go_ret
      refine ⟨.slice a2 (0 + ns.length) k2, by first | rfl | simp, ?_, ?_⟩
      · have h2 := hown1
        rw [List.nil_append] at h2
        have e : 0 + ns.length = ns.length := by omega
        rw [e] at h2 ⊢
        exact h2
      · exact ((Below.refl _ _).alloc (Nat.le_refl _) _).grown hgrow1 (by simp) (fun j e => by have : w.heap.size = j := Option.some.inj e; omega)
end Go.Proofs.YtipedabppgbfcaaGreatDoor
