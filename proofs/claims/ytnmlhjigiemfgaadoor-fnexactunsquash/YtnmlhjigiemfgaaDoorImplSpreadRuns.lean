/- impl.appendAllTo and impl.spreadRuns, alone. -/
import Derived.Test.YtnmlhjigiemfgaaDoorImplCut
namespace Go.Proofs.YtnmlhjigiemfgaaDoor
open Go.RowKit

theorem keepM {w w' : World} {B M : Nat} {v : Value} {l : List UInt8} {c : UInt8} {n : Nat} (hO : Bytes w B v l) (hg : w.grownBy w' v.ownBlock) (hm : w.heap[M]? = some (.cells #[.int .u8 (c.toNat : Int), .int .i64 (n : Int)] 37 (0, 0))) :
    w'.heap[M]? = some (.cells #[.int .u8 (c.toNat : Int), .int .i64 (n : Int)] 37 (0, 0)) := by
  have hl := (Array.getElem?_eq_some_iff.1 hm).1
  rw [hg.block M hl ?_]
  · exact hm
  · intro e
    rcases hO.2 with ⟨rfl, _⟩ | ⟨g, cp, cur, rfl, hgb, hh, r⟩
    · simp [Value.ownBlock] at e
    · simp [Value.ownBlock] at e
      rw [e, hh] at hm
      simp at hm
theorem cellM0 {w : World} {M : Nat} {c : UInt8} {n : Nat} (hm : w.heap[M]? = some (.cells #[.int .u8 (c.toNat : Int), .int .i64 (n : Int)] 37 (0, 0))) : w.cell? ⟨M, 0, none⟩ = some (.int .u8 (c.toNat : Int)) := by simp [World.cell?, hm]
theorem cellM1 {w : World} {M : Nat} {c : UInt8} {n : Nat} (hm : w.heap[M]? = some (.cells #[.int .u8 (c.toNat : Int), .int .i64 (n : Int)] 37 (0, 0))) : w.cell? ⟨M, 1, none⟩ = some (.int .i64 (n : Int)) := by simp [World.cell?, hm]

set_option maxRecDepth 100000 in
set_option maxHeartbeats 8000000 in
theorem implAppendAll (c : UInt8) (n : Nat) (v : Value) (acc : List UInt8) (B : Nat) (w : World) (hO : Bytes w B v acc) (hB : B ≤ w.heap.size) (hn : n ≤ 255) (hl : acc.length ≤ 3000) :
    Calls Tryd.prog 37 #[.agg #[.int .u8 (c.toNat : Int), .int .i64 (n : Int)], v] w fun e w' => ∃ v', e = .returned v' ∧ Bytes w' B v' (acc ++ List.replicate n c) ∧ Below B w w' := by
  obtain ⟨j0, kj, kz0, kz1, kz2⟩ := info_parts infoB
  have HO := Lib.hid hO
  clear hO
  go_enter Tryd.func37, Tryd.ntmps37
  go_wp2
  go_loopw [1, 7] (fun ov jv V => ∃ (j : Nat), jv = .int .i64 (j : Int) ∧ j ≤ n ∧ Bytes V B ov (acc ++ List.replicate j c) ∧ Below B w V ∧ Hid (V.heap[w.heap.size]? = some (.cells #[.int .u8 (c.toNat : Int), .int .i64 (n : Int)] 37 (0, 0))) ∧ w.heap.size < V.heap.size) (fun _ jv _ => n - (intOf jv).toNat)
  case atStart => exact ⟨0, rfl, Nat.zero_le _, by rw [List.replicate_zero, List.append_nil]; exact HO.out.own.alloc _, (Below.refl _ _).alloc hB _, Lib.hid (heap_alloc_new w _), by simp⟩
  case round =>
    clear HO
    obtain ⟨j, rfl, hj, hO2, hb2, HM, hsz⟩ := hrel
    have HO2 := Lib.hid hO2
    have HB2 := Lib.hid hb2
    clear hO2 hb2
    have hc0 := cellM0 HM.out
    by_cases h5 : j < n
    · have h5i : (j : Int) < (n : Int) := by omega
      have hal : (acc ++ List.replicate j c).length ≤ 3255 := by rw [List.length_append, List.length_replicate]; omega
      generalize hag : acc ++ List.replicate j c = ac at HO2 hal
      have HAG := Lib.hid hag
      clear hag
      go_wp2_with (at_builtin; refine wpList_append_own _ rfl _ _ 22 rfl B 5 j0 (.int .u8 0) 1 1 Tryd.underlying22 kj kz0 kz1 kz2 rfl (by decide) _ _ _ rfl (HO2.out.own.alloc _) ⟨wr.heap.size, 0, none⟩ 1 1 [.int .u8 (c.toNat : Int)] rfl rfl (cell_one_new _ _ _) (by simp [Value.oneCell']) (by unfold maxLen; omega) (by omega) (by simp; omega) ?_; intro v1 w1 hown1 hgrow1 _)
      go_roundw
      case rel => exact ⟨j + 1, by go_num, by omega, by rw [rep_snoc, ← List.append_assoc, HAG.out]; exact Bytes.snoc hown1, HO2.out.grown HB2.out (by omega) hgrow1, Lib.hid (keepM (HO2.out.own.alloc _) hgrow1 ((heap_alloc_old _ _ (by omega)).trans HM.out)), by have := hgrow1.size; simp at this; omega⟩
      case measure => simp [intOf]; omega
    · have h5i : ¬ (j : Int) < (n : Int) := by omega
      have hje : j = n := by omega
      subst hje
      go_wp2
      go_ret
      exact ⟨_, rfl, HO2.out, HB2.out⟩
end Go.Proofs.YtnmlhjigiemfgaaDoor
