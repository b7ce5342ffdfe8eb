/- Contracts of spec.l04Of and spec.Clean. -/
import Derived.Test.YtcknohalbamjfaaDoorPathFns3
import Derived.Test.YtcknohalbamjfaaDoorByteRow
import Derived.Deep.AppendLies
import Derived.Deep.RegionHeld3
namespace Go.Proofs.YtcknohalbamjfaaDoor
open Go.RowKit

theorem joinT_take (ls : List (List UInt8)) (k : Nat) (h : k < ls.length) : joinT (ls.take (k + 1)) = joinT (ls.take k) ++ 47 :: ls[k] := by
  rw [List.take_succ_eq_append_getElem h, joinT_append]; simp [joinT]
theorem joinT_le (ls : List (List UInt8)) (k : Nat) : (joinT (ls.take k)).length ≤ (joinT ls).length := by
  conv => rhs; rw [← List.take_append_drop k ls, joinT_append]
  simp

theorem owns_push {w w' : World} {B : Nat} {e : TypeId} {size : Nat} {v : Value} {n : Nat} {xs : List Value} {o : Obj} (h : w.ownsRow B e size v n xs) (hh : w'.heap = (w.alloc o).heap) : w'.ownsRow B e size v n xs := by
  have h2 := h.alloc o
  refine ⟨h2.1, ?_⟩
  rcases h2.2 with hn | ⟨g, cap, cur, hv, hb, hg, rest⟩
  · exact .inl hn
  · exact .inr ⟨g, cap, cur, hv, hb, by rw [hh]; exact hg, rest⟩

set_option maxHeartbeats 4000000 in
set_option maxRecDepth 100000 in
theorem specOf (w : World) (v : Value) (ls : List (List UInt8)) (h : Rd w v ls) (hl : (joinT ls).length ≤ 4000000) (hlen : ls.length ≤ 4000000) :
    Calls Tryd.prog 40 #[v] w fun e w' => e = .returned (.string (strOf (pathL ls))) ∧ Below w.heap.size w w' := by
  by_cases hn : ls = []
  · subst hn
    obtain ⟨a, cap, rfl, _⟩ := h
    go_enter Tryd.func40, Tryd.ntmps40
    go_wp2
    go_ret
    exact ⟨rfl, Below.refl _ _⟩
  obtain ⟨i0, hi, hz0, hz1, hz2⟩ := info_parts infoB
  have HP := Lib.hid (pathL_ne hn)
  obtain ⟨g, cap, rfl, hg, hcap, hm, hcell⟩ := h.at hn
  unfold maxLen at hm
  have HC := Lib.hid hcell
  have hne : ((ls.length : Int) == 0) = false := by
    rw [beq_eq_false_iff_ne]; intro e; exact hn (List.eq_nil_of_length_eq_zero (by omega))
  clear hcell h hn
  go_enter Tryd.func40, Tryd.ntmps40
  go_wp2
  go_loopw [3, 4] (fun out i W => ∃ k : Nat, k ≤ ls.length ∧ i = .int .i64 k ∧ Bytes W w.heap.size out (joinT (ls.take k)) ∧ Below w.heap.size w W) (fun _ i _ => ls.length - (intOf i).toNat)
  case atStart => exact ⟨0, Nat.zero_le _, rfl, World.ownsRow_lit w #[] 0 (Nat.le_refl _) (by simp [maxLen]) (by simp), (Below.refl _ _).alloc (Nat.le_refl _) _⟩
  case round =>
    obtain ⟨k, hk, rfl, hB, hb⟩ := hrel
    have hsz := hb.size
    by_cases h1 : k < ls.length
    · have hck := (hb.cell (p := ⟨g, k, none⟩) hg).trans (HC.out k h1)
      have hki : (k : Int) < (ls.length : Int) := by omega
      have hki0 : (0 : Int) ≤ (k : Int) := by omega
      have HT := Lib.hid (joinT_take ls k h1)
      have hle := joinT_le ls (k + 1)
      rw [HT.out] at hle
      have hle2 : (joinT (ls.take k)).length + 1 + (strOf ls[k]).size ≤ 4000000 := by rw [strOf_size]; simp at hle; omega
      clear hle
      generalize hx : strOf ls[k] = x at hck hle2
      have HX := Lib.hid hx
      clear hx
      generalize hj : joinT (ls.take k) = l at hB HT hle2
      have HJ := Lib.hid hj
      clear hj
      have hgw : g < wr.heap.size := by omega
      have hown := Lib.hid hB.own
      go_wp2
      go_region_held3 (fun w' => w'.cell? ⟨g, k, none⟩ = some (.string x)) (first | go_keep | exact hgrow1.cell (by assumption) (fun e => by have := (World.ownsRow.lt hown.out _ e.symm).1; simp at this; omega) | exact hgrow2.cell (by assumption) (fun e => by have := (World.ownsRow.lt hown1 _ e.symm).1; simp at this; omega))
        (first
          | (refine step_append_lies _ (by rfl) _ _ _ (by rfl) w.heap.size 5 i0 (.int .u8 0) 1 1 Tryd.underlying22 hi hz0 hz1 hz2 rfl (by omega) _ l.length (byteVals l) (by rfl) (owns_push hown.out (by rfl)) ⟨wr.heap.size, 0, none⟩ 1 1 [.int .u8 47] (by rfl) (by rfl) (cell_one_new _ _ _) (by simp [Value.oneCell']) (by omega) (by unfold maxLen; omega) (by omega) (by simp; omega) (wr.heap.size + 1) (by simp) ?_; intro g1 cap1 w1 hown1 hgrow1 hat1 hlt1)
          | (refine step_append_own_str _ (by rfl) _ _ _ _ (by rfl) w.heap.size 5 i0 (.int .u8 0) Tryd.underlying22 Tryd.underlying9 hi hz0 hz1 hz2 rfl _ (l.length + 1) (byteVals l ++ [.int .u8 47]) (by rfl) hown1 x (by rfl) (by unfold maxLen; omega) (by omega) (by have := hgrow1.size; simp at this; omega) ?_; intro v2 w2 hown2 hgrow2))
      have hBy := Lib.hid (show Bytes w2 w.heap.size v2 (joinT (ls.take (k + 1))) by
        rw [HT.out]
        rw [← HX.out, byteCells_str, strOf_size, List.append_assoc] at hown2
        unfold Bytes
        rw [List.length_append, List.length_cons, show byteVals (l ++ 47 :: ls[k]) = byteVals l ++ ([Value.int .u8 47] ++ byteVals ls[k]) by simp [byteVals], show l.length + (ls[k].length + 1) = l.length + 1 + ls[k].length by omega]
        exact hown2)
      have hb1 : Below w.heap.size w w1 := Below.grown (w := (wr.alloc (.cells #[.int .u8 47] 5)).drew) ((hb.alloc hsz _).trans ⟨rfl, rfl, rfl, Nat.le_refl _, fun _ _ => rfl⟩) hgrow1 (by simp; omega) (fun j e => (World.ownsRow.lt hown.out j e).1)
      have hb2 := Lib.hid (show Below w.heap.size w w2 from hb1.grown hgrow2 hb1.size (fun j e => (World.ownsRow.lt hown1 j e).1))
      clear hown hown1 hown2 hgrow1 hgrow2 hb1 hat1 hB hck
      go_wp2
      go_roundw
      case rel => exact ⟨k + 1, by omega, by go_num, hBy.out, hb2.out⟩
      case measure => simp [intOf]; omega
    · have hke : k = ls.length := by omega
      have hki : ¬ (k : Int) < (ls.length : Int) := by omega
      rw [hke, List.take_length] at hB
      have hcv := conv_bytes hB
      have HB := Lib.hid hb
      clear hb hB hke
      go_wp2
      go_ret
      exact ⟨ret_str (by rw [HP.out]), HB.out⟩
end Go.Proofs.YtcknohalbamjfaaDoor
