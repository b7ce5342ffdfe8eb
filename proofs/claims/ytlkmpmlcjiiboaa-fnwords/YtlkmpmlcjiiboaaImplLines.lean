/- The contract of impl.Lines: the lines of a text, told by a range over a function. -/
import Derived.Test.YtlkmpmlcjiiboaaRangeKit
import Derived.Test.YtlkmpmlcjiiboaaLines
namespace Go.Proofs.Ytlkmpmlcjiiboaa
open Go.RowKit Go.Shelf
attribute [local go_sem] Oper.semAt_some

theorem extract_rest (s : ByteArray) (a : Nat) : s.extract a s.size = strOf (s.data.toList.drop a) := by
  rw [extract_str]; congr 1; exact List.take_of_length_le (by simp)

theorem lines_skip (s : ByteArray) (a k : Nat) (ha : a ≤ k) : ∀ m, (∀ j, j < m → ∃ h : k + j < s.size, ¬ (s[k + j]'h).toNat = 10) →
    linesGo (cutL s a k) (s.data.toList.drop k) = linesGo (cutL s a (k + m)) (s.data.toList.drop (k + m)) := by
  intro m
  induction m with
  | zero => intro _; rfl
  | succ m ih =>
    intro h
    obtain ⟨h1, h2⟩ := h m (by omega)
    rw [ih (fun j hj => h j (by omega)), lines_go s a (k + m) (by omega) h1 h2, show k + m + 1 = k + (m + 1) by omega]

set_option maxRecDepth 100000 in
set_option maxHeartbeats 2000000 in
theorem lines1_in (n : Nat) (hn : 1 ≤ n) (l Bn n₀ : Nat) (s : ByteArray) (hs : s.size ≤ 1048576) (J Jx : List (List UInt8) → World → Prop) (W : World)
    (hJ : AbidesFrom W.heap.size J) (hJx : AbidesFrom W.heap.size Jx)
    (hY : ∀ pre x W1, J pre W1 → pre.length < 1048577 → YieldAt Fence.wide (n - 1) Try.prog l #[.string (strOf x)] W1 fun e W' =>
      (e = .returned (.bool true) ∧ J (pre ++ [x]) W' ∧ Kept n₀ W1 W') ∨ (e = .returned (.bool false) ∧ Jx (pre ++ [x]) W'))
    (hBn : W.cell? ⟨Bn, 0, none⟩ = some (.string s)) (hB0 : Bn < n₀) (hn0 : n₀ ≤ W.heap.size) (h0 : J [] W) :
    CallsIn Fence.wide n Try.prog 45 #[.func (.yield l) #[] #[], .pointer (some ⟨Bn, 0, none⟩)] W fun e W' => (∃ v, e = .returned v) ∧
      ((∃ ys, ys = linesL s.data.toList ∧ J ys W') ∨ (∃ pre, True ∧ Jx pre W')) := by
  refine callsIn_of_wp Try.func45 rfl trivial ?_ rfl
  simp only [Try.ntmps45, List.size_toArray, List.length_cons, List.length_nil, Nat.reduceAdd, Nat.reduceSub, Array.replicate_succ, Array.replicate_zero, List.push_toArray, List.append_toArray, List.nil_append, List.cons_append]
  gi_wp2
  gi_loopw [3, 4, 5] (fun fr _ _ wr => ∃ (k a : Nat) (pre : List (List UInt8)), k ≤ s.size ∧ a ≤ k ∧ fr = .int .i64 a ∧ wr.heap[W.heap.size]? = some (.stringIter s k) ∧ wr.cell? ⟨Bn, 0, none⟩ = some (.string s) ∧ J pre wr ∧ pre.length ≤ k ∧ linesL s.data.toList = pre ++ linesGo (cutL s a k) (s.data.toList.drop k))
    (fun _ _ _ wr => s.size - wr.iterPos W.heap.size)
  case atStart =>
    refine ⟨0, 0, [], Nat.zero_le _, Nat.zero_le _, rfl, World.iter_heap W s 0, ?_, abides_alloc hJ h0 _, Nat.le_refl _, by simp [linesL, cutL_self]⟩
    exact (World.cell?_of_block (Below.heap_alloc W _ Bn (by omega))).trans hBn
  case round =>
    obtain ⟨k, a, pre, hk, hak, rfl, hit, hcell, hJs, hpl, hl⟩ := hrel
    have HL := Lib.hid hl
    have HI := Lib.hid hit
    have HJ := Lib.hid hJs
    clear hl hit hJs
    by_cases h1 : k < s.size
    · by_cases h2 : 128 ≤ s[k].toNat
      · -- a sign of several bytes, none of them a newline
        obtain ⟨W1, hW1⟩ : ∃ W1, wr.iterAt W.heap.size s (k + (Utf8.decode s k).2) = W1 := ⟨_, rfl⟩
        have hnx : ∀ ty, (Instr.next (.pointer (some ⟨W.heap.size, 0, none⟩)) true ty).run Try.prog wr = .ok (.tuple #[.bool true, .int .i64 k, .int .i32 (Utf8.decode s k).1]) W1 := fun ty => by rw [← hW1]; exact Lib.run_next_any_at wr W.heap.size s k ty HI.out h1
        have hne : (((Utf8.decode s k).1 : Int) != 10) = true := by have := (decode_high s k h1 h2).1; simp; omega
        have hpos := (decode_high s k h1 h2).2
        have hend := decode_end s k h1 h2
        have HW := Lib.hid hW1
        clear hW1
        have HS := Lib.hid (lines_skip s a k hak (Utf8.decode s k).2 (fun j hj => by obtain ⟨g1, g2⟩ := decode_at_bytes s k h1 h2 j hj; exact ⟨g1, by omega⟩))
        gi_wp2
        go_roundw
        case rel => exact ⟨k + (Utf8.decode s k).2, a, pre, hend, by omega, rfl, by rw [← HW.out]; exact Lib.iterAt_heap wr _ s k _ HI.out, by rw [← HW.out, cell_iterAt (by simp; omega)]; exact hcell, by rw [← HW.out]; exact abides_iterAt hJ HJ.out _ (Nat.le_refl _) HI.out, by omega, by rw [HL.out, HS.out]⟩
        case measure =>
          have e1 : wr.iterPos W.heap.size = k := by simp [World.iterPos, HI.out]
          have e2 : W1.iterPos W.heap.size = k + (Utf8.decode s k).2 := by rw [← HW.out]; simp [World.iterPos, Lib.iterAt_heap wr _ s k _ HI.out]
          rw [e1, e2]; omega
      · obtain ⟨W1, hW1⟩ : ∃ W1, wr.iterAt W.heap.size s (k + 1) = W1 := ⟨_, rfl⟩
        have hnx : ∀ ty, (Instr.next (.pointer (some ⟨W.heap.size, 0, none⟩)) true ty).run Try.prog wr = .ok (.tuple #[.bool true, .int .i64 k, .int .i32 s[k].toNat]) W1 := fun ty => by rw [← hW1]; exact Lib.run_next_ascii_at wr W.heap.size s k ty HI.out h1 (by omega)
        have HW := Lib.hid hW1
        clear hW1
        have hcell1 : W1.cell? ⟨Bn, 0, none⟩ = some (.string s) := by rw [← HW.out, cell_iterAt (by simp; omega)]; exact hcell
        have HI1 := Lib.hid (show W1.heap[W.heap.size]? = some (.stringIter s (k + 1)) by rw [← HW.out]; exact Lib.iterAt_heap wr _ s k _ HI.out)
        have HJ1 := Lib.hid (show J pre W1 by rw [← HW.out]; exact abides_iterAt hJ HJ.out _ (Nat.le_refl _) HI.out)
        have e1 := Lib.hid (show wr.iterPos W.heap.size = k by simp [World.iterPos, HI.out])
        by_cases h3 : s[k].toNat = 10
        · have h4 : ((s[k].toNat : Int) != 10) = false := by simp [h3]
          have HN := Lib.hid (lines_nl s a k h1 h3)
          clear h3
          obtain ⟨fn, tmps, assign, body, hy, hR⟩ := hY pre (cutL s a k) W1 HJ1.out (by omega)
          rw [show strOf (cutL s a k) = s.extract a k from (extract_str s a k).symm] at hy
          gi_wp2
          refine hR.mono ?_
          rintro e W3 (⟨rfl, hJ3, hk3⟩ | ⟨rfl, hJx3⟩)
          · have HI3 := Lib.hid (hk3.2.same _ _ HI1.out rfl)
            have hcell3 : W3.cell? ⟨Bn, 0, none⟩ = some (.string s) := (hk3.1.cell (p := ⟨Bn, 0, none⟩) hB0).trans hcell1
            gi_wp2
            go_roundw
            case rel => exact ⟨k + 1, k + 1, pre ++ [cutL s a k], by omega, Nat.le_refl _, by go_num, HI3.out, hcell3, hJ3, by simp; omega, by rw [HL.out, HN.out]; simp⟩
            case measure =>
              have e2 : W3.iterPos W.heap.size = k + 1 := by simp [World.iterPos, HI3.out]
              rw [e1.out, e2]; omega
          · gi_wp2
            refine bodyPost_ret (results_none rfl _ _ _) rfl ?_
            exact ⟨⟨_, rfl⟩, .inr ⟨_, trivial, hJx3⟩⟩
        · have h4 : ((s[k].toNat : Int) != 10) = true := by simp; omega
          have HN := Lib.hid (lines_go s a k hak h1 h3)
          clear h3
          gi_wp2
          go_roundw
          case rel => exact ⟨k + 1, a, pre, by omega, by omega, rfl, HI1.out, hcell1, HJ1.out, by omega, by rw [HL.out, HN.out]⟩
          case measure =>
            have e2 : W1.iterPos W.heap.size = k + 1 := by simp [World.iterPos, HI1.out]
            rw [e1.out, e2]; omega
    · have hnx : ∀ ty, (Instr.next (.pointer (some ⟨W.heap.size, 0, none⟩)) true ty).run Try.prog wr = .ok (.tuple #[.bool false]) wr := fun ty => Lib.run_next_end_at wr W.heap.size s k ty HI.out h1
      have HE := Lib.hid (lines_end s a k (by omega) hak)
      by_cases h2 : a < s.size
      · obtain ⟨fn, tmps, assign, body, hy, hR⟩ := hY pre (s.data.toList.drop a) wr HJ.out (by omega)
        rw [show strOf (s.data.toList.drop a) = s.extract a s.size from (extract_rest s a).symm] at hy
        gi_wp2
        refine hR.mono ?_
        rintro e W3 (⟨rfl, hJ3, hk3⟩ | ⟨rfl, hJx3⟩)
        · gi_wp2
          go_end0
          exact ⟨⟨_, rfl⟩, .inl ⟨_, by rw [HL.out, HE.out, if_pos h2], hJ3⟩⟩
        · gi_wp2
          go_end0
          exact ⟨⟨_, rfl⟩, .inr ⟨_, trivial, hJx3⟩⟩
      · gi_wp2
        go_end0
        exact ⟨⟨_, rfl⟩, .inl ⟨pre, by rw [HL.out, HE.out, if_neg h2, List.append_nil], HJ.out⟩⟩

theorem lines_stops (n : Nat) (hn : 1 ≤ n) (Bn n₀ : Nat) (s : ByteArray) (hs : s.size ≤ 1048576) (w : World) (hB0 : Bn < n₀) (hn0 : n₀ ≤ w.heap.size)
    (hc : w.cell? ⟨Bn, 0, none⟩ = some (.string s)) :
    SeqStopsK Fence.wide n Try.prog 45 #[.pointer (some ⟨Bn, 0, none⟩)] (fun x : List UInt8 => #[Value.string (strOf x)]) (Kept n₀) (fun ys => ys = linesL s.data.toList) (fun _ => True) 1048577 w := fun l J Jx W hW hJ hJx hY h0 =>
  lines1_in n hn l Bn n₀ s hs J Jx W hJ hJx hY ((hW.cell (p := ⟨Bn, 0, none⟩) (by simp; omega)).trans hc) hB0 (Nat.le_trans hn0 hW.size) h0

set_option maxRecDepth 100000 in
set_option maxHeartbeats 2000000 in
/-- impl.collect over an iterator that tells all of xs where no round says 'no more'. -/
theorem collect_in (g : Nat) (Bn : Nat) (xs : List (List UInt8)) (w : World) (hB : Bn < w.heap.size) (hlen : xs.length ≤ 1048577)
    (eg : ∀ args w, (callFunc g args).run Try.prog w = .ok (.enter g args) w)
    (hseq : ∀ w', Below w.heap.size w w' → SeqStopsK Fence.wide 4 Try.prog g #[.pointer (some ⟨Bn, 0, none⟩)] (fun x : List UInt8 => #[Value.string (strOf x)]) (Kept w.heap.size) (fun ys => ys = xs) (fun _ => True) 1048577 w') :
    CallsIn Fence.wide 5 Try.prog 28 #[.func (.func g) #[] #[.pointer (some ⟨Bn, 0, none⟩)]] w fun e W' => ∃ v, e = .returned v ∧ Strs W' w.heap.size v xs ∧ Below w.heap.size w W' := by
  obtain ⟨i0, hi, hz0, hz1, hz2⟩ := info_parts infoS
  refine callsIn_of_wp_marks Try.func28 rfl trivial ?_ rfl
  simp only [Try.ntmps28, List.size_toArray, List.length_cons, List.length_nil, Nat.reduceAdd, Nat.reduceSub, Array.replicate_succ, Array.replicate_zero, List.push_toArray, List.append_toArray, List.nil_append, List.cons_append]
  gi_wp2
  have bO := Boxed.new w 24 (.slice none 0 0)
  have hB0 : Below w.heap.size w (w.alloc (.cells #[.slice none 0 0] 24)) := (Below.refl _ w).alloc (Nat.le_refl _) _
  refine wpIn_rangeFunc_ownG rfl (by decide) (gf := g) (lb := #[.pointer (some ⟨Bn, 0, none⟩)]) rfl trivial eg
    (hseq _ hB0) kept_t (kept_b (by simp)) (Below.refl _ _) (fun _ => rfl)
    (fun pre W => (∃ v, Boxed W w.heap.size 24 v ∧ W.ownsRow w.heap.size 9 1 v pre.length (pre.map fun l => Value.string (strOf l)) ∧ True) ∧ Below w.heap.size w W)
    (fun _ _ _ => False)
    (OwnFrom.and (Own.from (holdsRow_own w.heap.size w.heap.size 24 9 1 (fun pre : List (List UInt8) => pre.length) (fun pre => pre.map fun l => Value.string (strOf l)) (fun _ _ => True)) _) (ownFrom_below (Nat.le_refl _) (by simp)))
    (fun _ _ _ _ _ hs _ _ => hs)
    ⟨⟨_, bO, World.ownsRow_nil _ _ _ _, trivial⟩, hB0⟩
    (fun x => { tmps := #[.func (.func g) #[] #[.pointer (some ⟨Bn, 0, none⟩)], undef, .slice none 0 0, .pointer (some ⟨w.heap.size, 0, none⟩), .string (strOf x), .func (.func g) #[] #[.pointer (some ⟨Bn, 0, none⟩)], .string (strOf x), undef, undef, undef, undef, undef], defers := [] }) ?assign ?body ?done ?stop
  case assign =>
    intro l x W K hK
    gi_wp2
    exact hK
  case body =>
    rintro l pre x W ⟨⟨v, hv, hrow, _⟩, hB⟩ hlt
    have hc := hv.cell
    gi_wp2_with (gi_at_builtin; refine wpListIn_append_own _ rfl _ _ 24 rfl w.heap.size 9 i0 (.string ⟨#[]⟩) 1 16 Try.underlying24 hi hz0 hz1 hz2 rfl (by decide) _ _ _ rfl (hrow.alloc _) ⟨W.heap.size, 0, none⟩ 1 1 [.string (strOf x)] rfl rfl (cell_one_new _ _ _) (by simp [Value.oneCell']) (by unfold maxLen; omega) (by omega) (by have := hB.size; simp; omega) ?_; intro v' w1 hown' hgrow _; obtain ⟨g', cap', rfl⟩ := ownsRow_succ hown'; obtain ⟨hv1, hv2, hr2, hk2, hb2⟩ := hv.appended (by decide) hrow hB.size (Nat.le_refl _) hown' hgrow; have hc1 := hv1.cell; have hf1 := hv1.frozen)
    exact ⟨hk2.from _, ⟨hb2, hk2.walks⟩, ⟨_, hv2, by simpa using hr2, trivial⟩, hB.trans hb2⟩
  case done =>
    rintro D ys W hD rfl ⟨⟨v, hv, hrow, _⟩, hB⟩ hK
    have hc := hv.cell
    gi_wp2
    refine ⟨by simp, .inl ⟨_, _, rfl, run_takeDeferred hK, ?_⟩⟩
    exact ⟨_, results_tmp rfl _ _ _, v, rfl, ownsRow_putObj hrow _ hK rfl, hB.trans (belowK_b (w := w) (Nat.le_refl _) W D _ _ (by simp at hD; omega) hK rfl rfl)⟩
  case stop =>
    rintro D c pre W _ _ h _
    exact h.elim

theorem eachLine (s : ByteArray) (w : World) :
    Calls Try.prog 34 #[.string s] w fun e w' => e = .returned (.func (.func 45) #[] #[.pointer (some ⟨w.heap.size, 0, none⟩)]) ∧ w' = w.alloc (.cells #[.string s] 9) := by
  go_enter Try.func34, Try.ntmps34
  go_wp2
  go_ret
  exact ⟨rfl, rfl⟩

theorem collect_lines (s : ByteArray) (hs : s.size ≤ 1048576) (w : World) (Bn : Nat) (hB : Bn < w.heap.size) (hc : w.cell? ⟨Bn, 0, none⟩ = some (.string s)) :
    Calls Try.prog 28 #[.func (.func 45) #[] #[.pointer (some ⟨Bn, 0, none⟩)]] w fun e W' => ∃ v, e = .returned v ∧ Strs W' w.heap.size v (linesL s.data.toList) ∧ Below w.heap.size w W' :=
  callsIn_wide.1 (collect_in 45 Bn (linesL s.data.toList) w hB (by have := linesGo_len s.data.toList []; simp at this; unfold linesL; omega) (enters_of Try.func45 (by kernel_rfl) rfl)
    (fun w' hb => lines_stops 4 (by decide) Bn w.heap.size s hs w' hB hb.size ((hb.cell (p := ⟨Bn, 0, none⟩) hB).trans hc)))

theorem Strs.base {w : World} {B C : Nat} {v : Value} {ls : List (List UInt8)} (h : Strs w B v ls) (hC : C ≤ B) : Strs w C v ls := by
  refine ⟨h.1, ?_⟩
  rcases h.2 with hn | ⟨g, cap, cur, hv, hb, rest⟩
  · exact .inl hn
  · exact .inr ⟨g, cap, cur, hv, Nat.le_trans hC hb, rest⟩

theorem implLines (s : ByteArray) (w : World) (hs : s.size ≤ 1048576) :
    Calls Try.prog 16 #[.string s] w fun e w' => ∃ v, e = .returned v ∧ Strs w' w.heap.size v (linesL s.data.toList) ∧ Below w.heap.size w w' := by
  go_enter Try.func16, Try.ntmps16
  go_wp2_with (first | (go_at_call 34; refine (eachLine _ _).mono ?_; rintro e w' ⟨rfl, rfl⟩) | (go_at_call 28; refine (collect_lines s hs _ w.heap.size (by simp) (World.cell?_alloc_at _ _ _ _ rfl)).mono ?_; rintro e w' ⟨v, rfl, hS, hb⟩))
  go_ret
  exact ⟨v, rfl, hS.base (by simp), ((Below.refl _ w).alloc (Nat.le_refl _) _).trans (hb.mono (by simp))⟩
end Go.Proofs.Ytlkmpmlcjiiboaa
