/- strings.SplitSeq at a stroke: an iterator that tells the parts of a text, and writes the text that is left into a box of its own. -/
import Derived.Test.YtcknohalbamjfaaDoorRangeBox
import Derived.Test.YtcknohalbamjfaaDoorPathFns3
namespace Go.Proofs.YtcknohalbamjfaaDoor
open Go.RowKit Go.Shelf

/-- The iterator's boxes: the text that is left, the stroke, how much of it is kept. -/
structure Boxes (b0 : Nat) (rem : List UInt8) (W : World) : Prop where
  s : Boxed W b0 9 (.string (strOf rem))
  sep : Boxed W (b0 + 1) 9 (.string ⟨#[47]⟩)
  sv : Boxed W (b0 + 2) 3 (.int .i64 0)
/-- What a round keeps of them. -/
def KeptS (b0 : Nat) (W W' : World) : Prop := ∀ k, b0 ≤ k → k ≤ b0 + 2 → W'.heap[k]? = W.heap[k]?
theorem keptS_t {b0 : Nat} {A B C : World} (h : KeptS b0 A B) (k : KeptS b0 B C) : KeptS b0 A C := fun i h1 h2 => (k i h1 h2).trans (h i h1 h2)
theorem keptS_b {b0 : Nat} {w : World} (hn : b0 + 3 ≤ w.heap.size) (W : World) (l : Nat) (o o' : Obj) (hl : w.heap.size ≤ l) (_ : W.heap[l]? = some o) (_ : o.isCells = false) (_ : o.isWalk = false) : KeptS b0 W (W.putObj l o') :=
  fun k _ h2 => World.putObj_heap_other (by omega)
theorem Boxes.kept {b0 : Nat} {rem : List UInt8} {W W' : World} (h : Boxes b0 rem W) (k : KeptS b0 W W') : Boxes b0 rem W' :=
  ⟨(k b0 (by omega) (by omega)).trans h.s, (k (b0 + 1) (by omega) (by omega)).trans h.sep, (k (b0 + 2) (by omega) (by omega)).trans h.sv⟩
theorem Boxes.on {b0 : Nat} {rem : List UInt8} {W W' : World} (h : Boxes b0 rem W) (hb : Below W.heap.size W W') : Boxes b0 rem W' :=
  ⟨(hb.block _ h.s.lt).trans h.s, (hb.block _ h.sep.lt).trans h.sep, (hb.block _ h.sv.lt).trans h.sv⟩
def strLen : Option Value → Nat
  | some (.string b) => b.size
  | _ => 0
theorem Boxes.len {b0 : Nat} {rem : List UInt8} {W : World} (h : Boxes b0 rem W) : strLen (W.cell? ⟨b0, 0, none⟩) = rem.length := by
  rw [h.s.cell]; show (strOf rem).size = _; exact strOf_size rem

set_option maxRecDepth 100000 in
set_option maxHeartbeats 4000000 in
theorem split_in (n : Nat) (hn : 2 ≤ n) (l b0 : Nat) (s : List UInt8) (hs : s.length ≤ 1500000) (J : List (List UInt8) → World → Prop) (W : World)
    (hJ : AbidesS b0 J)
    (hY : ∀ pre x W1, J pre W1 → pre.length < 1500001 → YieldAt Fence.wide (n - 1) Tryd.prog l #[.string (strOf x)] W1 fun e W' => e = .returned (.bool true) ∧ J (pre ++ [x]) W' ∧ KeptS b0 W1 W')
    (hB : Boxes b0 s W) (h0 : J [] W) :
    CallsIn Fence.wide n Tryd.prog 60 #[.func (.yield l) #[] #[], .pointer (some ⟨b0 + 1, 0, none⟩), .pointer (some ⟨b0, 0, none⟩), .pointer (some ⟨b0 + 2, 0, none⟩)] W fun e W' => (∃ v, e = .returned v) ∧ ∃ ys, ys = partsL s ∧ J ys W' := by
  refine callsIn_of_wp Tryd.func60 rfl trivial ?_ rfl
  simp only [Tryd.ntmps60, List.size_toArray, List.length_cons, List.length_nil, Nat.reduceAdd, Nat.reduceSub, Array.replicate_succ, Array.replicate_zero, List.push_toArray, List.append_toArray, List.nil_append, List.cons_append]
  have hsc := hB.sep.cell
  gi_wp2
  gi_loopw [7, 8] (fun _ _ wr => ∃ (pre : List (List UInt8)) (rem : List UInt8), Boxes b0 rem wr ∧ J pre wr ∧ partsL s = pre ++ partsL rem ∧ pre.length + rem.length ≤ s.length) (fun _ _ wr => strLen (wr.cell? ⟨b0, 0, none⟩))
  case atStart => exact ⟨[], s, hB, h0, rfl, by simp⟩
  case round =>
    obtain ⟨pre, rem, hBr, hJr, hp, hlen⟩ := hrel
    have HP := Lib.hid hp
    have HB := Lib.hid hBr
    have HJ := Lib.hid hJr
    have hc0 := hBr.s.cell
    have hc1 := hBr.sep.cell
    have hc2 := hBr.sv.cell
    have hlr := Lib.hid hBr.len
    clear hp hBr hJr hsc
    by_cases h47 : 47 ∈ rem
    · obtain ⟨a, t, rfl, ha⟩ := first_stroke rem h47
      have HQ := Lib.hid (show partsL s = (pre ++ [a]) ++ partsL t by rw [HP.out, parts_cut, parts_one ha]; simp)
      have hln : (a ++ 47 :: t).length = a.length + 1 + t.length := by simp; omega
      rw [hln] at hlen
      have CI := Lib.hid (show ∀ W, Calls Tryd.prog 62 #[.string (strOf (a ++ 47 :: t)), .string ⟨#[47]⟩] W fun e w' => e = .returned (.int .i64 (a.length : Int)) ∧ w' = W from fun W => by
        have c := Tryd.strings_Index_one (strOf (a ++ 47 :: t)) 47 W
        rw [strOf_data, indexByte_at a t ha] at c
        exact c)
      have hszr : (strOf (a ++ 47 :: t)).size = a.length + 1 + t.length := by rw [strOf_size]; exact hln
      have hto : ∀ W, (Instr.slice 9 (.string (strOf (a ++ 47 :: t))) none (some (.int .i64 (a.length : Int))) none).run Tryd.prog W = .ok (.string (strOf a)) W := fun W => by
        rw [cutTo _ a.length (by rw [hszr]; omega) W _ rfl, extract_pre _ a (47 :: t) (strOf_data _)]
      have hfrom : ∀ W, (Instr.slice 9 (.string (strOf (a ++ 47 :: t))) (some (.int .i64 ((a.length : Int) + 1))) none none).run Tryd.prog W = .ok (.string (strOf t)) W := fun W => by
        have e2 := extract_suf (strOf (a ++ 47 :: t)) (a ++ [47]) t (by rw [strOf_data]; simp)
        rw [List.length_append] at e2
        rw [cutFrom _ (a.length + 1) (by rw [hszr]; omega) W _ (by omega), ← e2]; rfl
      obtain ⟨fn, tmps, assign, body, hy, hR⟩ := hY pre a wr HJ.out (by omega)
      generalize strOf (a ++ 47 :: t) = x at hc0 CI hto hfrom
      gi_wp2_with fail
      refine ⟨trivial, fun _ => by omega, ?_⟩
      refine (callsIn_wide.2 (CI.out _)).mono ?_
      rintro e w' ⟨rfl, hw⟩
      rw [hw]
      gi_wp2
      refine ⟨fun _ => by omega, hR.mono ?_⟩
      rintro e W3 ⟨rfl, hJ3, hk3⟩
      have HB3 := Lib.hid (HB.out.kept hk3)
      have hd0 := ((World.cell?_of_block (a := ⟨b0, 0, none⟩) (hk3 b0 (by omega) (by omega))).trans hc0)
      have hd1 := HB3.out.sep.cell
      have hd2 := HB3.out.s.frozen
      have HJ3 := Lib.hid (hJ _ _ (W3.setCell ⟨b0, 0, none⟩ (.string (strOf t))) (some b0) hJ3 (grownBy_setCell' W3 b0 _) (fun r e => by cases e; rfl))
      have HB4 := Lib.hid (show Boxes b0 t (W3.setCell ⟨b0, 0, none⟩ (.string (strOf t))) from ⟨HB3.out.s.set _, HB3.out.sep.other (by omega) _, HB3.out.sv.other (by omega) _⟩)
      clear hJ3 hk3 hR hy
      gi_wp2
      go_roundw
      case rel => exact ⟨pre ++ [a], t, HB4.out, HJ3.out, HQ.out, by rw [List.length_append]; simp; omega⟩
      case measure => rw [hlr.out, HB4.out.len, hln]; omega
    · have CI := Lib.hid (show ∀ W, Calls Tryd.prog 62 #[.string (strOf rem), .string ⟨#[47]⟩] W fun e w' => e = .returned (.int .i64 (-1)) ∧ w' = W from fun W => by
        have c := Tryd.strings_Index_one (strOf rem) 47 W
        rw [strOf_data, indexByte_no rem h47] at c
        exact c)
      have HQ := Lib.hid (show pre ++ [rem] = partsL s by rw [HP.out, parts_one h47])
      obtain ⟨fn, tmps, assign, body, hy, hR⟩ := hY pre rem wr HJ.out (by omega)
      generalize strOf rem = x at hc0 CI hy
      gi_wp2_with fail
      refine ⟨trivial, fun _ => by omega, ?_⟩
      refine (callsIn_wide.2 (CI.out _)).mono ?_
      rintro e w' ⟨rfl, hw⟩
      rw [hw]
      gi_wp2
      refine ⟨fun _ => by omega, hR.mono ?_⟩
      rintro e W3 ⟨rfl, hJ3, hk3⟩
      gi_wp2
      go_end0
      exact ⟨⟨_, rfl⟩, _, rfl, by rw [← HQ.out]; exact hJ3⟩

theorem splitSeq (s : ByteArray) (w : World) :
    Calls Tryd.prog 51 #[.string s, .string ⟨#[47]⟩, .int .i64 0] w fun e w' => e = .returned (.func (.func 60) #[] #[.pointer (some ⟨w.heap.size + 1, 0, none⟩), .pointer (some ⟨w.heap.size, 0, none⟩), .pointer (some ⟨w.heap.size + 2, 0, none⟩)]) ∧
      w' = ((w.alloc (.cells #[.string s] 9)).alloc (.cells #[.string ⟨#[47]⟩] 9)).alloc (.cells #[.int .i64 0] 3) := by
  go_enter Tryd.func51, Tryd.ntmps51
  go_wp2
  go_ret
  exact ⟨rfl, rfl⟩
theorem implSplitSeq (s : ByteArray) (w : World) :
    Calls Tryd.prog 37 #[.string s, .string ⟨#[47]⟩] w fun e w' => e = .returned (.func (.func 60) #[] #[.pointer (some ⟨w.heap.size + 1, 0, none⟩), .pointer (some ⟨w.heap.size, 0, none⟩), .pointer (some ⟨w.heap.size + 2, 0, none⟩)]) ∧
      w' = ((w.alloc (.cells #[.string s] 9)).alloc (.cells #[.string ⟨#[47]⟩] 9)).alloc (.cells #[.int .i64 0] 3) := by
  go_enter Tryd.func37, Tryd.ntmps37
  go_wp2_with (go_at_call 51; refine (splitSeq _ _).mono ?_; rintro e w' ⟨rfl, hw⟩; rw [hw])
  go_ret
  exact ⟨rfl, rfl⟩
end Go.Proofs.YtcknohalbamjfaaDoor
