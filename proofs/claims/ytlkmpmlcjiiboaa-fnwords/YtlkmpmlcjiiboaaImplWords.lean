/- The contract of impl.Words: the words of a text, told by a range over a function. -/
import Derived.Test.YtlkmpmlcjiiboaaRangeBytes
import Derived.Test.YtlkmpmlcjiiboaaImplLines
namespace Go.Proofs.Ytlkmpmlcjiiboaa
open Go.RowKit Go.Shelf
attribute [local go_sem] Oper.semAt_some

theorem abidesB_alloc {β : Type} {B : Nat} {J : β → World → Prop} (h : AbidesB B J) {x : β} {W : World} (hs : J x W) (o : Obj) : J x (W.alloc o) :=
  h x W _ none hs (World.grownBy_alloc W o none) (fun r e => by cases e)
theorem abidesB_iterAt {β : Type} {B : Nat} {J : β → World → Prop} (h : AbidesB B J) {x : β} {W : World} (hs : J x W) {k : Nat} {s : ByteArray} {pos : Nat} (pos' : Nat) (hB : B ≤ k) (hk : W.heap[k]? = some (.stringIter s pos)) : J x (W.iterAt k s pos') :=
  h x W _ (some k) hs (grownBy_iterAt W k s pos') (fun r e => by cases e; exact ⟨hB, _, hk, .inl rfl⟩)
theorem abidesB_bytes {β : Type} {B : Nat} {J : β → World → Prop} (h : AbidesB B J) {x : β} {W W' : World} (hs : J x W) {v : Value} {l : List UInt8} (hb : Bytes W B v l) (hg : W.grownBy W' v.ownBlock) : J x W' :=
  h x W _ _ hs hg (fun r e => by
    rcases hb.2 with ⟨rfl, _⟩ | ⟨g, cap, cur, rfl, hbg, hgc, _⟩
    · cases e
    · cases e; exact ⟨hbg, _, hgc, .inr ⟨_, _, rfl⟩⟩)
theorem Bytes.iterAt {W : World} {B k : Nat} {v : Value} {l : List UInt8} {s : ByteArray} {pos : Nat} (h : Bytes W B v l) (hk : W.heap[k]? = some (.stringIter s pos)) (pos' : Nat) : Bytes (W.iterAt k s pos') B v l := by
  refine World.ownsRow.kept h (grownBy_iterAt W k s pos') ?_
  rcases h.2 with ⟨rfl, _⟩ | ⟨g, cap, cur, rfl, _, hgc, _⟩
  · exact .inl rfl
  · refine .inr ?_
    simp only [Value.ownBlock]
    intro e; cases e
    rw [hgc] at hk; cases hk
/-- The iterator of the text stands where bytes are appended. -/
theorem iter_kept {W W' : World} {B k : Nat} {v : Value} {l : List UInt8} {s : ByteArray} {pos : Nat} (h : Bytes W B v l) (hk : W.heap[k]? = some (.stringIter s pos)) (hg : W.grownBy W' v.ownBlock) : W'.heap[k]? = some (.stringIter s pos) := by
  refine (hg.block k (Array.getElem?_eq_some_iff.1 hk).1 ?_).trans hk
  rcases h.2 with ⟨rfl, _⟩ | ⟨g, cap, cur, rfl, _, hgc, _⟩
  · simp [Value.ownBlock]
  · simp only [Value.ownBlock]
    intro e; cases e
    rw [hgc] at hk; cases hk
theorem below_append {W W' : World} {B : Nat} {v : Value} {l : List UInt8} (h : Bytes W B v l) (hB : B ≤ W.heap.size) (hg : W.grownBy W' v.ownBlock) : Below B W W' :=
  (Below.refl B W).grown hg hB (fun k e => (World.ownsRow.lt h k e).1)

theorem w_skip (s : ByteArray) (cur : List UInt8) (bg qt : Bool) (k : Nat) : ∀ m, 1 ≤ m → (∀ j, j < m → ∃ h : k + j < s.size, 128 ≤ (s[k + j]'h).toNat) →
    wGo cur bg qt (s.data.toList.drop k) = wGo (cur ++ cutL s k (k + m)) true qt (s.data.toList.drop (k + m)) := by
  intro m
  induction m with
  | zero => intro h; omega
  | succ m ih =>
    intro _ h
    obtain ⟨h1, h2⟩ := h m (by omega)
    have hb : (qt || !blankB (s[k + m]'h1)) = true := by
      have : blankB (s[k + m]'h1) = false := by
        unfold blankB
        rw [Bool.or_eq_false_iff]
        constructor <;> (rw [beq_eq_false_iff_ne]; intro e; rw [e] at h2; simp at h2)
      rw [this]; simp
    by_cases hm : m = 0
    · subst hm
      have e1 : wGo cur bg qt (s.data.toList.drop k) = wGo (cur ++ [s[k + 0]'h1]) true qt (s.data.toList.drop (k + (0 + 1))) := w_sign s cur bg qt (k + 0) h1 (by omega) hb
      have e2 : cutL s k (k + (0 + 1)) = cutL s k k ++ [s[k + 0]'h1] := cutL_snoc s k (k + 0) (by omega) h1
      rw [e1, e2, cutL_self]
      simp
    · rw [ih (by omega) (fun j hj => h j (by omega)), w_sign s _ true qt (k + m) h1 (by omega) hb, show k + (m + 1) = k + m + 1 by omega, cutL_snoc s k (k + m) (by omega) h1]
      simp
theorem cutL_join (s : ByteArray) (a k m : Nat) (h : a ≤ k) (hk : k ≤ m) : cutL s a k ++ cutL s k m = cutL s a m := by
  unfold cutL
  rw [show m - a = (k - a) + (m - k) by omega, List.take_add, List.drop_drop, show a + (k - a) = k by omega]

theorem isBlank (r : Int) (w : World) :
    Calls Try.prog 43 #[.int .i32 r] w fun e w' => e = .returned (.bool ((r == 32) || (r == 9))) ∧ w = w' := by
  cases h1 : (r == 32)
  · cases h2 : (r == 9)
    · go_enter Try.func43, Try.ntmps43
      go_wp2
      go_ret
      exact ⟨rfl, rfl⟩
    · go_enter Try.func43, Try.ntmps43
      go_wp2
      go_ret
      exact ⟨rfl, rfl⟩
  · go_enter Try.func43, Try.ntmps43
    go_wp2
    go_ret
    exact ⟨rfl, rfl⟩
theorem blank_val (c : UInt8) : blankB c = (((c.toNat : Int) == 32) || ((c.toNat : Int) == 9)) := by
  have key : ∀ n : Nat, n < 256 → (c == UInt8.ofNat n) = ((c.toNat : Int) == (n : Int)) := fun n hn => by
    rw [Bool.eq_iff_iff]; simp
    constructor
    · intro e; rw [e]; simp; omega
    · intro e; apply UInt8.toNat_inj.mp; simp; omega
  unfold blankB
  rw [show (c == 32) = ((c.toNat : Int) == 32) from key 32 (by decide), show (c == 9) = ((c.toNat : Int) == 9) from key 9 (by decide)]

/-- What is known at the head of a round of eachWord's loop. -/
structure WState (s : ByteArray) (J : List (List UInt8) → World → Prop) (Bn Bi : Nat) (wr : World) (wv : Value) (k a : Nat) (pre : List (List UInt8)) (wd : List UInt8) (bg qt : Bool) : Prop where
  hk : k ≤ s.size
  hak : a ≤ k
  it : wr.heap[Bi]? = some (.stringIter s k)
  cell : wr.cell? ⟨Bn, 0, none⟩ = some (.string s)
  bytes : Bytes wr Bi wv wd
  size : Bi ≤ wr.heap.size
  j : J pre wr
  pl : pre.length ≤ k
  wl : wd.length ≤ a
  off : bg = false → qt = false ∧ wd = [] ∧ a = k
  eq : wordsL s.data.toList = pre ++ wGo (wd ++ cutL s a k) bg qt (s.data.toList.drop k)

theorem Bytes.emptied {W : World} {B : Nat} {v : Value} {l : List UInt8} (h : Bytes W B v l) : Bytes W B (emptied v) [] := by
  rcases h.2 with ⟨rfl, _⟩ | ⟨g, cap, cur, rfl, hbg, hgc, hnc, hcm, hcs, htake⟩
  · exact World.ownsRow_nil _ _ _ _
  · exact ⟨by simp [byteVals], .inr ⟨g, cap, cur, rfl, hbg, hgc, Nat.zero_le _, hcm, hcs, by simp [byteVals]⟩⟩
theorem run_empty {W : World} {B : Nat} {v : Value} {l : List UInt8} (h : Bytes W B v l) (w : World) :
    (Instr.slice 22 v none (some (.int .i64 0)) none).run Try.prog w = .ok (Go.Proofs.Ytlkmpmlcjiiboaa.emptied v) w := by
  have hel : Try.prog.elem 22 = 5 := by kernel_rfl
  obtain ⟨ao, n, cap, rfl, hao⟩ : ∃ ao n cap, v = .slice ao n cap ∧ (ao = none → cap = 0) := by
    rcases h.2 with ⟨rfl, _⟩ | ⟨g, cap, cur, rfl, _⟩
    · exact ⟨_, _, _, rfl, fun _ => rfl⟩
    · exact ⟨_, _, _, rfl, fun e => by cases e⟩
  rw [run_slice_h (w := w) (t := 22) (a := ao) (len := n) (cap := cap) (ht := by kernel_rfl) (kh := .i64) (h := 0) (h0 := by omega) (h2 := by omega), hel, Try.sizeOf5]
  simp [sliced, Go.Proofs.Ytlkmpmlcjiiboaa.emptied, Result.andThen]
  intro _
  cases ao <;> simp [Addr.add]

set_option maxRecDepth 100000 in
set_option maxHeartbeats 4000000 in
theorem words1_in (n : Nat) (hn : 2 ≤ n) (l Bn n₀ : Nat) (s : ByteArray) (hs : s.size ≤ 1048576) (J Jx : List (List UInt8) → World → Prop) (W : World)
    (hJ : AbidesB W.heap.size J)
    (hY : ∀ pre x W1, J pre W1 → pre.length < 1048577 → YieldAt Fence.wide (n - 1) Try.prog l #[.string (strOf x)] W1 fun e W' =>
      (e = .returned (.bool true) ∧ J (pre ++ [x]) W' ∧ KeptB n₀ W1 W') ∨ (e = .returned (.bool false) ∧ Jx (pre ++ [x]) W'))
    (hBn : W.cell? ⟨Bn, 0, none⟩ = some (.string s)) (hB0 : Bn < n₀) (hn0 : n₀ ≤ W.heap.size) (h0 : J [] W) :
    CallsIn Fence.wide n Try.prog 42 #[.func (.yield l) #[] #[], .pointer (some ⟨Bn, 0, none⟩)] W fun e W' => (∃ v, e = .returned v) ∧
      ((∃ ys, ys = wordsL s.data.toList ∧ J ys W') ∨ (∃ pre, True ∧ Jx pre W')) := by
  refine callsIn_of_wp Try.func42 rfl trivial ?_ rfl
  simp only [Try.ntmps42, List.size_toArray, List.length_cons, List.length_nil, Nat.reduceAdd, Nat.reduceSub, Array.replicate_succ, Array.replicate_zero, List.push_toArray, List.append_toArray, List.nil_append, List.cons_append]
  gi_wp2
  gi_loopw [3, 4, 5, 6, 7, 8] (fun wv fr bv qv _ _ wr => ∃ (k a : Nat) (pre : List (List UInt8)) (wd : List UInt8) (bg qt : Bool), fr = .int .i64 a ∧ bv = .bool bg ∧ qv = .bool qt ∧ WState s J Bn W.heap.size wr wv k a pre wd bg qt)
    (fun _ _ _ _ _ _ wr => s.size - wr.iterPos W.heap.size)
  case atStart =>
    refine ⟨0, 0, [], [], false, false, rfl, rfl, rfl, Nat.zero_le _, Nat.zero_le _, World.iter_heap W s 0, ?_, World.ownsRow_nil _ _ _ _, by simp [World.iter], abidesB_alloc hJ h0 _, Nat.le_refl _, Nat.zero_le _, fun _ => ⟨rfl, rfl, rfl⟩, by simp [wordsL, cutL_self]⟩
    exact (World.cell?_of_block (Below.heap_alloc W _ Bn (by omega))).trans hBn
  case round =>
    obtain ⟨k, a, pre, wd, bg, qt, rfl, rfl, rfl, ST⟩ := hrel
    have hk := ST.hk
    have hak := ST.hak
    have hwl := ST.wl
    have hpl := ST.pl
    by_cases h1 : k < s.size
    · by_cases h2 : 128 ≤ s[k].toNat
      · obtain ⟨W1, hW1⟩ : ∃ W1, wr.iterAt W.heap.size s (k + (Utf8.decode s k).2) = W1 := ⟨_, rfl⟩
        have hnx : ∀ ty, (Instr.next (.pointer (some ⟨W.heap.size, 0, none⟩)) true ty).run Try.prog wr = .ok (.tuple #[.bool true, .int .i64 k, .int .i32 (Utf8.decode s k).1]) W1 := fun ty => by rw [← hW1]; exact Lib.run_next_any_at wr W.heap.size s k ty ST.it h1
        have hrune := (decode_high s k h1 h2).1
        have hne1 : (((Utf8.decode s k).1 : Int) == 34) = false := by simp; omega
        have hne2 : (((Utf8.decode s k).1 : Int) == 32) = false := by simp; omega
        have hne3 : (((Utf8.decode s k).1 : Int) == 9) = false := by simp; omega
        have hpos := (decode_high s k h1 h2).2
        have hend := decode_end s k h1 h2
        have HW := Lib.hid hW1
        clear hW1
        have HS := Lib.hid (w_skip s (wd ++ cutL s a k) bg qt k (Utf8.decode s k).2 hpos (fun j hj => decode_at_bytes s k h1 h2 j hj))
        have fin : WState s J Bn W.heap.size W1 u3 (k + (Utf8.decode s k).2) a pre wd true qt := by
          rw [← HW.out]
          exact ⟨hend, by omega, Lib.iterAt_heap wr _ s k _ ST.it, by rw [cell_iterAt (by simp; omega)]; exact ST.cell, ST.bytes.iterAt ST.it _, by rw [Lib.iterAt_size]; exact ST.size, abidesB_iterAt hJ ST.j _ (Nat.le_refl _) ST.it, by omega, by omega, (fun e => by cases e), by rw [ST.eq, HS.out, List.append_assoc, cutL_join s a k _ hak (by omega)]⟩
        have FIN := Lib.hid fin
        have e1 := Lib.hid (show wr.iterPos W.heap.size = k by simp [World.iterPos, ST.it])
        clear fin
        have e2 := Lib.hid (show W1.iterPos W.heap.size = k + (Utf8.decode s k).2 by rw [← HW.out]; simp [World.iterPos, Lib.iterAt_heap wr _ s k _ ST.it])
        cases qt with
        | true =>
          gi_wp2
          refine ⟨trivial, ?_⟩
          gi_wp2
          go_roundw
          case rel => exact ⟨_, a, pre, wd, true, true, rfl, rfl, rfl, FIN.out⟩
          case measure => rw [e1.out, e2.out]; omega
        | false =>
          gi_wp2_with fail
          refine ⟨trivial, fun _ => by omega, ?_⟩
          refine (callsIn_wide.2 (isBlank _ _)).mono ?_
          rintro e w' ⟨rfl, rfl⟩
          gi_wp2
          go_roundw
          case rel => exact ⟨_, a, pre, wd, true, false, rfl, rfl, rfl, FIN.out⟩
          case measure => rw [e1.out, e2.out]; omega
      · obtain ⟨W1, hW1⟩ : ∃ W1, wr.iterAt W.heap.size s (k + 1) = W1 := ⟨_, rfl⟩
        have hnx : ∀ ty, (Instr.next (.pointer (some ⟨W.heap.size, 0, none⟩)) true ty).run Try.prog wr = .ok (.tuple #[.bool true, .int .i64 k, .int .i32 s[k].toNat]) W1 := fun ty => by rw [← hW1]; exact Lib.run_next_ascii_at wr W.heap.size s k ty ST.it h1 (by omega)
        have hcell1 : W1.cell? ⟨Bn, 0, none⟩ = some (.string s) := by rw [← hW1, cell_iterAt (by simp; omega)]; exact ST.cell
        have HI1 := Lib.hid (show W1.heap[W.heap.size]? = some (.stringIter s (k + 1)) by rw [← hW1]; exact Lib.iterAt_heap wr _ s k _ ST.it)
        have HJ1 := Lib.hid (show J pre W1 by rw [← hW1]; exact abidesB_iterAt hJ ST.j _ (Nat.le_refl _) ST.it)
        have HB1 := Lib.hid (show Bytes W1 W.heap.size u3 wd by rw [← hW1]; exact ST.bytes.iterAt ST.it _)
        have hsz1 : W.heap.size ≤ W1.heap.size := by rw [← hW1, Lib.iterAt_size]; exact ST.size
        have e1 := Lib.hid (show wr.iterPos W.heap.size = k by simp [World.iterPos, ST.it])
        have e2 := Lib.hid (show W1.iterPos W.heap.size = k + 1 by simp [World.iterPos, HI1.out])
        clear hW1
        by_cases h3 : s[k].toNat = 34
        · have h4 : ((s[k].toNat : Int) == 34) = true := by simp [h3]
          have HN := Lib.hid (w_quote s (wd ++ cutL s a k) bg qt k h1 h3)
          clear h3
          have hcl : (cutL s a k).length ≤ k := by simp [cutL]; omega
          obtain ⟨v', W2, hr, hB2, hg2, _⟩ := append_str (x := cutL s a k) HB1.out (extract_str s a k) (by omega) hsz1
          have HI2 := Lib.hid (iter_kept HB1.out HI1.out hg2)
          have HBE := Lib.hid (below_append HB1.out hsz1 hg2)
          have hcell2 : W2.cell? ⟨Bn, 0, none⟩ = some (.string s) := (HBE.out.cell (p := ⟨Bn, 0, none⟩) (by simp; omega)).trans hcell1
          have FIN : Hid (WState s J Bn W.heap.size W2 v' (k + 1) (k + 1) pre (wd ++ cutL s a k) true (!qt)) := Lib.hid ⟨by omega, Nat.le_refl _, HI2.out, hcell2, hB2, Nat.le_trans hsz1 HBE.out.size, abidesB_bytes hJ HJ1.out HB1.out hg2, by omega, by rw [List.length_append]; simp [cutL]; omega, (fun e => by cases e), by rw [ST.eq, HN.out, cutL_self]; simp⟩
          clear hg2 hB2
          gi_wp2_with (gi_at_builtin; refine wpListIn_append_run (by rfl) _ _ 22 9 rfl _ _ rfl rfl _ _ hr ?_)
          go_roundw
          case rel => exact ⟨k + 1, k + 1, pre, _, true, !qt, by go_num, rfl, rfl, FIN.out⟩
          case measure =>
            have e3 : W2.iterPos W.heap.size = k + 1 := by simp [World.iterPos, HI2.out]
            rw [e1.out, e3]; omega
        · have h4 : ((s[k].toNat : Int) == 34) = false := by simp; omega
          cases h5 : (qt || !blankB s[k]) with
          | true =>
            have HN := Lib.hid (w_sign s (wd ++ cutL s a k) bg qt k h1 h3 h5)
            have FIN : Hid (WState s J Bn W.heap.size W1 u3 (k + 1) a pre wd true qt) := Lib.hid ⟨by omega, by omega, HI1.out, hcell1, HB1.out, hsz1, HJ1.out, by omega, by omega, (fun e => by cases e), by rw [ST.eq, HN.out, cutL_snoc s a k hak h1]; simp⟩
            cases qt with
            | true =>
              gi_wp2
              refine ⟨trivial, ?_⟩
              gi_wp2
              go_roundw
              case rel => exact ⟨k + 1, a, pre, wd, true, true, rfl, rfl, rfl, FIN.out⟩
              case measure => rw [e1.out, e2.out]; omega
            | false =>
              have h6 : blankB s[k] = false := by simpa using h5
              rw [blank_val, Bool.or_eq_false_iff] at h6
              obtain ⟨h7, h8⟩ := h6
              clear h5
              gi_wp2_with fail
              refine ⟨trivial, fun _ => by omega, ?_⟩
              refine (callsIn_wide.2 (isBlank _ _)).mono ?_
              rintro e w' ⟨rfl, rfl⟩
              gi_wp2
              go_roundw
              case rel => exact ⟨k + 1, a, pre, wd, true, false, rfl, rfl, rfl, FIN.out⟩
              case measure => rw [e1.out, e2.out]; omega
          | false =>
            obtain ⟨rfl, h6⟩ : qt = false ∧ blankB s[k] = true := by
              cases qt with
              | true => simp at h5
              | false => simp at h5; exact ⟨rfl, h5⟩
            have HN := Lib.hid (w_blank s (wd ++ cutL s a k) bg false k h1 h5)
            rw [blank_val] at h6
            have hre := run_empty HB1.out
            clear h5
            cases bg with
            | false =>
              obtain ⟨_, rfl, rfl⟩ := ST.off rfl
              have FIN : Hid (WState s J Bn W.heap.size W1 (emptied u3) (a + 1) (a + 1) pre [] false false) := Lib.hid ⟨by omega, Nat.le_refl _, HI1.out, hcell1, HB1.out.emptied, hsz1, HJ1.out, by omega, by simp, (fun _ => ⟨rfl, rfl, rfl⟩), by rw [ST.eq, HN.out]; simp [cutL_self]⟩
              gi_wp2_with fail
              refine ⟨trivial, fun _ => by omega, ?_⟩
              refine (callsIn_wide.2 (isBlank _ _)).mono ?_
              rintro e w' ⟨rfl, rfl⟩
              gi_wp2
              refine ⟨fun _ h => (by cases h), ?_⟩
              gi_wp2
              go_roundw
              case rel => exact ⟨a + 1, a + 1, pre, [], false, false, by go_num, rfl, rfl, FIN.out⟩
              case measure => rw [e1.out, e2.out]; omega
            | true =>
              have hcl : (cutL s a k).length ≤ k := by simp [cutL]; omega
              obtain ⟨v', W2, hr, hB2, hg2, hE2⟩ := append_str (x := cutL s a k) HB1.out (extract_str s a k) (by omega) hsz1
              have HI2 := Lib.hid (iter_kept HB1.out HI1.out hg2)
              have HBE := Lib.hid (below_append HB1.out hsz1 hg2)
              have hcell2 : W2.cell? ⟨Bn, 0, none⟩ = some (.string s) := (HBE.out.cell (p := ⟨Bn, 0, none⟩) (by simp; omega)).trans hcell1
              have HJ2 := Lib.hid (abidesB_bytes hJ HJ1.out HB1.out hg2)
              have hcv := conv_bytes hB2
              have HE2 := Lib.hid hE2
              obtain ⟨fn, tmps, assign, body, hy, hR⟩ := hY pre (wd ++ cutL s a k) W2 HJ2.out (by omega)
              clear hg2 hB2 hE2
              gi_wp2_with fail
              refine ⟨trivial, fun _ => by omega, ?_⟩
              refine (callsIn_wide.2 (isBlank _ _)).mono ?_
              rintro e w' ⟨rfl, rfl⟩
              gi_wp2_with (gi_at_builtin; refine wpListIn_append_run (by rfl) _ _ 22 9 rfl _ _ rfl rfl _ _ hr ?_)
              refine ⟨fun _ => by omega, hR.mono ?_⟩
              rintro e W3 (⟨rfl, hJ3, hk3⟩ | ⟨rfl, hJx3⟩)
              · have HI3 := Lib.hid (hk3.2.1.same _ _ HI2.out rfl)
                have hcell3 : W3.cell? ⟨Bn, 0, none⟩ = some (.string s) := (hk3.1.cell (p := ⟨Bn, 0, none⟩) hB0).trans hcell2
                have FIN : Hid (WState s J Bn W.heap.size W3 (emptied u3) (k + 1) (k + 1) (pre ++ [wd ++ cutL s a k]) [] false false) := Lib.hid ⟨by omega, Nat.le_refl _, HI3.out, hcell3, HE2.out.keptB hk3, Nat.le_trans (Nat.le_trans hsz1 HBE.out.size) hk3.1.size, hJ3, by simp; omega, by simp, (fun _ => ⟨rfl, rfl, rfl⟩), by rw [ST.eq, HN.out]; simp [cutL_self]⟩
                gi_wp2
                go_roundw
                case rel => exact ⟨k + 1, k + 1, _, [], false, false, by go_num, rfl, rfl, FIN.out⟩
                case measure =>
                  have e3 : W3.iterPos W.heap.size = k + 1 := by simp [World.iterPos, HI3.out]
                  rw [e1.out, e3]; omega
              · gi_wp2
                refine bodyPost_ret (results_none rfl _ _ _) rfl ?_
                exact ⟨⟨_, rfl⟩, .inr ⟨_, trivial, hJx3⟩⟩
    · have hnx : ∀ ty, (Instr.next (.pointer (some ⟨W.heap.size, 0, none⟩)) true ty).run Try.prog wr = .ok (.tuple #[.bool false]) wr := fun ty => Lib.run_next_end_at wr W.heap.size s k ty ST.it h1
      have HE := Lib.hid (w_end s (wd ++ cutL s a k) bg qt k (by omega))
      have hcell := ST.cell
      cases bg with
      | false =>
        gi_wp2
        go_end0
        exact ⟨⟨_, rfl⟩, .inl ⟨pre, by rw [ST.eq, HE.out]; simp, ST.j⟩⟩
      | true =>
        have hka : k = s.size := by omega
        subst hka
        have hcl : (cutL s a s.size).length ≤ s.size := by simp [cutL]
        obtain ⟨v', W2, hr, hB2, hg2, _⟩ := append_str (x := cutL s a s.size) ST.bytes (extract_str s a s.size) (by omega) ST.size
        have HJ2 := Lib.hid (abidesB_bytes hJ ST.j ST.bytes hg2)
        have hcv := conv_bytes hB2
        obtain ⟨fn, tmps, assign, body, hy, hR⟩ := hY pre (wd ++ cutL s a s.size) W2 HJ2.out (by omega)
        clear hg2 hB2
        gi_wp2_with (gi_at_builtin; refine wpListIn_append_run (by rfl) _ _ 22 9 rfl _ _ rfl rfl _ _ hr ?_)
        refine ⟨fun _ => by omega, hR.mono ?_⟩
        rintro e W3 (⟨rfl, hJ3, hk3⟩ | ⟨rfl, hJx3⟩)
        · gi_wp2
          go_end0
          exact ⟨⟨_, rfl⟩, .inl ⟨_, by rw [ST.eq, HE.out]; simp, hJ3⟩⟩
        · gi_wp2
          go_end0
          exact ⟨⟨_, rfl⟩, .inr ⟨_, trivial, hJx3⟩⟩

theorem words_stops (n : Nat) (hn : 2 ≤ n) (Bn n₀ : Nat) (s : ByteArray) (hs : s.size ≤ 1048576) (w : World) (hB0 : Bn < n₀) (hn0 : n₀ ≤ w.heap.size)
    (hc : w.cell? ⟨Bn, 0, none⟩ = some (.string s)) :
    SeqStopsB Fence.wide n Try.prog 42 #[.pointer (some ⟨Bn, 0, none⟩)] (fun x : List UInt8 => #[Value.string (strOf x)]) (KeptB n₀) (fun ys => ys = wordsL s.data.toList) (fun _ => True) 1048577 w := fun l J Jx W hW hJ _ hY h0 =>
  words1_in n hn l Bn n₀ s hs J Jx W hJ hY ((hW.cell (p := ⟨Bn, 0, none⟩) (by simp; omega)).trans hc) hB0 (Nat.le_trans hn0 hW.size) h0

/-- What collect says of its own memory stands where bytes turn. -/
theorem holds_ownB (n₀ B C : Nat) (w0 : World) (hC : n₀ ≤ C) : OwnB C (fun (pre : List (List UInt8)) W => (∃ v, Boxed W B 24 v ∧ W.ownsRow n₀ 9 1 v pre.length (pre.map fun l => Value.string (strOf l))) ∧ Below n₀ w0 W ∧ n₀ ≤ W.heap.size) := by
  rintro pre W W' row ⟨⟨v, hv, hr⟩, hb, hn⟩ hg hrow
  have key : ∀ (k : Nat) (cs : Array Value) (t : TypeId) (fz : Nat × Nat), t ≠ 5 → W.heap[k]? = some (.cells cs t fz) → some k ≠ row := by
    intro k cs t fz ht hk e
    obtain ⟨_, o, ho, h⟩ := hrow k e.symm
    rw [hk] at ho
    cases ho
    rcases h with h | ⟨cs', fz', h⟩
    · cases h
    · cases h; exact ht rfl
  refine ⟨⟨v, hv.kept hg ?_, World.ownsRow.kept hr hg ?_⟩, hb.grown hg hn (fun k e => Nat.le_trans hC (hrow k e).1), Nat.le_trans hn hg.size⟩
  · exact key B _ _ _ (by decide) hv
  · rcases hr.2 with ⟨rfl, _⟩ | ⟨g, cap, cur, rfl, _, hgc, _⟩
    · exact .inl rfl
    · exact .inr (key g _ _ _ (by decide) hgc)

set_option maxRecDepth 100000 in
set_option maxHeartbeats 2000000 in
/-- impl.collect over an iterator with bytes of its own, that tells all of xs where no round says 'no more'. -/
theorem collectB_in (g : Nat) (Bn : Nat) (xs : List (List UInt8)) (w : World) (hlen : xs.length ≤ 1048577)
    (eg : ∀ args w, (callFunc g args).run Try.prog w = .ok (.enter g args) w)
    (hseq : ∀ w', Below w.heap.size w w' → SeqStopsB Fence.wide 4 Try.prog g #[.pointer (some ⟨Bn, 0, none⟩)] (fun x : List UInt8 => #[Value.string (strOf x)]) (KeptB w.heap.size) (fun ys => ys = xs) (fun _ => True) 1048577 w') :
    CallsIn Fence.wide 5 Try.prog 28 #[.func (.func g) #[] #[.pointer (some ⟨Bn, 0, none⟩)]] w fun e W' => ∃ v, e = .returned v ∧ Strs W' w.heap.size v xs ∧ Below w.heap.size w W' := by
  obtain ⟨i0, hi, hz0, hz1, hz2⟩ := info_parts infoS
  refine callsIn_of_wp_marks Try.func28 rfl trivial ?_ rfl
  simp only [Try.ntmps28, List.size_toArray, List.length_cons, List.length_nil, Nat.reduceAdd, Nat.reduceSub, Array.replicate_succ, Array.replicate_zero, List.push_toArray, List.append_toArray, List.nil_append, List.cons_append]
  gi_wp2
  have bO := Boxed.new w 24 (.slice none 0 0)
  have hB0 : Below w.heap.size w (w.alloc (.cells #[.slice none 0 0] 24)) := (Below.refl _ w).alloc (Nat.le_refl _) _
  refine wpIn_rangeFunc_ownB rfl (by decide) (gf := g) (lb := #[.pointer (some ⟨Bn, 0, none⟩)]) rfl trivial eg
    (hseq _ hB0) keptB_t (keptB_b (by simp)) (Below.refl _ _) (fun _ => rfl)
    (fun (pre : List (List UInt8)) W => (∃ v, Boxed W w.heap.size 24 v ∧ W.ownsRow w.heap.size 9 1 v pre.length (pre.map fun l => Value.string (strOf l))) ∧ Below w.heap.size w W ∧ w.heap.size ≤ W.heap.size)
    (holds_ownB w.heap.size w.heap.size _ w (by simp))
    ⟨⟨_, bO, World.ownsRow_nil _ _ _ _⟩, hB0, by simp⟩
    (fun x => { tmps := #[.func (.func g) #[] #[.pointer (some ⟨Bn, 0, none⟩)], undef, .slice none 0 0, .pointer (some ⟨w.heap.size, 0, none⟩), .string (strOf x), .func (.func g) #[] #[.pointer (some ⟨Bn, 0, none⟩)], .string (strOf x), undef, undef, undef, undef, undef], defers := [] }) ?assign ?body ?done
  case assign =>
    intro l x W K hK
    gi_wp2
    exact hK
  case body =>
    rintro l pre x W ⟨⟨v, hv, hrow⟩, hB, hszW⟩ hlt
    have hc := hv.cell
    gi_wp2_with (gi_at_builtin; refine wpListIn_append_own _ rfl _ _ 24 rfl w.heap.size 9 i0 (.string ⟨#[]⟩) 1 16 Try.underlying24 hi hz0 hz1 hz2 rfl (by decide) _ _ _ rfl (hrow.alloc _) ⟨W.heap.size, 0, none⟩ 1 1 [.string (strOf x)] rfl rfl (cell_one_new _ _ _) (by simp [Value.oneCell']) (by unfold maxLen; omega) (by omega) (by have := hB.size; simp; omega) ?_; intro v' w1 hown' hgrow _; obtain ⟨g', cap', rfl⟩ := ownsRow_succ hown'; obtain ⟨hv1, hv2, hr2, hk2, hb2⟩ := hv.appended (by decide) hrow hB.size (Nat.le_refl _) hown' hgrow; have hc1 := hv1.cell; have hf1 := hv1.frozen)
    refine ⟨hk2.from _, ⟨hb2, hk2.walks, ?_⟩, ⟨_, hv2, by simpa using hr2⟩, hB.trans hb2, Nat.le_trans hszW hb2.size⟩
    have hgrow2 : (W.alloc (.cells #[.string (strOf x)] 9)).grownBy w1 v.ownBlock := hgrow
    intro k cs fz hk
    have hkB : k ≠ w.heap.size := by intro e; subst e; rw [show W.heap[w.heap.size]? = _ from hv] at hk; cases hk
    have h1 : w1.heap[k]? = some (.cells cs 5 fz) := by
      refine (hgrow2.block k (by have := (Array.getElem?_eq_some_iff.1 hk).1; simp; omega) ?_).trans ((Below.heap_alloc W _ k (Array.getElem?_eq_some_iff.1 hk).1).trans hk)
      rcases hrow.2 with ⟨ev, _⟩ | ⟨g2, cap2, cur2, ev, _, hg2, _⟩
      · rw [ev]; simp [Value.ownBlock]
      · rw [ev]
        simp only [Value.ownBlock]
        intro e; cases e
        rw [hg2] at hk; cases hk
    rw [Below.heap_setCell _ _ _ _ hkB]
    exact h1
  case done =>
    rintro D ys W hD rfl ⟨⟨v, hv, hrow⟩, hB, _⟩ hK
    have hc := hv.cell
    gi_wp2
    refine ⟨by simp, .inl ⟨_, _, rfl, run_takeDeferred hK, ?_⟩⟩
    exact ⟨_, results_tmp rfl _ _ _, v, rfl, ownsRow_putObj hrow _ hK rfl, hB.trans (belowK_b (w := w) (Nat.le_refl _) W D _ _ (by simp at hD; omega) hK rfl rfl)⟩

theorem eachWord (s : ByteArray) (w : World) :
    Calls Try.prog 29 #[.string s] w fun e w' => e = .returned (.func (.func 42) #[] #[.pointer (some ⟨w.heap.size, 0, none⟩)]) ∧ w' = w.alloc (.cells #[.string s] 9) := by
  go_enter Try.func29, Try.ntmps29
  go_wp2
  go_ret
  exact ⟨rfl, rfl⟩

theorem collect_words (s : ByteArray) (hs : s.size ≤ 1048576) (w : World) (Bn : Nat) (hB : Bn < w.heap.size) (hc : w.cell? ⟨Bn, 0, none⟩ = some (.string s)) :
    Calls Try.prog 28 #[.func (.func 42) #[] #[.pointer (some ⟨Bn, 0, none⟩)]] w fun e W' => ∃ v, e = .returned v ∧ Strs W' w.heap.size v (wordsL s.data.toList) ∧ Below w.heap.size w W' :=
  callsIn_wide.1 (collectB_in 42 Bn (wordsL s.data.toList) w (by have := wGo_len s.data.toList [] false false; simp at this; unfold wordsL; omega) (enters_of Try.func42 (by kernel_rfl) rfl)
    (fun w' hb => words_stops 4 (by decide) Bn w.heap.size s hs w' hB hb.size ((hb.cell (p := ⟨Bn, 0, none⟩) hB).trans hc)))

theorem implWords (s : ByteArray) (w : World) (hs : s.size ≤ 1048576) :
    Calls Try.prog 11 #[.string s] w fun e w' => ∃ v, e = .returned v ∧ Strs w' w.heap.size v (wordsL s.data.toList) ∧ Below w.heap.size w w' := by
  go_enter Try.func11, Try.ntmps11
  go_wp2_with (first | (go_at_call 29; refine (eachWord _ _).mono ?_; rintro e w' ⟨rfl, rfl⟩) | (go_at_call 28; refine (collect_words s hs _ w.heap.size (by simp) (World.cell?_alloc_at _ _ _ _ rfl)).mono ?_; rintro e w' ⟨v, rfl, hS, hb⟩))
  go_ret
  exact ⟨v, rfl, hS.base (by simp), ((Below.refl _ w).alloc (Nat.le_refl _) _).trans (hb.mono (by simp))⟩
end Go.Proofs.Ytlkmpmlcjiiboaa
