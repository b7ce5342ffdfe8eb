/- impl.NameOk: strings.ContainsAny of four bytes of ASCII, at every text. Contracts of impl.namesFit, strings.Split at a stroke, impl.namesOf, pathOf, firstNames, DepthOf, PathOk. -/
import Derived.Test.YtipedabppgbfcaaGreatDoorShelf
import Derived.Test.YtipedabppgbfcaaGreatDoorK10
import Derived.Test.YtipedabppgbfcaaGreatDoorK12
import Derived.Laws.Runes
import Derived.Deep.RegionWith
import Derived.ScopeJumps
import Derived.Lib.IndexAny
import Derived.Test.YtipedabppgbfcaaGreatDoorK11
import Derived.Lib.SplitLaws
import Derived.Lib.Join
set_option linter.all false
namespace Go.Proofs.YtipedabppgbfcaaGreatDoor
open Go.RowKit

theorem any_iff (ch : List UInt8) : ∀ l : List UInt8, decide (0 ≤ Lib.indexAny l ch) = l.any fun b => ch.contains b
  | [] => by simp [Lib.indexAny]
  | b :: l => by
    have ih := any_iff ch l
    have hg := Lib.indexAny_ge ch l
    unfold Lib.indexAny
    rw [List.any_cons, ← ih]
    cases hb : ch.contains b with
    | true => simp
    | false =>
      simp only [Bool.false_or]
      by_cases h : Lib.indexAny l ch = -1
      · simp [h]
      · simp only [beq_iff_eq, h, if_false]
        simp
        omega
theorem any_ok (l : List UInt8) : decide (0 ≤ Lib.indexAny l [47, 10, 0, 34]) = !(l.all okB) := by
  rw [any_iff]
  induction l with
  | nil => rfl
  | cons b l ih =>
    rw [List.any_cons, List.all_cons, ih]
    have : (([47, 10, 0, 34] : List UInt8).contains b) = !(okB b) := by
      unfold okB
      simp only [List.contains_cons, List.contains_nil, Bool.or_false, Bool.not_not, Bool.or_assoc]
    rw [this, Bool.not_and]
theorem indexByte_high (c : UInt8) (hc : 128 ≤ c.toNat) : ∀ l : List UInt8, (∀ b ∈ l, b.toNat < 128) → Lib.indexByte l c = -1
  | [], _ => rfl
  | b :: l, h => by
    unfold Lib.indexByte
    have h1 := h b (by simp)
    rw [indexByte_high c hc l fun b hb => h b (by simp [hb])]
    have : (b == c) = false := by simp; intro e; subst e; omega
    simp [this]
theorem below_iterAt {W w : World} {k : Nat} {s : ByteArray} {pos : Nat} (hb : Below k w W) (hk : k ≤ W.heap.size) : Below k w (W.iterAt k s pos) :=
  hb.grown ⟨rfl, rfl, rfl, by rw [Lib.iterAt_size]; exact Nat.le_refl _, fun i _ hi => Lib.iterAt_other W k i s pos (fun e => hi (by rw [e]))⟩ hk (fun j e => by cases e; exact Nat.le_refl _)

set_option maxRecDepth 100000 in
set_option maxHeartbeats 4000000 in
/-- A sign that is no byte of ASCII isn't among the four. -/
theorem indexRune_high (r : Int) (h : 128 ≤ r) (w : World) :
    Calls Tryz.prog 229 #[.string ⟨#[47, 10, 0, 34]⟩, .int .i32 r] w fun e w' => e = .returned (.int .i64 (-1)) ∧ Below w.heap.size w w' := by
  have r0 : 0 ≤ r := by omega
  have r1 : ¬ r < 128 := by omega
  by_cases he : r = 65533
  · subst he
    go_enter Tryz.func229, Tryz.ntmps229
    go_wp2
    go_loopw [5, 6] (fun _ _ W => ∃ k : Nat, k ≤ 4 ∧ W = w.iter ⟨#[47, 10, 0, 34]⟩ k) (fun _ _ W => 4 - W.iterPos w.heap.size)
    case atStart => exact ⟨0, by omega, rfl⟩
    case round =>
      obtain ⟨k, hk, rfl⟩ := hrel
      have hp : ∀ j, (w.iter ⟨#[47, 10, 0, 34]⟩ j).iterPos w.heap.size = j := fun j => by simp [World.iterPos, World.iter_heap]
      match k, hk with
      | 0, _ =>
        have hnx := fun ty => run_next_ascii (P := Tryz.prog) w ⟨#[47, 10, 0, 34]⟩ 0 ty (by decide) (by decide)
        go_wp2
        go_roundw
        case rel => exact ⟨1, by omega, rfl⟩
        case measure => rw [hp, hp]; omega
      | 1, _ =>
        have hnx := fun ty => run_next_ascii (P := Tryz.prog) w ⟨#[47, 10, 0, 34]⟩ 1 ty (by decide) (by decide)
        go_wp2
        go_roundw
        case rel => exact ⟨2, by omega, rfl⟩
        case measure => rw [hp, hp]; omega
      | 2, _ =>
        have hnx := fun ty => run_next_ascii (P := Tryz.prog) w ⟨#[47, 10, 0, 34]⟩ 2 ty (by decide) (by decide)
        go_wp2
        go_roundw
        case rel => exact ⟨3, by omega, rfl⟩
        case measure => rw [hp, hp]; omega
      | 3, _ =>
        have hnx := fun ty => run_next_ascii (P := Tryz.prog) w ⟨#[47, 10, 0, 34]⟩ 3 ty (by decide) (by decide)
        go_wp2
        go_roundw
        case rel => exact ⟨4, by omega, rfl⟩
        case measure => rw [hp, hp]; omega
      | 4, _ =>
        have hnx := fun ty => run_next_end (P := Tryz.prog) w ⟨#[47, 10, 0, 34]⟩ 4 ty (by decide)
        go_wp2
        go_ret
        exact ⟨rfl, (Below.refl _ _).alloc (Nat.le_refl _) _⟩
  have he' : (r == 65533) = false := by simpa using he
  cases hv : Lib.validRune r with
  | false =>
    go_enter Tryz.func229, Tryz.ntmps229
    go_wp2_with (go_at_call 238; refine (Tryz.utf8_ValidRune _ _).mono ?_; rintro e w' ⟨rfl, hw⟩; rw [hw, hv])
    go_ret
    exact ⟨rfl, Below.refl _ _⟩
  | true =>
    obtain ⟨f1, f2, f3⟩ := encode_facts r (by rw [validRune_eq]; exact hv) h
    obtain ⟨rs, hrs⟩ : ∃ rs, Utf8.encode r = rs := ⟨_, rfl⟩
    rw [hrs] at f1 f2 f3
    have hcv : ∀ W, (convert 21 9 (.int .i32 r)).run Tryz.prog W = .ok (.string rs) W := fun W => by
      rw [run_convert_int_string W _ _ _ _ (by rw [Tryz.underlying21]; rfl) Tryz.underlying9, hrs]
    obtain ⟨c, hc⟩ : ∃ c, rs[rs.size - 1]'(by omega) = c := ⟨_, rfl⟩
    have hc8 : 128 ≤ c.toNat := by rw [← hc]; exact f3 (by omega)
    have HI := Lib.hid (fun l hl => indexByte_high c hc8 l hl)
    have hc9 : 128 ≤ (c.toNat : Int) := by omega
    have hub := u8_back c
    clear hrs f3
    rcases (by omega : rs.size = 2 ∨ rs.size = 3 ∨ rs.size = 4) with hm | hm | hm
    · have hix : ∃ h : 1 < rs.size, rs[1]'h = c := ⟨by omega, by rw [← hc]; congr 1; omega⟩
      obtain ⟨hx1, hx2⟩ := hix
      have hmi : (rs.size : Int) = 2 := by omega
      have CI := Lib.hid (show ∀ W : World, Calls Tryz.prog 237 #[.string ((⟨#[47, 10, 0, 34]⟩ : ByteArray).extract 2 4), .int .u8 (c.toNat : Int)] W fun e w' => e = .returned (.int .i64 (-1)) ∧ w' = W from fun W => by
        refine (Tryz.strings_IndexByte _ _ _).mono fun e w' he => ?_
        rw [hub, HI.out _ (by decide)] at he
        exact he)
      have hsl : ∀ W, (Instr.slice 9 (.string ⟨#[47, 10, 0, 34]⟩) (some (.int .i64 2)) none none).run Tryz.prog W = .ok (.string ((⟨#[47, 10, 0, 34]⟩ : ByteArray).extract 2 4)) W := fun W => by
        rw [run_slice_string_l (w := W) (t := 9) (s := ⟨#[47, 10, 0, 34]⟩) (kl := .i64) (l := 2) (ht := Tryz.underlying9) (h0 := by omega) (h1 := by decide)]
        rfl
      have hwr : IntKind.i64.wrap 2 = 2 := by decide
      have hsl2 : ∀ W, (Instr.slice 9 (.string ⟨#[47, 10, 0, 34]⟩) (some (.int .i64 (IntKind.i64.wrap 2))) none none).run Tryz.prog W = .ok (.string ((⟨#[47, 10, 0, 34]⟩ : ByteArray).extract 2 4)) W := fun W => by rw [hwr]; exact hsl W
      have hnq : (((((⟨#[47, 10, 0, 34]⟩ : ByteArray)[1]'(by decide)).toNat : Nat) : Int) != (c.toNat : Int)) = true := by
        rw [bne_iff_ne]
        show ((10 : Nat) : Int) ≠ _
        omega
      clear hc hm f1 f2 hub HI
      go_enter Tryz.func229, Tryz.ntmps229
      go_wp2_with (go_at_call 238; refine (Tryz.utf8_ValidRune _ _).mono ?_; rintro e w' ⟨rfl, hw⟩; rw [hw, hv])
      refine wp_scope_jumps 1 (fun _ _ => False) (fun _ _ => 0) rfl ?_ (fun _ _ hF => hF.elim)
      go_wp2
      go_loop [9] (fun i => i = .int .i64 1) (fun _ => 0)
      case atStart => rfl
      case round =>
        subst hrel
        go_wp2
        refine wp_scope_jumps 0 (fun _ _ => False) (fun _ _ => 0) rfl ?_ (fun _ _ hF => hF.elim)
        go_wp2
        go_quiet (fail)
        obtain ⟨W1, hW1⟩ : ∃ W1, w.drewN nq = W1 := ⟨_, rfl⟩
        have HB := Lib.hid (show Below w.heap.size w W1 by rw [← hW1]; exact ⟨rfl, rfl, rfl, Nat.le_refl _, fun _ _ => rfl⟩)
        rw [hW1]
        clear hW1
        go_wp2
        go_quiet (exact Calls.quiet_of_same (CI.out _))
        go_wp2
        show bodyPost Tryz.prog Tryz.f229 (fun e w' => e = .returned (.int .i64 (-1)) ∧ Below w.heap.size w w') .ret _ _
        go_ret
        exact ⟨rfl, HB.out.trans ⟨rfl, rfl, rfl, Nat.le_refl _, fun _ _ => rfl⟩⟩
    · have hix : ∃ h : 2 < rs.size, rs[2]'h = c := ⟨by omega, by rw [← hc]; congr 1; omega⟩
      obtain ⟨hx1, hx2⟩ := hix
      have hmi : (rs.size : Int) = 3 := by omega
      have CI := Lib.hid (show ∀ W : World, Calls Tryz.prog 237 #[.string ((⟨#[47, 10, 0, 34]⟩ : ByteArray).extract 3 4), .int .u8 (c.toNat : Int)] W fun e w' => e = .returned (.int .i64 (-1)) ∧ w' = W from fun W => by
        refine (Tryz.strings_IndexByte _ _ _).mono fun e w' he => ?_
        rw [hub, HI.out _ (by decide)] at he
        exact he)
      have hsl : ∀ W, (Instr.slice 9 (.string ⟨#[47, 10, 0, 34]⟩) (some (.int .i64 3)) none none).run Tryz.prog W = .ok (.string ((⟨#[47, 10, 0, 34]⟩ : ByteArray).extract 3 4)) W := fun W => by
        rw [run_slice_string_l (w := W) (t := 9) (s := ⟨#[47, 10, 0, 34]⟩) (kl := .i64) (l := 3) (ht := Tryz.underlying9) (h0 := by omega) (h1 := by decide)]
        rfl
      have hwr : IntKind.i64.wrap 3 = 3 := by decide
      have hsl2 : ∀ W, (Instr.slice 9 (.string ⟨#[47, 10, 0, 34]⟩) (some (.int .i64 (IntKind.i64.wrap 3))) none none).run Tryz.prog W = .ok (.string ((⟨#[47, 10, 0, 34]⟩ : ByteArray).extract 3 4)) W := fun W => by rw [hwr]; exact hsl W
      have hnq : (((((⟨#[47, 10, 0, 34]⟩ : ByteArray)[2]'(by decide)).toNat : Nat) : Int) != (c.toNat : Int)) = true := by
        rw [bne_iff_ne]
        show ((0 : Nat) : Int) ≠ _
        omega
      clear hc hm f1 f2 hub HI
      go_enter Tryz.func229, Tryz.ntmps229
      go_wp2_with (go_at_call 238; refine (Tryz.utf8_ValidRune _ _).mono ?_; rintro e w' ⟨rfl, hw⟩; rw [hw, hv])
      refine wp_scope_jumps 1 (fun _ _ => False) (fun _ _ => 0) rfl ?_ (fun _ _ hF => hF.elim)
      go_wp2
      go_loop [9] (fun i => i = .int .i64 2) (fun _ => 0)
      case atStart => rfl
      case round =>
        subst hrel
        go_wp2
        refine wp_scope_jumps 0 (fun _ _ => False) (fun _ _ => 0) rfl ?_ (fun _ _ hF => hF.elim)
        go_wp2
        go_quiet (fail)
        obtain ⟨W1, hW1⟩ : ∃ W1, w.drewN nq = W1 := ⟨_, rfl⟩
        have HB := Lib.hid (show Below w.heap.size w W1 by rw [← hW1]; exact ⟨rfl, rfl, rfl, Nat.le_refl _, fun _ _ => rfl⟩)
        rw [hW1]
        clear hW1
        go_wp2
        go_quiet (exact Calls.quiet_of_same (CI.out _))
        go_wp2
        show bodyPost Tryz.prog Tryz.f229 (fun e w' => e = .returned (.int .i64 (-1)) ∧ Below w.heap.size w w') .ret _ _
        go_ret
        exact ⟨rfl, HB.out.trans ⟨rfl, rfl, rfl, Nat.le_refl _, fun _ _ => rfl⟩⟩
    · have hix : ∃ h : 3 < rs.size, rs[3]'h = c := ⟨by omega, by rw [← hc]; congr 1; omega⟩
      obtain ⟨hx1, hx2⟩ := hix
      have hmi : (rs.size : Int) = 4 := by omega
      have CI := Lib.hid (show ∀ W : World, Calls Tryz.prog 237 #[.string ((⟨#[47, 10, 0, 34]⟩ : ByteArray).extract 4 4), .int .u8 (c.toNat : Int)] W fun e w' => e = .returned (.int .i64 (-1)) ∧ w' = W from fun W => by
        refine (Tryz.strings_IndexByte _ _ _).mono fun e w' he => ?_
        rw [hub, HI.out _ (by decide)] at he
        exact he)
      have hsl : ∀ W, (Instr.slice 9 (.string ⟨#[47, 10, 0, 34]⟩) (some (.int .i64 4)) none none).run Tryz.prog W = .ok (.string ((⟨#[47, 10, 0, 34]⟩ : ByteArray).extract 4 4)) W := fun W => by
        rw [run_slice_string_l (w := W) (t := 9) (s := ⟨#[47, 10, 0, 34]⟩) (kl := .i64) (l := 4) (ht := Tryz.underlying9) (h0 := by omega) (h1 := by decide)]
        rfl
      have hwr : IntKind.i64.wrap 4 = 4 := by decide
      have hsl2 : ∀ W, (Instr.slice 9 (.string ⟨#[47, 10, 0, 34]⟩) (some (.int .i64 (IntKind.i64.wrap 4))) none none).run Tryz.prog W = .ok (.string ((⟨#[47, 10, 0, 34]⟩ : ByteArray).extract 4 4)) W := fun W => by rw [hwr]; exact hsl W
      have hnq : (((((⟨#[47, 10, 0, 34]⟩ : ByteArray)[3]'(by decide)).toNat : Nat) : Int) != (c.toNat : Int)) = true := by
        rw [bne_iff_ne]
        show ((34 : Nat) : Int) ≠ _
        omega
      clear hc hm f1 f2 hub HI
      go_enter Tryz.func229, Tryz.ntmps229
      go_wp2_with (go_at_call 238; refine (Tryz.utf8_ValidRune _ _).mono ?_; rintro e w' ⟨rfl, hw⟩; rw [hw, hv])
      refine wp_scope_jumps 1 (fun _ _ => False) (fun _ _ => 0) rfl ?_ (fun _ _ hF => hF.elim)
      go_wp2
      go_loop [9] (fun i => i = .int .i64 3) (fun _ => 0)
      case atStart => rfl
      case round =>
        subst hrel
        go_wp2
        refine wp_scope_jumps 0 (fun _ _ => False) (fun _ _ => 0) rfl ?_ (fun _ _ hF => hF.elim)
        go_wp2
        go_quiet (fail)
        obtain ⟨W1, hW1⟩ : ∃ W1, w.drewN nq = W1 := ⟨_, rfl⟩
        have HB := Lib.hid (show Below w.heap.size w W1 by rw [← hW1]; exact ⟨rfl, rfl, rfl, Nat.le_refl _, fun _ _ => rfl⟩)
        rw [hW1]
        clear hW1
        go_wp2
        go_quiet (exact Calls.quiet_of_same (CI.out _))
        go_wp2
        show bodyPost Tryz.prog Tryz.f229 (fun e w' => e = .returned (.int .i64 (-1)) ∧ Below w.heap.size w w') .ret _ _
        go_ret
        exact ⟨rfl, HB.out.trans ⟨rfl, rfl, rfl, Nat.le_refl _, fun _ _ => rfl⟩⟩

theorem no_more {l ch : List UInt8} {i n : Nat} (h : Lib.NoAny l ch i) (h2 : ∀ j b, i ≤ j → j < n → l[j]? = some b → ch.contains b = false) : Lib.NoAny l ch n := fun j b hj hb => by
  by_cases hji : j < i
  · exact h j b hji hb
  · exact h2 j b (by omega) hj hb
theorem high_not {b : UInt8} (h : 128 ≤ b.toNat) : (([47, 10, 0, 34] : List UInt8).contains b) = false := by
  rw [Bool.eq_false_iff]; intro e
  simp at e
  rcases e with e | e | e | e <;> (subst e; simp at h)

set_option maxRecDepth 100000 in
set_option maxHeartbeats 4000000 in
theorem indexAny4_short (s : ByteArray) (w : World) (h8 : s.size ≤ 8) :
    Calls Tryz.prog 214 #[.string s, .string ⟨#[47, 10, 0, 34]⟩] w fun e w' => e = .returned (.int .i64 (Lib.indexAny s.data.toList [47, 10, 0, 34])) ∧ Below w.heap.size w w' := by
  have h8z : decide ((8 : Int) < (s.size : Int)) = false := decide_eq_false (by omega)
  have hsz : s.data.toList.length = s.size := by simp
  go_enter Tryz.func214, Tryz.ntmps214
  go_wp2_with (go_at_call 230; refine (Tryz.strings_shouldUseASCIISet _ _).mono ?_; rintro e w' ⟨rfl, hw⟩; rw [hw, h8z])
  go_loopw [9, 10] (fun _ _ W => ∃ k : Nat, k ≤ s.size ∧ W.heap[w.heap.size]? = some (.stringIter s k) ∧ Below w.heap.size w W ∧ Lib.NoAny s.data.toList [47, 10, 0, 34] k) (fun _ _ W => s.size - W.iterPos w.heap.size)
  case atStart => exact ⟨0, Nat.zero_le _, World.iter_heap w s 0, (Below.refl _ _).alloc (Nat.le_refl _) _, Lib.NoAny.zero _ _⟩
  case round =>
    obtain ⟨k, hk, hit, hb, hno⟩ := hrel
    have HI := Lib.hid hit
    have HB := Lib.hid hb
    have HN := Lib.hid hno
    have hlt : w.heap.size < wr.heap.size := (Array.getElem?_eq_some_iff.1 hit).1
    clear hit hb hno
    have e1 := Lib.hid (show wr.iterPos w.heap.size = k by simp [World.iterPos, HI.out])
    by_cases h1 : k < s.size
    · by_cases h2 : 128 ≤ s[k].toNat
      · obtain ⟨W1, hW1⟩ : ∃ W1, wr.iterAt w.heap.size s (k + (Utf8.decode s k).2) = W1 := ⟨_, rfl⟩
        have hnx : ∀ ty, (Instr.next (.pointer (some ⟨w.heap.size, 0, none⟩)) true ty).run Tryz.prog wr = .ok (.tuple #[.bool true, .int .i64 k, .int .i32 (Utf8.decode s k).1]) W1 := fun ty => by rw [← hW1]; exact Lib.run_next_any_at wr w.heap.size s k ty HI.out h1
        obtain ⟨hhi, hpos⟩ := decode_high s k h1 h2
        have hend := decode_end s k h1 h2
        have HB1 := Lib.hid (show Below w.heap.size w W1 by rw [← hW1]; exact below_iterAt HB.out (by omega))
        have HI1 := Lib.hid (show W1.heap[w.heap.size]? = some (.stringIter s (k + (Utf8.decode s k).2)) by rw [← hW1]; exact Lib.iterAt_heap wr _ s k _ HI.out)
        have hl1 : w.heap.size < W1.heap.size := (Array.getElem?_eq_some_iff.1 HI1.out).1
        have HS := Lib.hid (no_more HN.out (n := k + (Utf8.decode s k).2) (fun j b hj1 hj2 hjb => by
          obtain ⟨g1, g2⟩ := decode_at_bytes s k h1 h2 (j - k) (by omega)
          have : s.data.toList[j]? = some (s[k + (j - k)]'g1) := by
            rw [List.getElem?_eq_getElem (by rw [hsz]; omega)]
            congr 1
            show s[j]'(by omega) = _
            congr 1; omega
          rw [this] at hjb
          cases hjb
          exact high_not g2))
        clear hW1
        have hh : 128 ≤ ((Utf8.decode s k).1 : Int) := by omega
        go_wp2_with (go_at_call 229; refine (indexRune_high _ hh _).mono ?_; rintro e W2 ⟨rfl, hb2⟩)
        go_roundw
        case rel => exact ⟨k + (Utf8.decode s k).2, hend, (hb2.block _ hl1).trans HI1.out, HB1.out.trans (hb2.mono (by omega)), HS.out⟩
        case measure =>
          have e2 : W2.iterPos w.heap.size = k + (Utf8.decode s k).2 := by simp [World.iterPos, (hb2.block _ hl1).trans HI1.out]
          rw [e1.out, e2]; omega
      · obtain ⟨W1, hW1⟩ : ∃ W1, wr.iterAt w.heap.size s (k + 1) = W1 := ⟨_, rfl⟩
        have hnx : ∀ ty, (Instr.next (.pointer (some ⟨w.heap.size, 0, none⟩)) true ty).run Tryz.prog wr = .ok (.tuple #[.bool true, .int .i64 k, .int .i32 s[k].toNat]) W1 := fun ty => by rw [← hW1]; exact Lib.run_next_ascii_at wr w.heap.size s k ty HI.out h1 (by omega)
        have HB1 := Lib.hid (show Below w.heap.size w W1 by rw [← hW1]; exact below_iterAt HB.out (by omega))
        have HI1 := Lib.hid (show W1.heap[w.heap.size]? = some (.stringIter s (k + 1)) by rw [← hW1]; exact Lib.iterAt_heap wr _ s k _ HI.out)
        have hl1 : w.heap.size < W1.heap.size := (Array.getElem?_eq_some_iff.1 HI1.out).1
        clear hW1
        obtain ⟨x, hx⟩ : ∃ x : UInt8, s[k] = x := ⟨_, rfl⟩
        rw [hx] at hnx h2
        have HX := Lib.hid (show s.data.toList[k]? = some x by rw [← hx]; exact Lib.data_getElem? s k h1)
        have hcon := Lib.contains_iff_indexByte [47, 10, 0, 34] x
        have hback : ((x.toNat : Int)).toNat.toUInt8 = x := by simp
        clear hx
        cases hin : (([47, 10, 0, 34] : List UInt8).contains x) with
        | false =>
          rw [hin] at hcon
          have hlt2 : ¬ ((0 : Int) ≤ Lib.indexByte [47, 10, 0, 34] x) := of_decide_eq_false hcon.symm
          have HIN := Lib.hid hin
          clear hcon hin
          generalize hq : Lib.indexByte [47, 10, 0, 34] x = q at hlt2
          have hq2 : Lib.indexByte (⟨#[47, 10, 0, 34]⟩ : ByteArray).data.toList x = q := hq
          clear hq
          go_wp2_with (go_at_call 229; refine (Tryz.strings_IndexRune_ascii _ _ _ (by omega) (by omega)).mono ?_; rintro e w' ⟨rfl, hw⟩; rw [hw, hback, hq2])
          go_roundw
          case rel => exact ⟨k + 1, by omega, HI1.out, HB1.out, HN.out.succ HX.out HIN.out⟩
          case measure =>
            have e2 : W1.iterPos w.heap.size = k + 1 := by simp [World.iterPos, HI1.out]
            rw [e1.out, e2]; omega
        | true =>
          rw [hin] at hcon
          have hlt2 : (0 : Int) ≤ Lib.indexByte [47, 10, 0, 34] x := of_decide_eq_true hcon.symm
          have HIN := Lib.hid hin
          clear hcon hin
          generalize hq : Lib.indexByte [47, 10, 0, 34] x = q at hlt2
          have hq2 : Lib.indexByte (⟨#[47, 10, 0, 34]⟩ : ByteArray).data.toList x = q := hq
          clear hq
          go_wp2_with (go_at_call 229; refine (Tryz.strings_IndexRune_ascii _ _ _ (by omega) (by omega)).mono ?_; rintro e w' ⟨rfl, hw⟩; rw [hw, hback, hq2])
          go_ret
          exact ⟨ret_int (by rw [Lib.indexAny_hit HN.out HX.out HIN.out]), HB1.out⟩
    · have hnx : ∀ ty, (Instr.next (.pointer (some ⟨w.heap.size, 0, none⟩)) true ty).run Tryz.prog wr = .ok (.tuple #[.bool false]) wr := fun ty => Lib.run_next_end_at wr w.heap.size s k ty HI.out h1
      go_wp2
      go_ret
      obtain rfl : k = s.size := by omega
      exact ⟨ret_int (by rw [Lib.indexAny_none (by rw [hsz]; exact HN.out)]), HB.out⟩

theorem zero256 : (Tryz.prog.info? 242).map (fun i => (i.zero, i.size)) = some (some (.agg (Array.replicate 256 (.bool false))), 256) := by kernel_rfl

theorem indexAny4 (s : ByteArray) (w : World) (hs : s.size ≤ 40) :
    Calls Tryz.prog 214 #[.string s, .string ⟨#[47, 10, 0, 34]⟩] w fun e w' => e = .returned (.int .i64 (Lib.indexAny s.data.toList [47, 10, 0, 34])) ∧ Below w.heap.size w w' := by
  by_cases h8 : s.size ≤ 8
  · exact indexAny4_short s w h8
  · refine (Tryz.strings_IndexAny_long (Go.zero_of_info zero256).1 s ⟨#[47, 10, 0, 34]⟩ w (by decide) (by omega) (by omega) (by decide) (fun j b hb => ?_)).mono fun e w' h => ⟨h.1, ?_⟩
    · have hm := List.mem_of_getElem? hb
      have : ∀ b ∈ (⟨#[47, 10, 0, 34]⟩ : ByteArray).data.toList, b.toNat < 128 := by decide
      exact this b hm
    · rw [h.2]
      exact ((Below.refl _ _).alloc (Nat.le_refl _) _).alloc (by simp) _

theorem containsAny4 (s : ByteArray) (w : World) (hs : s.size ≤ 40) :
    Calls Tryz.prog 192 #[.string s, .string ⟨#[47, 10, 0, 34]⟩] w fun e w' => e = .returned (.bool (!(s.data.toList.all okB))) ∧ Below w.heap.size w w' := by
  have CI := indexAny4 s w hs
  have HA := Lib.hid (any_ok s.data.toList)
  generalize Lib.indexAny s.data.toList [47, 10, 0, 34] = q at CI HA
  generalize (!(s.data.toList.all okB)) = b at HA
  go_enter Tryz.func192, Tryz.ntmps192
  go_wp2_with (go_at_call 214; refine CI.mono ?_; rintro e w' ⟨rfl, hb⟩)
  go_ret
  exact ⟨ret_bool HA.out, hb⟩

set_option maxHeartbeats 1000000 in
theorem implNameOk (s : ByteArray) (w : World) :
    Calls Tryz.prog 173 #[.string s] w fun e w' => e = .returned (.bool (nameB s.data.toList)) ∧ Below w.heap.size w w' := by
  have HE := Lib.hid (nameB_eq s)
  by_cases h0 : s.size = 0
  · have he : s.toList.isEmpty = true := by
      rw [Lib.toList_data, List.isEmpty_iff]
      exact List.eq_nil_of_length_eq_zero (by simpa using h0)
    have hf : inB s.size 1 40 = false := inB_f (by omega)
    clear h0
    go_enter Tryz.func173, Tryz.ntmps173
    go_wp2
    go_ret
    exact ⟨ret_bool (by rw [HE.out, hf]; rfl), Below.refl _ _⟩
  have he : s.toList.isEmpty = false := by
    rw [Lib.toList_data]
    cases h : s.data.toList with
    | nil => exfalso; apply h0; have := congrArg List.length h; simpa using this
    | cons => rfl
  by_cases h4 : s.size ≤ 40
  rotate_left
  · have hf : inB s.size 1 40 = false := inB_f (by omega)
    have h4i : ¬ (s.size : Int) ≤ 40 := by omega
    go_enter Tryz.func173, Tryz.ntmps173
    go_wp2
    go_ret
    exact ⟨ret_bool (by rw [HE.out, hf]; rfl), Below.refl _ _⟩
  have ht : inB s.size 1 40 = true := inB_t (by omega) (by omega)
  have h4i : (s.size : Int) ≤ 40 := by omega
  cases h1 : (s.data.toList == [46]) with
  | true =>
    have h1' : (s.toList == [46]) = true := by rw [lit_eq]; exact h1
    have H1 := Lib.hid h1
    clear h1
    go_enter Tryz.func173, Tryz.ntmps173
    go_wp2
    go_ret
    exact ⟨ret_bool (by rw [HE.out, H1.out]; simp), Below.refl _ _⟩
  | false =>
    have h1' : (s.toList == [46]) = false := by rw [lit_eq]; exact h1
    have H1 := Lib.hid h1
    clear h1
    cases h2 : (s.data.toList == [46, 46]) with
    | true =>
      have h2' : (s.toList == [46, 46]) = true := by rw [lit_eq]; exact h2
      have H2 := Lib.hid h2
      clear h2
      go_enter Tryz.func173, Tryz.ntmps173
      go_wp2
      go_ret
      exact ⟨ret_bool (by rw [HE.out, H2.out]; simp), Below.refl _ _⟩
    | false =>
      have h2' : (s.toList == [46, 46]) = false := by rw [lit_eq]; exact h2
      have H2 := Lib.hid h2
      clear h2
      have CA := containsAny4 s w h4
      have HR := Lib.hid (show nameB s.data.toList = s.data.toList.all okB by rw [HE.out, ht, H1.out, H2.out]; simp)
      generalize s.data.toList.all okB = b at CA HR
      go_enter Tryz.func173, Tryz.ntmps173
      go_wp2_with (go_at_call 192; refine CA.mono ?_; rintro e w' ⟨rfl, hb⟩)
      go_ret
      exact ⟨ret_bool (by rw [HR.out]), hb⟩
end Go.Proofs.YtipedabppgbfcaaGreatDoor
namespace Go.Proofs.YtipedabppgbfcaaGreatDoor
open Go.RowKit

set_option maxHeartbeats 1000000 in
theorem implFit (w : World) (v : Value) (ls : List (List UInt8)) (h : Rd w v ls) :
    Calls Tryz.prog 147 #[v] w fun e w' => e = .returned (.bool (fit ls)) ∧ Below w.heap.size w w' := by
  have HFIT := Lib.hid (show fit ls = (decide (ls.length ≤ 6) && ls.all nameB) from rfl)
  by_cases hn : ls = []
  · subst hn
    obtain ⟨a, cap, rfl, _⟩ := h
    go_enter Tryz.func147, Tryz.ntmps147
    go_wp2
    go_loop [10] (fun i => i = .int .i64 0) (fun _ => 0)
    case atStart => rfl
    case round =>
      subst hrel
      go_wp2
      go_ret
      exact ⟨rfl, Below.refl _ _⟩
  obtain ⟨g, cap, rfl, hg, hcap, hm, hcell⟩ := h.at hn
  unfold maxLen at hm
  have HC := Lib.hid hcell
  clear hcell h hn
  by_cases h6 : 6 < ls.length
  · have h6i : 6 < (ls.length : Int) := by omega
    go_enter Tryz.func147, Tryz.ntmps147
    go_wp2
    go_ret
    exact ⟨ret_bool (by rw [HFIT.out, decide_eq_false (by omega)]; rfl), Below.refl _ _⟩
  have h6i : ¬ 6 < (ls.length : Int) := by omega
  go_enter Tryz.func147, Tryz.ntmps147
  go_wp2
  go_loopw [10] (fun i W => ∃ k : Nat, k ≤ ls.length ∧ i = .int .i64 k ∧ (ls.take k).all nameB = true ∧ Below w.heap.size w W) (fun i _ => ls.length - (intOf i).toNat)
  case atStart => exact ⟨0, Nat.zero_le _, rfl, rfl, Below.refl _ _⟩
  case round =>
    obtain ⟨k, hk, rfl, hd, hb⟩ := hrel
    have HA := Lib.hid hd
    have HB := Lib.hid hb
    clear hd
    by_cases h1 : k < ls.length
    · have hck := (hb.cell (p := ⟨g, k, none⟩) hg).trans (HC.out k h1)
      have hki : (k : Int) < (ls.length : Int) := by omega
      have HT := Lib.hid (show (ls.take (k + 1)).all nameB = ((ls.take k).all nameB && nameB ls[k]) by rw [List.take_succ_eq_append_getElem h1, List.all_append]; simp)
      have CN := implNameOk (strOf ls[k]) wr
      rw [strOf_data] at CN
      generalize strOf ls[k] = pk at CN hck
      clear hb
      cases hn : nameB ls[k] with
      | true =>
        rw [hn] at CN HT
        go_wp2_with (go_at_call 173; refine CN.mono ?_; rintro e w1 ⟨rfl, hb1⟩)
        go_roundw
        case rel => exact ⟨k + 1, by omega, by go_num, by rw [HT.out, HA.out]; rfl, HB.out.trans (hb1.mono HB.out.size)⟩
        case measure => simp [intOf]; omega
      | false =>
        rw [hn] at CN HT
        go_wp2_with (go_at_call 173; refine CN.mono ?_; rintro e w1 ⟨rfl, hb1⟩)
        go_ret
        have hall : ls.all nameB = false := by rw [← List.take_append_drop (k + 1) ls, List.all_append, HT.out]; simp
        exact ⟨ret_bool (by rw [HFIT.out, hall]; simp), HB.out.trans (hb1.mono HB.out.size)⟩
    · have hke : k = ls.length := by omega
      have hki : ¬ (k : Int) < (ls.length : Int) := by omega
      have hall := HA.out
      rw [hke, List.take_length] at hall
      have HALL := Lib.hid hall
      clear hall hke hb
      go_wp2
      go_ret
      exact ⟨ret_bool (by rw [HFIT.out, decide_eq_true (by omega), HALL.out]; rfl), HB.out⟩

/-! strings.Split at a stroke -/
theorem first_stroke : ∀ (l : List UInt8), 47 ∈ l → ∃ a t, l = a ++ 47 :: t ∧ 47 ∉ a
  | [], h => by simp at h
  | c :: l, h => by
    by_cases hc : c = 47
    · subst hc; exact ⟨[], l, rfl, by simp⟩
    · obtain ⟨a, t, e, ha⟩ := first_stroke l (by
        rcases List.mem_cons.1 h with h | h
        · exact absurd h.symm hc
        · exact h)
      exact ⟨c :: a, t, by rw [e]; rfl, by simp [ha]; exact fun e => hc e.symm⟩
theorem indexByte_at : ∀ (a t : List UInt8), 47 ∉ a → Lib.indexByte (a ++ 47 :: t) 47 = a.length
  | [], t, _ => by simp [Lib.indexByte]
  | c :: a, t, h => by
    simp only [List.mem_cons, not_or] at h
    have h1 : (c == 47) = false := by simp; exact fun e => h.1 e.symm
    rw [List.cons_append, Lib.indexByte, h1, indexByte_at a t h.2]
    have : ((a.length : Int) == -1) = false := by rw [beq_eq_false_iff_ne]; omega
    simp [this]
theorem indexByte_no : ∀ (l : List UInt8), 47 ∉ l → Lib.indexByte l 47 = -1
  | [], _ => rfl
  | c :: l, h => by
    simp only [List.mem_cons, not_or] at h
    have h1 : (c == 47) = false := by simp; exact fun e => h.1 e.symm
    rw [Lib.indexByte, h1, indexByte_no l h.2]; rfl
theorem splitK_parts : ∀ (k : Nat) (l : List UInt8), l.count 47 = k → Lib.splitK [47] 0 k l = partsL l
  | 0, l, h => by
    rw [parts_one (List.count_eq_zero.1 h)]; rfl
  | k + 1, l, h => by
    obtain ⟨a, t, rfl, ha⟩ := first_stroke l (List.count_pos_iff.1 (by omega))
    have h0 : a.count 47 = 0 := List.count_eq_zero.2 ha
    have h1 : t.count 47 = k := by rw [List.count_append, h0] at h; simp at h; omega
    rw [Lib.splitK, Lib.index_one, indexByte_at a t ha, parts_cut, parts_one ha]
    have : ((a.length : Int) == -1) = false := by rw [beq_eq_false_iff_ne]; omega
    rw [this]
    have e1 : (a ++ 47 :: t).take ((a.length : Int).toNat + 0) = a := by simp
    have e2 : (a ++ 47 :: t).drop ((a.length : Int).toNat + ([47] : List UInt8).length) = t := by
      rw [show (a.length : Int).toNat + ([47] : List UInt8).length = a.length + 1 by simp, List.drop_append]; simp
    simp only [Bool.false_eq_true, if_false]
    rw [e1, e2, splitK_parts k t h1]; rfl
theorem split_parts (s : ByteArray) : Lib.splitB ⟨#[47]⟩ 0 (Lib.countB s ⟨#[47]⟩) s = (partsL s.data.toList).map strOf := by
  have h := Lib.splitB_data ⟨#[47]⟩ 0 (Lib.countB s ⟨#[47]⟩) s
  rw [show (⟨#[47]⟩ : ByteArray).data.toList = [47] from rfl, splitK_parts _ _ (Lib.count_one 47 s.data.toList).symm] at h
  rw [← h, List.map_map]
  conv => lhs; rw [← List.map_id (Lib.splitB ⟨#[47]⟩ 0 (Lib.countB s ⟨#[47]⟩) s)]
  apply List.map_congr_left
  intro x _
  show x = strOf x.data.toList
  cases x; simp [strOf]

theorem genSplit47 (s : ByteArray) (w : World) (hs : s.size < 4294967281) :
    Calls Tryz.prog 172 #[.string s, .string ⟨#[47]⟩, .int .i64 0, .int .i64 (-1)] w fun e w' =>
      e = .returned (.slice (some ⟨w.heap.size, 0, none⟩) (Lib.splitB ⟨#[47]⟩ 0 (Lib.countB s ⟨#[47]⟩ + 1 - 1) s).length (Lib.countB s ⟨#[47]⟩ + 1)) ∧ w' = w.alloc (.cells (Lib.cellsOf (Lib.splitB ⟨#[47]⟩ 0 (Lib.countB s ⟨#[47]⟩ + 1 - 1) s) (Lib.countB s ⟨#[47]⟩ + 1)) 9) := by
  have hle := Lib.countB_le ⟨#[47]⟩ (by decide) s.size s (Nat.le_refl _)
  refine Any.strings_genSplit_core Tryz.lays221 (by kernel_rfl) s ⟨#[47]⟩ 0 (-1) (Lib.countB s ⟨#[47]⟩ + 1) w hs (by decide) (Nat.zero_le _) (fun x c hx => ?_) ?_ (by decide) (by decide) (by rw [if_pos (by decide)]; omega)
  · refine (Tryz.strings_Index_one x 47 _).mono fun e w' ⟨he, hw⟩ => ⟨?_, hw⟩
    rw [he]
    show _ = Ending.returned (.int .i64 (Lib.index x.data.toList [47]))
    rw [Lib.index_one]
  · refine (Tryz.strings_Count_one s 47 _).mono fun e w' ⟨he, hw⟩ => ⟨?_, hw⟩
    rw [he]
    show _ = Ending.returned (.int .i64 ((Lib.count s.data.toList [47] : Nat) : Int))
    rw [Lib.count_one]; rfl
theorem parts_len (l : List UInt8) : (partsL l).length ≤ l.length + 1 := by
  have := len_wt (partsL l); rw [wt_parts] at this; exact this

set_option maxHeartbeats 1000000 in
theorem implSplit (s : ByteArray) (w : World) (hs : s.size ≤ 2000000) :
    Calls Tryz.prog 146 #[.string s, .string ⟨#[47]⟩] w fun e w' => ∃ v, e = .returned v ∧ Strs w' w.heap.size v (partsL s.data.toList) ∧ Below w.heap.size w w' := by
  have CG := genSplit47 s w (by omega)
  rw [Nat.add_sub_cancel, split_parts] at CG
  have hlen : ((partsL s.data.toList).map strOf).length = Lib.countB s ⟨#[47]⟩ + 1 := by
    rw [← split_parts]; exact Lib.splitB_all ⟨#[47]⟩ (by decide) 0 _ s rfl
  have e2 : Lib.cellsOf ((partsL s.data.toList).map strOf) (Lib.countB s ⟨#[47]⟩ + 1) = (((partsL s.data.toList).map strOf).map Value.string).toArray := by rw [← hlen]; exact Lib.cellsOf_full _
  rw [e2, ← hlen] at CG
  have hpl := parts_len s.data.toList
  have hsz : s.data.toList.length = s.size := by simp
  rw [hsz] at hpl
  have HS := Lib.hid (show Strs (w.alloc (.cells (((partsL s.data.toList).map strOf).map Value.string).toArray 9)) w.heap.size (.slice (some ⟨w.heap.size, 0, none⟩) (partsL s.data.toList).length (partsL s.data.toList).length) (partsL s.data.toList) by
    have h := World.ownsRow_lit (base := w.heap.size) (e := 9) (size := 1) w (((partsL s.data.toList).map strOf).map Value.string).toArray (partsL s.data.toList).length (Nat.le_refl _) (by unfold maxLen; omega) (by simp)
    have e3 : (((partsL s.data.toList).map strOf).map Value.string).toArray.toList = (partsL s.data.toList).map fun l => Value.string (strOf l) := by simp
    rw [e3] at h
    exact h)
  rw [List.length_map] at CG
  generalize partsL s.data.toList = ps at CG HS
  clear hlen e2 hpl
  generalize ((ps.map strOf).map Value.string).toArray = arr at CG HS
  go_enter Tryz.func146, Tryz.ntmps146
  go_wp2_with (go_at_call 172; refine CG.mono ?_; rintro e w' ⟨rfl, hw⟩; rw [hw])
  go_ret
  exact ⟨_, rfl, HS.out, (Below.refl _ _).alloc (Nat.le_refl _) _⟩

/-! impl.namesOf -/
theorem head_text (s : ByteArray) : Lib.hasPrefix s.data.toList [47] = decide (s.data.toList.head? = some 47) := by
  unfold Lib.hasPrefix
  cases s.data.toList with
  | nil => rfl
  | cons c r =>
    simp only [List.isPrefixOf, Bool.and_true, List.head?_cons, Option.some.injEq]
    by_cases h : c = 47
    · subst h; rfl
    · rw [decide_eq_false h, beq_eq_false_iff_ne]; exact fun e => h e.symm
theorem trim_text (s : ByteArray) (r : List UInt8) (h : s.data.toList = 47 :: r) : (⟨(Lib.trimPrefix s.data.toList [47]).toArray⟩ : ByteArray) = strOf r := by
  unfold Lib.trimPrefix
  rw [head_text, h]; simp [strOf]

set_option maxHeartbeats 1000000 in
theorem implNamesOf (s : ByteArray) (w : World) (hs : s.size ≤ 2000000) :
    Calls Tryz.prog 109 #[.string s] w fun e w' => ∃ v, e = .returned (.tuple #[v, .bool (namesO s.data.toList).isSome]) ∧ Strs w' w.heap.size v ((namesO s.data.toList).getD []) ∧ Below w.heap.size w w' := by
  have hsz : s.data.toList.length = s.size := by simp
  cases hr : (s.data.toList == [47]) with
  | true =>
    have hr' : (s.toList == [47]) = true := by rw [lit_eq]; exact hr
    rw [beq_iff_eq.1 hr, show namesO [47] = some [] from rfl]
    clear hr
    go_enter Tryz.func109, Tryz.ntmps109
    go_wp2
    go_ret2
    exact ⟨_, rfl, Strs.nil _ _, Below.refl _ _⟩
  | false =>
    have hr' : (s.toList == [47]) = false := by rw [lit_eq]; exact hr
    have CP := Tryz.strings_CutPrefix s ⟨#[47]⟩ w
    rw [show (⟨#[47]⟩ : ByteArray).data.toList = [47] from rfl, head_text] at CP
    by_cases hh : s.data.toList.head? = some 47
    rotate_left
    · rw [decide_eq_false hh] at CP
      have hnone : namesO s.data.toList = none := by
        cases hl : s.data.toList with
        | nil => rfl
        | cons c r => rw [namesO, if_neg (by intro e; subst e; rw [hl] at hh; exact hh rfl)]
      rw [hnone]
      generalize (⟨(Lib.trimPrefix s.data.toList [47]).toArray⟩ : ByteArray) = q at CP
      clear hr hh hnone
      go_enter Tryz.func109, Tryz.ntmps109
      go_wp2_with (go_at_call 145; refine CP.mono ?_; rintro e w' ⟨rfl, hw⟩; rw [hw])
      go_ret2
      exact ⟨_, rfl, Strs.nil _ _, Below.refl _ _⟩
    rw [decide_eq_true hh] at CP
    obtain ⟨r, hr2⟩ : ∃ r, s.data.toList = 47 :: r := by
      cases hl : s.data.toList with
      | nil => rw [hl] at hh; cases hh
      | cons c r => rw [hl] at hh; have e : c = 47 := by simpa using hh
                    exact ⟨r, by rw [e]⟩
    rw [trim_text s r hr2] at CP
    have hrn : r ≠ [] := by intro e; subst e; rw [hr2] at hr; simp at hr
    have hrl : r.length + 1 = s.size := by rw [← hsz, hr2]; simp
    have HN := Lib.hid (show namesO s.data.toList = if fit (partsL r) then some (partsL r) else none by rw [hr2, namesO, if_pos rfl, if_neg hrn])
    have CS := implSplit (strOf r) w (by rw [strOf_size]; omega)
    rw [strOf_data] at CS
    generalize namesO s.data.toList = no at HN
    generalize partsL r = ps at CS HN
    generalize strOf r = rs at CP CS
    clear hr hh hr2 hrn hrl
    cases hf : fit ps with
    | false =>
      obtain rfl : no = none := by rw [HN.out, hf]; rfl
      go_enter Tryz.func109, Tryz.ntmps109
      go_wp2_with (first
        | (go_at_call 145; refine CP.mono ?_; rintro e w' ⟨rfl, hw⟩; rw [hw])
        | (go_at_call 146; refine CS.mono ?_; rintro e W1 ⟨v, rfl, hS, hb1⟩; have CF := implFit _ _ _ hS.rd)
        | (go_at_call 147; refine CF.mono ?_; rintro e W2 ⟨rfl, hb2⟩; rw [hf]))
      go_ret2
      exact ⟨_, rfl, Strs.nil _ _, hb1.trans (hb2.mono hb1.size)⟩
    | true =>
      obtain rfl : no = some ps := by rw [HN.out, hf]; rfl
      go_enter Tryz.func109, Tryz.ntmps109
      go_wp2_with (first
        | (go_at_call 145; refine CP.mono ?_; rintro e w' ⟨rfl, hw⟩; rw [hw])
        | (go_at_call 146; refine CS.mono ?_; rintro e W1 ⟨v, rfl, hS, hb1⟩; have CF := implFit _ _ _ hS.rd)
        | (go_at_call 147; refine CF.mono ?_; rintro e W2 ⟨rfl, hb2⟩; rw [hf]))
      go_ret2
      exact ⟨_, rfl, hS.on hb2, hb1.trans (hb2.mono hb1.size)⟩

theorem implDepthOf (s : ByteArray) (w : World) (hs : s.size ≤ 2000000) :
    Calls Tryz.prog 144 #[.string s] w fun e w' => e = .returned (.int .i64 (depthV s.data.toList)) ∧ Below w.heap.size w w' := by
  have CN := implNamesOf s w hs
  have HD := Lib.hid (show depthV s.data.toList = match namesO s.data.toList with | none => -1 | some ns => ns.length from rfl)
  generalize namesO s.data.toList = no at CN HD
  cases no with
  | none =>
    go_enter Tryz.func144, Tryz.ntmps144
    go_wp2_with (go_at_call 109; refine CN.mono ?_; rintro e w' ⟨v, rfl, hS, hb⟩)
    go_ret
    exact ⟨ret_int HD.out.symm, hb⟩
  | some ns =>
    go_enter Tryz.func144, Tryz.ntmps144
    go_wp2_with (go_at_call 109; refine CN.mono ?_; rintro e w' ⟨v, rfl, hS, hb⟩; obtain ⟨av, cv, rfl, _⟩ := hS.rd)
    go_ret
    exact ⟨ret_int HD.out.symm, hb⟩
theorem implPathOk (s : ByteArray) (w : World) (hs : s.size ≤ 2000000) :
    Calls Tryz.prog 106 #[.string s] w fun e w' => e = .returned (.bool (decide (0 < depthV s.data.toList))) ∧ Below w.heap.size w w' := by
  have CD := implDepthOf s w hs
  generalize depthV s.data.toList = d at CD
  go_enter Tryz.func106, Tryz.ntmps106
  go_wp2_with (go_at_call 144; refine CD.mono ?_; rintro e w' ⟨rfl, hb⟩)
  go_ret
  exact ⟨rfl, hb⟩
end Go.Proofs.YtipedabppgbfcaaGreatDoor
