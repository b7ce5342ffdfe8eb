/- impl.NameOk: strings.ContainsAny of four bytes of ASCII, at every text. -/
import Derived.Test.YtipepbnmllbonaaDoorShelf
import Derived.Test.YtipepbnmllbonaaDoorSpecName
import Derived.Test.YtipepbnmllbonaaDoorRunes
import Derived.Test.YtipepbnmllbonaaDoorDropAt
import Derived.Laws.Runes
import Derived.Deep.RegionWith
import Derived.ScopeJumps
import Derived.Lib.IndexAny
namespace Go.Proofs.YtipepbnmllbonaaDoor
open Go.RowKit

theorem any_iff (ch : List UInt8) : ∀ l : List UInt8, decide (0 ≤ Lib.indexAny l ch) = l.any fun b => ch.contains b
  | [] => by simp [Lib.indexAny]
  | b :: l => by
    have ih := any_iff ch l
    have hg := Lib.indexAny_ge ch l
    unfold Lib.indexAny
    rw [List.any_cons, ← ih]
    cases hb : ch.contains b with
    | true => simp
    | false =>
      simp only [Bool.false_or]
      by_cases h : Lib.indexAny l ch = -1
      · simp [h]
      · simp only [beq_iff_eq, h, if_false]
        simp
        omega
theorem any_ok (l : List UInt8) : decide (0 ≤ Lib.indexAny l [47, 10, 0, 34]) = !(l.all okB) := by
  rw [any_iff]
  induction l with
  | nil => rfl
  | cons b l ih =>
    rw [List.any_cons, List.all_cons, ih]
    have : (([47, 10, 0, 34] : List UInt8).contains b) = !(okB b) := by
      unfold okB
      simp only [List.contains_cons, List.contains_nil, Bool.or_false, Bool.not_not, Bool.or_assoc]
    rw [this, Bool.not_and]
theorem indexByte_high (c : UInt8) (hc : 128 ≤ c.toNat) : ∀ l : List UInt8, (∀ b ∈ l, b.toNat < 128) → Lib.indexByte l c = -1
  | [], _ => rfl
  | b :: l, h => by
    unfold Lib.indexByte
    have h1 := h b (by simp)
    rw [indexByte_high c hc l fun b hb => h b (by simp [hb])]
    have : (b == c) = false := by simp; intro e; subst e; omega
    simp [this]
theorem below_iterAt {W w : World} {k : Nat} {s : ByteArray} {pos : Nat} (hb : Below k w W) (hk : k ≤ W.heap.size) : Below k w (W.iterAt k s pos) :=
  hb.grown ⟨rfl, rfl, rfl, by rw [Lib.iterAt_size]; exact Nat.le_refl _, fun i _ hi => Lib.iterAt_other W k i s pos (fun e => hi (by rw [e]))⟩ hk (fun j e => by cases e; exact Nat.le_refl _)

set_option maxRecDepth 100000 in
set_option maxHeartbeats 4000000 in
/-- A sign that is no byte of ASCII isn't among the four. -/
theorem indexRune_high (r : Int) (h : 128 ≤ r) (w : World) :
    Calls Tryd.prog 77 #[.string ⟨#[47, 10, 0, 34]⟩, .int .i32 r] w fun e w' => e = .returned (.int .i64 (-1)) ∧ Below w.heap.size w w' := by
  have r0 : 0 ≤ r := by omega
  have r1 : ¬ r < 128 := by omega
  by_cases he : r = 65533
  · subst he
    go_enter Tryd.func77, Tryd.ntmps77
    go_wp2
    go_loopw [5, 6] (fun _ _ W => ∃ k : Nat, k ≤ 4 ∧ W = w.iter ⟨#[47, 10, 0, 34]⟩ k) (fun _ _ W => 4 - W.iterPos w.heap.size)
    case atStart => exact ⟨0, by omega, rfl⟩
    case round =>
      obtain ⟨k, hk, rfl⟩ := hrel
      have hp : ∀ j, (w.iter ⟨#[47, 10, 0, 34]⟩ j).iterPos w.heap.size = j := fun j => by simp [World.iterPos, World.iter_heap]
      match k, hk with
      | 0, _ =>
        have hnx := fun ty => run_next_ascii (P := Tryd.prog) w ⟨#[47, 10, 0, 34]⟩ 0 ty (by decide) (by decide)
        go_wp2
        go_roundw
        case rel => exact ⟨1, by omega, rfl⟩
        case measure => rw [hp, hp]; omega
      | 1, _ =>
        have hnx := fun ty => run_next_ascii (P := Tryd.prog) w ⟨#[47, 10, 0, 34]⟩ 1 ty (by decide) (by decide)
        go_wp2
        go_roundw
        case rel => exact ⟨2, by omega, rfl⟩
        case measure => rw [hp, hp]; omega
      | 2, _ =>
        have hnx := fun ty => run_next_ascii (P := Tryd.prog) w ⟨#[47, 10, 0, 34]⟩ 2 ty (by decide) (by decide)
        go_wp2
        go_roundw
        case rel => exact ⟨3, by omega, rfl⟩
        case measure => rw [hp, hp]; omega
      | 3, _ =>
        have hnx := fun ty => run_next_ascii (P := Tryd.prog) w ⟨#[47, 10, 0, 34]⟩ 3 ty (by decide) (by decide)
        go_wp2
        go_roundw
        case rel => exact ⟨4, by omega, rfl⟩
        case measure => rw [hp, hp]; omega
      | 4, _ =>
        have hnx := fun ty => run_next_end (P := Tryd.prog) w ⟨#[47, 10, 0, 34]⟩ 4 ty (by decide)
        go_wp2
        go_ret
        exact ⟨rfl, (Below.refl _ _).alloc (Nat.le_refl _) _⟩
  have he' : (r == 65533) = false := by simpa using he
  cases hv : Lib.validRune r with
  | false =>
    go_enter Tryd.func77, Tryd.ntmps77
    go_wp2_with (go_at_call 84; refine (Tryd.utf8_ValidRune _ _).mono ?_; rintro e w' ⟨rfl, hw⟩; rw [hw, hv])
    go_ret
    exact ⟨rfl, Below.refl _ _⟩
  | true =>
    obtain ⟨f1, f2, f3⟩ := encode_facts r (by rw [validRune_eq]; exact hv) h
    obtain ⟨rs, hrs⟩ : ∃ rs, Utf8.encode r = rs := ⟨_, rfl⟩
    rw [hrs] at f1 f2 f3
    have hcv : ∀ W, (convert 21 9 (.int .i32 r)).run Tryd.prog W = .ok (.string rs) W := fun W => by
      rw [run_convert_int_string W _ _ _ _ (by rw [Tryd.underlying21]; rfl) Tryd.underlying9, hrs]
    obtain ⟨c, hc⟩ : ∃ c, rs[rs.size - 1]'(by omega) = c := ⟨_, rfl⟩
    have hc8 : 128 ≤ c.toNat := by rw [← hc]; exact f3 (by omega)
    have HI := Lib.hid (fun l hl => indexByte_high c hc8 l hl)
    have hc9 : 128 ≤ (c.toNat : Int) := by omega
    have hub := u8_back c
    clear hrs f3
    rcases (by omega : rs.size = 2 ∨ rs.size = 3 ∨ rs.size = 4) with hm | hm | hm
    · have hix : ∃ h : 1 < rs.size, rs[1]'h = c := ⟨by omega, by rw [← hc]; congr 1; omega⟩
      obtain ⟨hx1, hx2⟩ := hix
      have hmi : (rs.size : Int) = 2 := by omega
      have CI := Lib.hid (show ∀ W : World, Calls Tryd.prog 83 #[.string ((⟨#[47, 10, 0, 34]⟩ : ByteArray).extract 2 4), .int .u8 (c.toNat : Int)] W fun e w' => e = .returned (.int .i64 (-1)) ∧ w' = W from fun W => by
        refine (Tryd.strings_IndexByte _ _ _).mono fun e w' he => ?_
        rw [hub, HI.out _ (by decide)] at he
        exact he)
      have hsl : ∀ W, (Instr.slice 9 (.string ⟨#[47, 10, 0, 34]⟩) (some (.int .i64 2)) none none).run Tryd.prog W = .ok (.string ((⟨#[47, 10, 0, 34]⟩ : ByteArray).extract 2 4)) W := fun W => by
        rw [run_slice_string_l (w := W) (t := 9) (s := ⟨#[47, 10, 0, 34]⟩) (kl := .i64) (l := 2) (ht := Tryd.underlying9) (h0 := by omega) (h1 := by decide)]
        rfl
      have hwr : IntKind.i64.wrap 2 = 2 := by decide
      have hsl2 : ∀ W, (Instr.slice 9 (.string ⟨#[47, 10, 0, 34]⟩) (some (.int .i64 (IntKind.i64.wrap 2))) none none).run Tryd.prog W = .ok (.string ((⟨#[47, 10, 0, 34]⟩ : ByteArray).extract 2 4)) W := fun W => by rw [hwr]; exact hsl W
      have hnq : (((((⟨#[47, 10, 0, 34]⟩ : ByteArray)[1]'(by decide)).toNat : Nat) : Int) != (c.toNat : Int)) = true := by
        rw [bne_iff_ne]
        show ((10 : Nat) : Int) ≠ _
        omega
      clear hc hm f1 f2 hub HI
      go_enter Tryd.func77, Tryd.ntmps77
      go_wp2_with (go_at_call 84; refine (Tryd.utf8_ValidRune _ _).mono ?_; rintro e w' ⟨rfl, hw⟩; rw [hw, hv])
      refine wp_scope_jumps 1 (fun _ _ => False) (fun _ _ => 0) rfl ?_ (fun _ _ hF => hF.elim)
      go_wp2
      go_loop [9] (fun i => i = .int .i64 1) (fun _ => 0)
      case atStart => rfl
      case round =>
        subst hrel
        go_wp2
        refine wp_scope_jumps 0 (fun _ _ => False) (fun _ _ => 0) rfl ?_ (fun _ _ hF => hF.elim)
        go_wp2
        go_quiet (fail)
        obtain ⟨W1, hW1⟩ : ∃ W1, w.drewN nq = W1 := ⟨_, rfl⟩
        have HB := Lib.hid (show Below w.heap.size w W1 by rw [← hW1]; exact ⟨rfl, rfl, rfl, Nat.le_refl _, fun _ _ => rfl⟩)
        rw [hW1]
        clear hW1
        go_wp2
        go_quiet (exact Calls.quiet_of_same (CI.out _))
        go_wp2
        show bodyPost Tryd.prog Tryd.f77 (fun e w' => e = .returned (.int .i64 (-1)) ∧ Below w.heap.size w w') .ret _ _
        go_ret
        exact ⟨rfl, HB.out.trans ⟨rfl, rfl, rfl, Nat.le_refl _, fun _ _ => rfl⟩⟩
    · have hix : ∃ h : 2 < rs.size, rs[2]'h = c := ⟨by omega, by rw [← hc]; congr 1; omega⟩
      obtain ⟨hx1, hx2⟩ := hix
      have hmi : (rs.size : Int) = 3 := by omega
      have CI := Lib.hid (show ∀ W : World, Calls Tryd.prog 83 #[.string ((⟨#[47, 10, 0, 34]⟩ : ByteArray).extract 3 4), .int .u8 (c.toNat : Int)] W fun e w' => e = .returned (.int .i64 (-1)) ∧ w' = W from fun W => by
        refine (Tryd.strings_IndexByte _ _ _).mono fun e w' he => ?_
        rw [hub, HI.out _ (by decide)] at he
        exact he)
      have hsl : ∀ W, (Instr.slice 9 (.string ⟨#[47, 10, 0, 34]⟩) (some (.int .i64 3)) none none).run Tryd.prog W = .ok (.string ((⟨#[47, 10, 0, 34]⟩ : ByteArray).extract 3 4)) W := fun W => by
        rw [run_slice_string_l (w := W) (t := 9) (s := ⟨#[47, 10, 0, 34]⟩) (kl := .i64) (l := 3) (ht := Tryd.underlying9) (h0 := by omega) (h1 := by decide)]
        rfl
      have hwr : IntKind.i64.wrap 3 = 3 := by decide
      have hsl2 : ∀ W, (Instr.slice 9 (.string ⟨#[47, 10, 0, 34]⟩) (some (.int .i64 (IntKind.i64.wrap 3))) none none).run Tryd.prog W = .ok (.string ((⟨#[47, 10, 0, 34]⟩ : ByteArray).extract 3 4)) W := fun W => by rw [hwr]; exact hsl W
      have hnq : (((((⟨#[47, 10, 0, 34]⟩ : ByteArray)[2]'(by decide)).toNat : Nat) : Int) != (c.toNat : Int)) = true := by
        rw [bne_iff_ne]
        show ((0 : Nat) : Int) ≠ _
        omega
      clear hc hm f1 f2 hub HI
      go_enter Tryd.func77, Tryd.ntmps77
      go_wp2_with (go_at_call 84; refine (Tryd.utf8_ValidRune _ _).mono ?_; rintro e w' ⟨rfl, hw⟩; rw [hw, hv])
      refine wp_scope_jumps 1 (fun _ _ => False) (fun _ _ => 0) rfl ?_ (fun _ _ hF => hF.elim)
      go_wp2
      go_loop [9] (fun i => i = .int .i64 2) (fun _ => 0)
      case atStart => rfl
      case round =>
        subst hrel
        go_wp2
        refine wp_scope_jumps 0 (fun _ _ => False) (fun _ _ => 0) rfl ?_ (fun _ _ hF => hF.elim)
        go_wp2
        go_quiet (fail)
        obtain ⟨W1, hW1⟩ : ∃ W1, w.drewN nq = W1 := ⟨_, rfl⟩
        have HB := Lib.hid (show Below w.heap.size w W1 by rw [← hW1]; exact ⟨rfl, rfl, rfl, Nat.le_refl _, fun _ _ => rfl⟩)
        rw [hW1]
        clear hW1
        go_wp2
        go_quiet (exact Calls.quiet_of_same (CI.out _))
        go_wp2
        show bodyPost Tryd.prog Tryd.f77 (fun e w' => e = .returned (.int .i64 (-1)) ∧ Below w.heap.size w w') .ret _ _
        go_ret
        exact ⟨rfl, HB.out.trans ⟨rfl, rfl, rfl, Nat.le_refl _, fun _ _ => rfl⟩⟩
    · have hix : ∃ h : 3 < rs.size, rs[3]'h = c := ⟨by omega, by rw [← hc]; congr 1; omega⟩
      obtain ⟨hx1, hx2⟩ := hix
      have hmi : (rs.size : Int) = 4 := by omega
      have CI := Lib.hid (show ∀ W : World, Calls Tryd.prog 83 #[.string ((⟨#[47, 10, 0, 34]⟩ : ByteArray).extract 4 4), .int .u8 (c.toNat : Int)] W fun e w' => e = .returned (.int .i64 (-1)) ∧ w' = W from fun W => by
        refine (Tryd.strings_IndexByte _ _ _).mono fun e w' he => ?_
        rw [hub, HI.out _ (by decide)] at he
        exact he)
      have hsl : ∀ W, (Instr.slice 9 (.string ⟨#[47, 10, 0, 34]⟩) (some (.int .i64 4)) none none).run Tryd.prog W = .ok (.string ((⟨#[47, 10, 0, 34]⟩ : ByteArray).extract 4 4)) W := fun W => by
        rw [run_slice_string_l (w := W) (t := 9) (s := ⟨#[47, 10, 0, 34]⟩) (kl := .i64) (l := 4) (ht := Tryd.underlying9) (h0 := by omega) (h1 := by decide)]
        rfl
      have hwr : IntKind.i64.wrap 4 = 4 := by decide
      have hsl2 : ∀ W, (Instr.slice 9 (.string ⟨#[47, 10, 0, 34]⟩) (some (.int .i64 (IntKind.i64.wrap 4))) none none).run Tryd.prog W = .ok (.string ((⟨#[47, 10, 0, 34]⟩ : ByteArray).extract 4 4)) W := fun W => by rw [hwr]; exact hsl W
      have hnq : (((((⟨#[47, 10, 0, 34]⟩ : ByteArray)[3]'(by decide)).toNat : Nat) : Int) != (c.toNat : Int)) = true := by
        rw [bne_iff_ne]
        show ((34 : Nat) : Int) ≠ _
        omega
      clear hc hm f1 f2 hub HI
      go_enter Tryd.func77, Tryd.ntmps77
      go_wp2_with (go_at_call 84; refine (Tryd.utf8_ValidRune _ _).mono ?_; rintro e w' ⟨rfl, hw⟩; rw [hw, hv])
      refine wp_scope_jumps 1 (fun _ _ => False) (fun _ _ => 0) rfl ?_ (fun _ _ hF => hF.elim)
      go_wp2
      go_loop [9] (fun i => i = .int .i64 3) (fun _ => 0)
      case atStart => rfl
      case round =>
        subst hrel
        go_wp2
        refine wp_scope_jumps 0 (fun _ _ => False) (fun _ _ => 0) rfl ?_ (fun _ _ hF => hF.elim)
        go_wp2
        go_quiet (fail)
        obtain ⟨W1, hW1⟩ : ∃ W1, w.drewN nq = W1 := ⟨_, rfl⟩
        have HB := Lib.hid (show Below w.heap.size w W1 by rw [← hW1]; exact ⟨rfl, rfl, rfl, Nat.le_refl _, fun _ _ => rfl⟩)
        rw [hW1]
        clear hW1
        go_wp2
        go_quiet (exact Calls.quiet_of_same (CI.out _))
        go_wp2
        show bodyPost Tryd.prog Tryd.f77 (fun e w' => e = .returned (.int .i64 (-1)) ∧ Below w.heap.size w w') .ret _ _
        go_ret
        exact ⟨rfl, HB.out.trans ⟨rfl, rfl, rfl, Nat.le_refl _, fun _ _ => rfl⟩⟩

theorem no_more {l ch : List UInt8} {i n : Nat} (h : Lib.NoAny l ch i) (h2 : ∀ j b, i ≤ j → j < n → l[j]? = some b → ch.contains b = false) : Lib.NoAny l ch n := fun j b hj hb => by
  by_cases hji : j < i
  · exact h j b hji hb
  · exact h2 j b (by omega) hj hb
theorem high_not {b : UInt8} (h : 128 ≤ b.toNat) : (([47, 10, 0, 34] : List UInt8).contains b) = false := by
  rw [Bool.eq_false_iff]; intro e
  simp at e
  rcases e with e | e | e | e <;> (subst e; simp at h)

set_option maxRecDepth 100000 in
set_option maxHeartbeats 4000000 in
theorem indexAny4_short (s : ByteArray) (w : World) (h8 : s.size ≤ 8) :
    Calls Tryd.prog 69 #[.string s, .string ⟨#[47, 10, 0, 34]⟩] w fun e w' => e = .returned (.int .i64 (Lib.indexAny s.data.toList [47, 10, 0, 34])) ∧ Below w.heap.size w w' := by
  have h8z : decide ((8 : Int) < (s.size : Int)) = false := decide_eq_false (by omega)
  have hsz : s.data.toList.length = s.size := by simp
  go_enter Tryd.func69, Tryd.ntmps69
  go_wp2_with (go_at_call 78; refine (Tryd.strings_shouldUseASCIISet _ _).mono ?_; rintro e w' ⟨rfl, hw⟩; rw [hw, h8z])
  go_loopw [9, 10] (fun _ _ W => ∃ k : Nat, k ≤ s.size ∧ W.heap[w.heap.size]? = some (.stringIter s k) ∧ Below w.heap.size w W ∧ Lib.NoAny s.data.toList [47, 10, 0, 34] k) (fun _ _ W => s.size - W.iterPos w.heap.size)
  case atStart => exact ⟨0, Nat.zero_le _, World.iter_heap w s 0, (Below.refl _ _).alloc (Nat.le_refl _) _, Lib.NoAny.zero _ _⟩
  case round =>
    obtain ⟨k, hk, hit, hb, hno⟩ := hrel
    have HI := Lib.hid hit
    have HB := Lib.hid hb
    have HN := Lib.hid hno
    have hlt : w.heap.size < wr.heap.size := (Array.getElem?_eq_some_iff.1 hit).1
    clear hit hb hno
    have e1 := Lib.hid (show wr.iterPos w.heap.size = k by simp [World.iterPos, HI.out])
    by_cases h1 : k < s.size
    · by_cases h2 : 128 ≤ s[k].toNat
      · obtain ⟨W1, hW1⟩ : ∃ W1, wr.iterAt w.heap.size s (k + (Utf8.decode s k).2) = W1 := ⟨_, rfl⟩
        have hnx : ∀ ty, (Instr.next (.pointer (some ⟨w.heap.size, 0, none⟩)) true ty).run Tryd.prog wr = .ok (.tuple #[.bool true, .int .i64 k, .int .i32 (Utf8.decode s k).1]) W1 := fun ty => by rw [← hW1]; exact Lib.run_next_any_at wr w.heap.size s k ty HI.out h1
        obtain ⟨hhi, hpos⟩ := decode_high s k h1 h2
        have hend := decode_end s k h1 h2
        have HB1 := Lib.hid (show Below w.heap.size w W1 by rw [← hW1]; exact below_iterAt HB.out (by omega))
        have HI1 := Lib.hid (show W1.heap[w.heap.size]? = some (.stringIter s (k + (Utf8.decode s k).2)) by rw [← hW1]; exact Lib.iterAt_heap wr _ s k _ HI.out)
        have hl1 : w.heap.size < W1.heap.size := (Array.getElem?_eq_some_iff.1 HI1.out).1
        have HS := Lib.hid (no_more HN.out (n := k + (Utf8.decode s k).2) (fun j b hj1 hj2 hjb => by
          obtain ⟨g1, g2⟩ := decode_at_bytes s k h1 h2 (j - k) (by omega)
          have : s.data.toList[j]? = some (s[k + (j - k)]'g1) := by
            rw [List.getElem?_eq_getElem (by rw [hsz]; omega)]
            congr 1
            show s[j]'(by omega) = _
            congr 1; omega
          rw [this] at hjb
          cases hjb
          exact high_not g2))
        clear hW1
        have hh : 128 ≤ ((Utf8.decode s k).1 : Int) := by omega
        go_wp2_with (go_at_call 77; refine (indexRune_high _ hh _).mono ?_; rintro e W2 ⟨rfl, hb2⟩)
        go_roundw
        case rel => exact ⟨k + (Utf8.decode s k).2, hend, (hb2.block _ hl1).trans HI1.out, HB1.out.trans (hb2.mono (by omega)), HS.out⟩
        case measure =>
          have e2 : W2.iterPos w.heap.size = k + (Utf8.decode s k).2 := by simp [World.iterPos, (hb2.block _ hl1).trans HI1.out]
          rw [e1.out, e2]; omega
      · obtain ⟨W1, hW1⟩ : ∃ W1, wr.iterAt w.heap.size s (k + 1) = W1 := ⟨_, rfl⟩
        have hnx : ∀ ty, (Instr.next (.pointer (some ⟨w.heap.size, 0, none⟩)) true ty).run Tryd.prog wr = .ok (.tuple #[.bool true, .int .i64 k, .int .i32 s[k].toNat]) W1 := fun ty => by rw [← hW1]; exact Lib.run_next_ascii_at wr w.heap.size s k ty HI.out h1 (by omega)
        have HB1 := Lib.hid (show Below w.heap.size w W1 by rw [← hW1]; exact below_iterAt HB.out (by omega))
        have HI1 := Lib.hid (show W1.heap[w.heap.size]? = some (.stringIter s (k + 1)) by rw [← hW1]; exact Lib.iterAt_heap wr _ s k _ HI.out)
        have hl1 : w.heap.size < W1.heap.size := (Array.getElem?_eq_some_iff.1 HI1.out).1
        clear hW1
        obtain ⟨x, hx⟩ : ∃ x : UInt8, s[k] = x := ⟨_, rfl⟩
        rw [hx] at hnx h2
        have HX := Lib.hid (show s.data.toList[k]? = some x by rw [← hx]; exact Lib.data_getElem? s k h1)
        have hcon := Lib.contains_iff_indexByte [47, 10, 0, 34] x
        have hback : ((x.toNat : Int)).toNat.toUInt8 = x := by simp
        clear hx
        cases hin : (([47, 10, 0, 34] : List UInt8).contains x) with
        | false =>
          rw [hin] at hcon
          have hlt2 : ¬ ((0 : Int) ≤ Lib.indexByte [47, 10, 0, 34] x) := of_decide_eq_false hcon.symm
          have HIN := Lib.hid hin
          clear hcon hin
          generalize hq : Lib.indexByte [47, 10, 0, 34] x = q at hlt2
          have hq2 : Lib.indexByte (⟨#[47, 10, 0, 34]⟩ : ByteArray).data.toList x = q := hq
          clear hq
          go_wp2_with (go_at_call 77; refine (Tryd.strings_IndexRune_ascii _ _ _ (by omega) (by omega)).mono ?_; rintro e w' ⟨rfl, hw⟩; rw [hw, hback, hq2])
          go_roundw
          case rel => exact ⟨k + 1, by omega, HI1.out, HB1.out, HN.out.succ HX.out HIN.out⟩
          case measure =>
            have e2 : W1.iterPos w.heap.size = k + 1 := by simp [World.iterPos, HI1.out]
            rw [e1.out, e2]; omega
        | true =>
          rw [hin] at hcon
          have hlt2 : (0 : Int) ≤ Lib.indexByte [47, 10, 0, 34] x := of_decide_eq_true hcon.symm
          have HIN := Lib.hid hin
          clear hcon hin
          generalize hq : Lib.indexByte [47, 10, 0, 34] x = q at hlt2
          have hq2 : Lib.indexByte (⟨#[47, 10, 0, 34]⟩ : ByteArray).data.toList x = q := hq
          clear hq
          go_wp2_with (go_at_call 77; refine (Tryd.strings_IndexRune_ascii _ _ _ (by omega) (by omega)).mono ?_; rintro e w' ⟨rfl, hw⟩; rw [hw, hback, hq2])
          go_ret
          exact ⟨ret_int (by rw [Lib.indexAny_hit HN.out HX.out HIN.out]), HB1.out⟩
    · have hnx : ∀ ty, (Instr.next (.pointer (some ⟨w.heap.size, 0, none⟩)) true ty).run Tryd.prog wr = .ok (.tuple #[.bool false]) wr := fun ty => Lib.run_next_end_at wr w.heap.size s k ty HI.out h1
      go_wp2
      go_ret
      obtain rfl : k = s.size := by omega
      exact ⟨ret_int (by rw [Lib.indexAny_none (by rw [hsz]; exact HN.out)]), HB.out⟩

theorem zero256 : (Tryd.prog.info? 96).map (fun i => (i.zero, i.size)) = some (some (.agg (Array.replicate 256 (.bool false))), 256) := by kernel_rfl

theorem indexAny4 (s : ByteArray) (w : World) (hs : s.size ≤ 40) :
    Calls Tryd.prog 69 #[.string s, .string ⟨#[47, 10, 0, 34]⟩] w fun e w' => e = .returned (.int .i64 (Lib.indexAny s.data.toList [47, 10, 0, 34])) ∧ Below w.heap.size w w' := by
  by_cases h8 : s.size ≤ 8
  · exact indexAny4_short s w h8
  · refine (Tryd.strings_IndexAny_long (Go.zero_of_info zero256).1 s ⟨#[47, 10, 0, 34]⟩ w (by decide) (by omega) (by omega) (by decide) (fun j b hb => ?_)).mono fun e w' h => ⟨h.1, ?_⟩
    · have hm := List.mem_of_getElem? hb
      have : ∀ b ∈ (⟨#[47, 10, 0, 34]⟩ : ByteArray).data.toList, b.toNat < 128 := by decide
      exact this b hm
    · rw [h.2]
      exact ((Below.refl _ _).alloc (Nat.le_refl _) _).alloc (by simp) _

theorem containsAny4 (s : ByteArray) (w : World) (hs : s.size ≤ 40) :
    Calls Tryd.prog 62 #[.string s, .string ⟨#[47, 10, 0, 34]⟩] w fun e w' => e = .returned (.bool (!(s.data.toList.all okB))) ∧ Below w.heap.size w w' := by
  have CI := indexAny4 s w hs
  have HA := Lib.hid (any_ok s.data.toList)
  generalize Lib.indexAny s.data.toList [47, 10, 0, 34] = q at CI HA
  generalize (!(s.data.toList.all okB)) = b at HA
  go_enter Tryd.func62, Tryd.ntmps62
  go_wp2_with (go_at_call 69; refine CI.mono ?_; rintro e w' ⟨rfl, hb⟩)
  go_ret
  exact ⟨ret_bool HA.out, hb⟩

set_option maxHeartbeats 1000000 in
theorem implNameOk (s : ByteArray) (w : World) :
    Calls Tryd.prog 54 #[.string s] w fun e w' => e = .returned (.bool (nameB s.data.toList)) ∧ Below w.heap.size w w' := by
  have HE := Lib.hid (nameB_eq s)
  by_cases h0 : s.size = 0
  · have he : s.toList.isEmpty = true := by
      rw [Lib.toList_data, List.isEmpty_iff]
      exact List.eq_nil_of_length_eq_zero (by simpa using h0)
    have hf : inB s.size 1 40 = false := inB_f (by omega)
    clear h0
    go_enter Tryd.func54, Tryd.ntmps54
    go_wp2
    go_ret
    exact ⟨ret_bool (by rw [HE.out, hf]; rfl), Below.refl _ _⟩
  have he : s.toList.isEmpty = false := by
    rw [Lib.toList_data]
    cases h : s.data.toList with
    | nil => exfalso; apply h0; have := congrArg List.length h; simpa using this
    | cons => rfl
  by_cases h4 : s.size ≤ 40
  rotate_left
  · have hf : inB s.size 1 40 = false := inB_f (by omega)
    have h4i : ¬ (s.size : Int) ≤ 40 := by omega
    go_enter Tryd.func54, Tryd.ntmps54
    go_wp2
    go_ret
    exact ⟨ret_bool (by rw [HE.out, hf]; rfl), Below.refl _ _⟩
  have ht : inB s.size 1 40 = true := inB_t (by omega) (by omega)
  have h4i : (s.size : Int) ≤ 40 := by omega
  cases h1 : (s.data.toList == [46]) with
  | true =>
    have h1' : (s.toList == [46]) = true := by rw [lit_eq]; exact h1
    have H1 := Lib.hid h1
    clear h1
    go_enter Tryd.func54, Tryd.ntmps54
    go_wp2
    go_ret
    exact ⟨ret_bool (by rw [HE.out, H1.out]; simp), Below.refl _ _⟩
  | false =>
    have h1' : (s.toList == [46]) = false := by rw [lit_eq]; exact h1
    have H1 := Lib.hid h1
    clear h1
    cases h2 : (s.data.toList == [46, 46]) with
    | true =>
      have h2' : (s.toList == [46, 46]) = true := by rw [lit_eq]; exact h2
      have H2 := Lib.hid h2
      clear h2
      go_enter Tryd.func54, Tryd.ntmps54
      go_wp2
      go_ret
      exact ⟨ret_bool (by rw [HE.out, H2.out]; simp), Below.refl _ _⟩
    | false =>
      have h2' : (s.toList == [46, 46]) = false := by rw [lit_eq]; exact h2
      have H2 := Lib.hid h2
      clear h2
      have CA := containsAny4 s w h4
      have HR := Lib.hid (show nameB s.data.toList = s.data.toList.all okB by rw [HE.out, ht, H1.out, H2.out]; simp)
      generalize s.data.toList.all okB = b at CA HR
      go_enter Tryd.func54, Tryd.ntmps54
      go_wp2_with (go_at_call 62; refine CA.mono ?_; rintro e w' ⟨rfl, hb⟩)
      go_ret
      exact ⟨ret_bool (by rw [HR.out]), hb⟩
end Go.Proofs.YtipepbnmllbonaaDoor
