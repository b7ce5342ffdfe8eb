/- strings.ContainsAny of a stroke and a newline, at every text of at most 60 bytes. Contracts of spec.l05Set and spec.PatternOk. -/
import Derived.Test.YtipepbnmllbonaaGreatDoorM10
import Derived.Test.YtipepbnmllbonaaGreatDoorM15
namespace Go.Proofs.YtipepbnmllbonaaGreatDoor
open Go.RowKit
theorem any_ok2 (l : List UInt8) : decide (0 ≤ Lib.indexAny l [47, 10]) = !(l.all okP) := by
  rw [any_iff]
  induction l with
  | nil => rfl
  | cons b l ih =>
    rw [List.any_cons, List.all_cons, ih]
    have : (([47, 10] : List UInt8).contains b) = !(okP b) := by
      unfold okP
      simp only [List.contains_cons, List.contains_nil, Bool.or_false, Bool.not_not, Bool.or_assoc]
    rw [this, Bool.not_and]
set_option maxRecDepth 100000 in
set_option maxHeartbeats 4000000 in
/-- A sign that is no byte of ASCII isn't among the four. -/
theorem indexRune_high2 (r : Int) (h : 128 ≤ r) (w : World) :
    Calls Tryz.prog 211 #[.string ⟨#[47, 10]⟩, .int .i32 r] w fun e w' => e = .returned (.int .i64 (-1)) ∧ Below w.heap.size w w' := by
  have r0 : 0 ≤ r := by omega
  have r1 : ¬ r < 128 := by omega
  by_cases he : r = 65533
  · subst he
    go_enter Tryz.func211, Tryz.ntmps211
    go_wp2
    go_loopw [5, 6] (fun _ _ W => ∃ k : Nat, k ≤ 2 ∧ W = w.iter ⟨#[47, 10]⟩ k) (fun _ _ W => 2 - W.iterPos w.heap.size)
    case atStart => exact ⟨0, by omega, rfl⟩
    case round =>
      obtain ⟨k, hk, rfl⟩ := hrel
      have hp : ∀ j, (w.iter ⟨#[47, 10]⟩ j).iterPos w.heap.size = j := fun j => by simp [World.iterPos, World.iter_heap]
      match k, hk with
      | 0, _ =>
        have hnx := fun ty => run_next_ascii (P := Tryz.prog) w ⟨#[47, 10]⟩ 0 ty (by decide) (by decide)
        go_wp2
        go_roundw
        case rel => exact ⟨1, by omega, rfl⟩
        case measure => rw [hp, hp]; omega
      | 1, _ =>
        have hnx := fun ty => run_next_ascii (P := Tryz.prog) w ⟨#[47, 10]⟩ 1 ty (by decide) (by decide)
        go_wp2
        go_roundw
        case rel => exact ⟨2, by omega, rfl⟩
        case measure => rw [hp, hp]; omega
      | 2, _ =>
        have hnx := fun ty => run_next_end (P := Tryz.prog) w ⟨#[47, 10]⟩ 2 ty (by decide)
        go_wp2
        go_ret
        exact ⟨rfl, (Below.refl _ _).alloc (Nat.le_refl _) _⟩
  have he' : (r == 65533) = false := by simpa using he
  cases hv : Lib.validRune r with
  | false =>
    go_enter Tryz.func211, Tryz.ntmps211
    go_wp2_with (go_at_call 231; refine (Tryz.utf8_ValidRune _ _).mono ?_; rintro e w' ⟨rfl, hw⟩; rw [hw, hv])
    go_ret
    exact ⟨rfl, Below.refl _ _⟩
  | true =>
    obtain ⟨f1, f2, f3⟩ := encode_facts r (by rw [validRune_eq]; exact hv) h
    obtain ⟨rs, hrs⟩ : ∃ rs, Utf8.encode r = rs := ⟨_, rfl⟩
    rw [hrs] at f1 f2 f3
    have hcv : ∀ W, (convert 21 9 (.int .i32 r)).run Tryz.prog W = .ok (.string rs) W := fun W => by
      rw [run_convert_int_string W _ _ _ _ (by rw [Tryz.underlying21]; rfl) Tryz.underlying9, hrs]
    obtain ⟨c, hc⟩ : ∃ c, rs[rs.size - 1]'(by omega) = c := ⟨_, rfl⟩
    have hc8 : 128 ≤ c.toNat := by rw [← hc]; exact f3 (by omega)
    have HI := Lib.hid (fun l hl => indexByte_high c hc8 l hl)
    have hc9 : 128 ≤ (c.toNat : Int) := by omega
    have hub := u8_back c
    clear hrs f3
    rcases (by omega : rs.size = 2 ∨ rs.size = 3 ∨ rs.size = 4) with hm | hm | hm
    · have hix : ∃ h : 1 < rs.size, rs[1]'h = c := ⟨by omega, by rw [← hc]; congr 1; omega⟩
      obtain ⟨hx1, hx2⟩ := hix
      have hmi : (rs.size : Int) = 2 := by omega
      have CI := Lib.hid (show ∀ W : World, Calls Tryz.prog 230 #[.string ((⟨#[47, 10]⟩ : ByteArray).extract 2 2), .int .u8 (c.toNat : Int)] W fun e w' => e = .returned (.int .i64 (-1)) ∧ w' = W from fun W => by
        refine (Tryz.strings_IndexByte _ _ _).mono fun e w' he => ?_
        rw [hub, HI.out _ (by decide)] at he
        exact he)
      have hsl : ∀ W, (Instr.slice 9 (.string ⟨#[47, 10]⟩) (some (.int .i64 2)) none none).run Tryz.prog W = .ok (.string ((⟨#[47, 10]⟩ : ByteArray).extract 2 2)) W := fun W => by
        rw [run_slice_string_l (w := W) (t := 9) (s := ⟨#[47, 10]⟩) (kl := .i64) (l := 2) (ht := Tryz.underlying9) (h0 := by omega) (h1 := by decide)]
        rfl
      have hwr : IntKind.i64.wrap 2 = 2 := by decide
      have hsl2 : ∀ W, (Instr.slice 9 (.string ⟨#[47, 10]⟩) (some (.int .i64 (IntKind.i64.wrap 2))) none none).run Tryz.prog W = .ok (.string ((⟨#[47, 10]⟩ : ByteArray).extract 2 2)) W := fun W => by rw [hwr]; exact hsl W
      have hnq : (((((⟨#[47, 10]⟩ : ByteArray)[1]'(by decide)).toNat : Nat) : Int) != (c.toNat : Int)) = true := by
        rw [bne_iff_ne]
        show ((10 : Nat) : Int) ≠ _
        omega
      clear hc hm f1 f2 hub HI
      go_enter Tryz.func211, Tryz.ntmps211
      go_wp2_with (go_at_call 231; refine (Tryz.utf8_ValidRune _ _).mono ?_; rintro e w' ⟨rfl, hw⟩; rw [hw, hv])
      refine wp_scope_jumps 1 (fun _ _ => False) (fun _ _ => 0) rfl ?_ (fun _ _ hF => hF.elim)
      go_wp2
      go_loop [9] (fun i => i = .int .i64 1) (fun _ => 0)
      case atStart => rfl
      case round =>
        subst hrel
        go_wp2
        refine wp_scope_jumps 0 (fun _ _ => False) (fun _ _ => 0) rfl ?_ (fun _ _ hF => hF.elim)
        go_wp2
        go_quiet (fail)
        obtain ⟨W1, hW1⟩ : ∃ W1, w.drewN nq = W1 := ⟨_, rfl⟩
        have HB := Lib.hid (show Below w.heap.size w W1 by rw [← hW1]; exact ⟨rfl, rfl, rfl, Nat.le_refl _, fun _ _ => rfl⟩)
        rw [hW1]
        clear hW1
        go_wp2
        go_quiet (exact Calls.quiet_of_same (CI.out _))
        go_wp2
        show bodyPost Tryz.prog Tryz.f211 (fun e w' => e = .returned (.int .i64 (-1)) ∧ Below w.heap.size w w') .ret _ _
        go_ret
        exact ⟨rfl, HB.out.trans ⟨rfl, rfl, rfl, Nat.le_refl _, fun _ _ => rfl⟩⟩
    · have hmi : (rs.size : Int) = 3 := by omega
      clear hc hm f1 f2 hub HI
      go_enter Tryz.func211, Tryz.ntmps211
      go_wp2_with (go_at_call 231; refine (Tryz.utf8_ValidRune _ _).mono ?_; rintro e w' ⟨rfl, hw⟩; rw [hw, hv])
      refine wp_scope_jumps 1 (fun _ _ => False) (fun _ _ => 0) rfl ?_ (fun _ _ hF => hF.elim)
      go_wp2
      go_loop [9] (fun i => i = .int .i64 2) (fun _ => 0)
      case atStart => rfl
      case round =>
        subst hrel
        go_wp2
        show bodyPost Tryz.prog Tryz.f211 (fun e w' => e = .returned (.int .i64 (-1)) ∧ Below w.heap.size w w') .ret _ _
        go_ret
        exact ⟨rfl, Below.refl _ _⟩
    · have hmi : (rs.size : Int) = 4 := by omega
      clear hc hm f1 f2 hub HI
      go_enter Tryz.func211, Tryz.ntmps211
      go_wp2_with (go_at_call 231; refine (Tryz.utf8_ValidRune _ _).mono ?_; rintro e w' ⟨rfl, hw⟩; rw [hw, hv])
      refine wp_scope_jumps 1 (fun _ _ => False) (fun _ _ => 0) rfl ?_ (fun _ _ hF => hF.elim)
      go_wp2
      go_loop [9] (fun i => i = .int .i64 3) (fun _ => 0)
      case atStart => rfl
      case round =>
        subst hrel
        go_wp2
        show bodyPost Tryz.prog Tryz.f211 (fun e w' => e = .returned (.int .i64 (-1)) ∧ Below w.heap.size w w') .ret _ _
        go_ret
        exact ⟨rfl, Below.refl _ _⟩
theorem high_not2 {b : UInt8} (h : 128 ≤ b.toNat) : (([47, 10] : List UInt8).contains b) = false := by
  rw [Bool.eq_false_iff]; intro e
  simp at e
  rcases e with e | e <;> (subst e; simp at h)

set_option maxRecDepth 100000 in
set_option maxHeartbeats 4000000 in
theorem indexAny_short2 (s : ByteArray) (w : World) (h8 : s.size ≤ 8) :
    Calls Tryz.prog 183 #[.string s, .string ⟨#[47, 10]⟩] w fun e w' => e = .returned (.int .i64 (Lib.indexAny s.data.toList [47, 10])) ∧ Below w.heap.size w w' := by
  have h8z : decide ((8 : Int) < (s.size : Int)) = false := decide_eq_false (by omega)
  have hsz : s.data.toList.length = s.size := by simp
  go_enter Tryz.func183, Tryz.ntmps183
  go_wp2_with (go_at_call 212; refine (Tryz.strings_shouldUseASCIISet _ _).mono ?_; rintro e w' ⟨rfl, hw⟩; rw [hw, h8z])
  go_loopw [9, 10] (fun _ _ W => ∃ k : Nat, k ≤ s.size ∧ W.heap[w.heap.size]? = some (.stringIter s k) ∧ Below w.heap.size w W ∧ Lib.NoAny s.data.toList [47, 10] k) (fun _ _ W => s.size - W.iterPos w.heap.size)
  case atStart => exact ⟨0, Nat.zero_le _, World.iter_heap w s 0, (Below.refl _ _).alloc (Nat.le_refl _) _, Lib.NoAny.zero _ _⟩
  case round =>
    obtain ⟨k, hk, hit, hb, hno⟩ := hrel
    have HI := Lib.hid hit
    have HB := Lib.hid hb
    have HN := Lib.hid hno
    have hlt : w.heap.size < wr.heap.size := (Array.getElem?_eq_some_iff.1 hit).1
    clear hit hb hno
    have e1 := Lib.hid (show wr.iterPos w.heap.size = k by simp [World.iterPos, HI.out])
    by_cases h1 : k < s.size
    · by_cases h2 : 128 ≤ s[k].toNat
      · obtain ⟨W1, hW1⟩ : ∃ W1, wr.iterAt w.heap.size s (k + (Utf8.decode s k).2) = W1 := ⟨_, rfl⟩
        have hnx : ∀ ty, (Instr.next (.pointer (some ⟨w.heap.size, 0, none⟩)) true ty).run Tryz.prog wr = .ok (.tuple #[.bool true, .int .i64 k, .int .i32 (Utf8.decode s k).1]) W1 := fun ty => by rw [← hW1]; exact Lib.run_next_any_at wr w.heap.size s k ty HI.out h1
        obtain ⟨hhi, hpos⟩ := decode_high s k h1 h2
        have hend := decode_end s k h1 h2
        have HB1 := Lib.hid (show Below w.heap.size w W1 by rw [← hW1]; exact below_iterAt HB.out (by omega))
        have HI1 := Lib.hid (show W1.heap[w.heap.size]? = some (.stringIter s (k + (Utf8.decode s k).2)) by rw [← hW1]; exact Lib.iterAt_heap wr _ s k _ HI.out)
        have hl1 : w.heap.size < W1.heap.size := (Array.getElem?_eq_some_iff.1 HI1.out).1
        have HS := Lib.hid (no_more HN.out (n := k + (Utf8.decode s k).2) (fun j b hj1 hj2 hjb => by
          obtain ⟨g1, g2⟩ := decode_at_bytes s k h1 h2 (j - k) (by omega)
          have : s.data.toList[j]? = some (s[k + (j - k)]'g1) := by
            rw [List.getElem?_eq_getElem (by rw [hsz]; omega)]
            congr 1
            show s[j]'(by omega) = _
            congr 1; omega
          rw [this] at hjb
          cases hjb
          exact high_not2 g2))
        clear hW1
        have hh : 128 ≤ ((Utf8.decode s k).1 : Int) := by omega
        go_wp2_with (go_at_call 211; refine (indexRune_high2 _ hh _).mono ?_; rintro e W2 ⟨rfl, hb2⟩)
        go_roundw
        case rel => exact ⟨k + (Utf8.decode s k).2, hend, (hb2.block _ hl1).trans HI1.out, HB1.out.trans (hb2.mono (by omega)), HS.out⟩
        case measure =>
          have e2 : W2.iterPos w.heap.size = k + (Utf8.decode s k).2 := by simp [World.iterPos, (hb2.block _ hl1).trans HI1.out]
          rw [e1.out, e2]; omega
      · obtain ⟨W1, hW1⟩ : ∃ W1, wr.iterAt w.heap.size s (k + 1) = W1 := ⟨_, rfl⟩
        have hnx : ∀ ty, (Instr.next (.pointer (some ⟨w.heap.size, 0, none⟩)) true ty).run Tryz.prog wr = .ok (.tuple #[.bool true, .int .i64 k, .int .i32 s[k].toNat]) W1 := fun ty => by rw [← hW1]; exact Lib.run_next_ascii_at wr w.heap.size s k ty HI.out h1 (by omega)
        have HB1 := Lib.hid (show Below w.heap.size w W1 by rw [← hW1]; exact below_iterAt HB.out (by omega))
        have HI1 := Lib.hid (show W1.heap[w.heap.size]? = some (.stringIter s (k + 1)) by rw [← hW1]; exact Lib.iterAt_heap wr _ s k _ HI.out)
        have hl1 : w.heap.size < W1.heap.size := (Array.getElem?_eq_some_iff.1 HI1.out).1
        clear hW1
        obtain ⟨x, hx⟩ : ∃ x : UInt8, s[k] = x := ⟨_, rfl⟩
        rw [hx] at hnx h2
        have HX := Lib.hid (show s.data.toList[k]? = some x by rw [← hx]; exact Lib.data_getElem? s k h1)
        have hcon := Lib.contains_iff_indexByte [47, 10] x
        have hback : ((x.toNat : Int)).toNat.toUInt8 = x := by simp
        clear hx
        cases hin : (([47, 10] : List UInt8).contains x) with
        | false =>
          rw [hin] at hcon
          have hlt2 : ¬ ((0 : Int) ≤ Lib.indexByte [47, 10] x) := of_decide_eq_false hcon.symm
          have HIN := Lib.hid hin
          clear hcon hin
          generalize hq : Lib.indexByte [47, 10] x = q at hlt2
          have hq2 : Lib.indexByte (⟨#[47, 10]⟩ : ByteArray).data.toList x = q := hq
          clear hq
          go_wp2_with (go_at_call 211; refine (Tryz.strings_IndexRune_ascii _ _ _ (by omega) (by omega)).mono ?_; rintro e w' ⟨rfl, hw⟩; rw [hw, hback, hq2])
          go_roundw
          case rel => exact ⟨k + 1, by omega, HI1.out, HB1.out, HN.out.succ HX.out HIN.out⟩
          case measure =>
            have e2 : W1.iterPos w.heap.size = k + 1 := by simp [World.iterPos, HI1.out]
            rw [e1.out, e2]; omega
        | true =>
          rw [hin] at hcon
          have hlt2 : (0 : Int) ≤ Lib.indexByte [47, 10] x := of_decide_eq_true hcon.symm
          have HIN := Lib.hid hin
          clear hcon hin
          generalize hq : Lib.indexByte [47, 10] x = q at hlt2
          have hq2 : Lib.indexByte (⟨#[47, 10]⟩ : ByteArray).data.toList x = q := hq
          clear hq
          go_wp2_with (go_at_call 211; refine (Tryz.strings_IndexRune_ascii _ _ _ (by omega) (by omega)).mono ?_; rintro e w' ⟨rfl, hw⟩; rw [hw, hback, hq2])
          go_ret
          exact ⟨ret_int (by rw [Lib.indexAny_hit HN.out HX.out HIN.out]), HB1.out⟩
    · have hnx : ∀ ty, (Instr.next (.pointer (some ⟨w.heap.size, 0, none⟩)) true ty).run Tryz.prog wr = .ok (.tuple #[.bool false]) wr := fun ty => Lib.run_next_end_at wr w.heap.size s k ty HI.out h1
      go_wp2
      go_ret
      obtain rfl : k = s.size := by omega
      exact ⟨ret_int (by rw [Lib.indexAny_none (by rw [hsz]; exact HN.out)]), HB.out⟩

theorem indexAny2 (s : ByteArray) (w : World) (hs : s.size ≤ 60) :
    Calls Tryz.prog 183 #[.string s, .string ⟨#[47, 10]⟩] w fun e w' => e = .returned (.int .i64 (Lib.indexAny s.data.toList [47, 10])) ∧ Below w.heap.size w w' := by
  by_cases h8 : s.size ≤ 8
  · exact indexAny_short2 s w h8
  · refine (Tryz.strings_IndexAny_long (Go.zero_of_info zero256).1 s ⟨#[47, 10]⟩ w (by decide) (by omega) (by omega) (by decide) (fun j b hb => ?_)).mono fun e w' h => ⟨h.1, ?_⟩
    · have hm := List.mem_of_getElem? hb
      have : ∀ b ∈ (⟨#[47, 10]⟩ : ByteArray).data.toList, b.toNat < 128 := by decide
      exact this b hm
    · rw [h.2]
      exact ((Below.refl _ _).alloc (Nat.le_refl _) _).alloc (by simp) _

theorem containsAny2 (s : ByteArray) (w : World) (hs : s.size ≤ 60) :
    Calls Tryz.prog 158 #[.string s, .string ⟨#[47, 10]⟩] w fun e w' => e = .returned (.bool (!(s.data.toList.all okP))) ∧ Below w.heap.size w w' := by
  have CI := indexAny2 s w hs
  have HA := Lib.hid (any_ok2 s.data.toList)
  generalize Lib.indexAny s.data.toList [47, 10] = q at CI HA
  generalize (!(s.data.toList.all okP)) = b at HA
  go_enter Tryz.func158, Tryz.ntmps158
  go_wp2_with (go_at_call 183; refine CI.mono ?_; rintro e w' ⟨rfl, hb⟩)
  go_ret
  exact ⟨ret_bool HA.out, hb⟩

end Go.Proofs.YtipepbnmllbonaaGreatDoor
namespace Go.Proofs.YtipepbnmllbonaaGreatDoor
open Go.RowKit

def optI : Option Nat → Int
  | some n => (n : Int)
  | none => -1
/-- Where the ] of the set that begins at i stands. -/
def setO (l : List UInt8) (i : Nat) : Option Nat := (endL true (l.drop (i + 1 + setN (l.drop (i + 1))))).map (· + (i + 1 + setN (l.drop (i + 1))))
theorem at_headIs (s : ByteArray) (k : Nat) (h : k < s.size) (c : UInt8) : headIs c (s.data.toList.drop k) = (s[k] == c) := by
  rw [drop_one _ (at_byte s k h)]; rfl
theorem drop_end (s : ByteArray) (k : Nat) (h : ¬ k < s.size) : s.data.toList.drop k = [] := List.drop_eq_nil_of_le (by simp; omega)
theorem end_esc {T : Option Nat} {f : Bool} {l : List UInt8} {k : Nat} (h : T = (endL f (l.drop k)).map (· + k)) (hd : l.drop k = 92 :: l.drop (k + 1)) : T = (endL false (l.drop (k + 2))).map (· + (k + 2)) := by
  rw [h, hd, endL_esc, List.drop_drop]
  simp only [Option.map_map]
  congr 1; funext x; simp; omega
theorem end_go {T : Option Nat} {f : Bool} {l : List UInt8} {k : Nat} {c : UInt8} (h : T = (endL f (l.drop k)).map (· + k)) (hd : l.drop k = c :: l.drop (k + 1)) (h1 : ¬ (c = 93 ∧ f = false)) (h2 : c ≠ 92) : T = (endL false (l.drop (k + 1))).map (· + (k + 1)) := by
  rw [h, hd, endL_go f _ h1 h2]
  simp only [Option.map_map]
  congr 1; funext x; simp; omega

set_option maxRecDepth 100000 in
set_option maxHeartbeats 4000000 in
theorem specSet_loop (s : ByteArray) (i : Nat) (hi : i < s.size) (hs : s.size ≤ 60) (w : World) :
    Calls Tryz.prog 164 #[.string s, .int .i64 i] w fun e w' => e = .returned (.int .i64 (optI (setO s.data.toList i))) ∧ w = w' := by
  obtain ⟨T, hT⟩ : ∃ T, setO s.data.toList i = T := ⟨_, rfl⟩
  rw [hT]
  have hsi : (s.size : Int) ≤ 60 := by omega
  have START := Lib.hid (show ∀ q : Nat, setN (s.data.toList.drop (i + 1)) = q → T = (endL true (s.data.toList.drop (i + 1 + q))).map (· + (i + 1 + q)) from fun q hq => by rw [← hT]; unfold setO; rw [hq])
  clear hT
  by_cases h1 : i + 1 < s.size
  · have h1i : (i : Int) + 1 < (s.size : Int) := by omega
    have HH := Lib.hid (at_headIs s (i + 1) h1 33)
    by_cases h2 : s[i + 1].toNat = 33
    · have hc : ((s[i + 1].toNat : Int) == 33) = true := byte_t h2
      have HS := Lib.hid (START.out 1 (by unfold setN; rw [HH.out, u8_is (c := 33) h2]; rfl))
      clear h2 START HH
      go_enter Tryz.func164, Tryz.ntmps164
      go_wp2
      go_loop [5, 6] (fun kv fv => ∃ (k : Nat) (f : Bool), kv = .int .i64 k ∧ fv = .bool f ∧ k ≤ s.size + 1 ∧ Hid (T = (endL f (s.data.toList.drop k)).map (· + k))) (fun kv _ => s.size + 2 - (intOf kv).toNat)
      case atStart => exact ⟨i + 2, true, by go_num, rfl, by omega, HS⟩
      case round =>
        clear HS hc
        obtain ⟨k, f, rfl, rfl, hk, HR⟩ := hrel
        by_cases h3 : k < s.size
        · have HD := Lib.hid (drop_one _ (at_byte s k h3))
          have h3i : (k : Int) < (s.size : Int) := by omega
          obtain ⟨x, hx⟩ : ∃ x : UInt8, s[k] = x := ⟨_, rfl⟩
          rw [hx] at HD
          by_cases h4 : x.toNat = 93
          · have c1 : ((x.toNat : Int) == 93) = true := byte_t h4
            have c2 : ((x.toNat : Int) == 92) = false := byte_f (n := 92) (by omega)
            cases f with
            | false =>
              have HE := Lib.hid (show T = some k by rw [HR.out, HD.out, u8_is (c := 93) h4, endL_stop]; simp)
              clear h4 HR
              go_wp2
              go_ret
              exact ⟨ret_int (by rw [HE.out]; rfl), rfl⟩
            | true =>
              have HE := Lib.hid (end_go HR.out HD.out (by rintro ⟨-, e⟩; cases e) (by intro e; rw [e] at h4; cases h4))
              clear h4 HR
              go_wp2
              go_round
              case rel => exact ⟨k + 1, false, by go_num, rfl, by omega, HE⟩
              case measure => simp [intOf]; omega
          · have c1 : ((x.toNat : Int) == 93) = false := byte_f h4
            by_cases h5 : x.toNat = 92
            · have c2 : ((x.toNat : Int) == 92) = true := byte_t h5
              have HE := Lib.hid (end_esc HR.out (by rw [HD.out, u8_is (c := 92) h5]))
              clear h4 h5 HR
              go_wp2
              go_round
              case rel => exact ⟨k + 2, false, by go_num, rfl, by omega, HE⟩
              case measure => simp [intOf]; omega
            · have c2 : ((x.toNat : Int) == 92) = false := byte_f h5
              have HE := Lib.hid (end_go HR.out HD.out (by rintro ⟨e, -⟩; rw [e] at h4; exact h4 rfl) (by intro e; rw [e] at h5; exact h5 rfl))
              clear h4 h5 HR
              go_wp2
              go_round
              case rel => exact ⟨k + 1, false, by go_num, rfl, by omega, HE⟩
              case measure => simp [intOf]; omega
        · have HE := Lib.hid (show T = none by rw [HR.out, drop_end s k h3]; rfl)
          have h3i : ¬ (k : Int) < (s.size : Int) := by omega
          go_wp2
          go_ret
          exact ⟨ret_int (by rw [HE.out]; rfl), rfl⟩
    · have hc : ((s[i + 1].toNat : Int) == 33) = false := byte_f h2
      have HS := Lib.hid (START.out 0 (by unfold setN; rw [HH.out, if_neg (by simp; intro e; rw [e] at h2; exact h2 rfl)]))
      clear h2 START HH
      go_enter Tryz.func164, Tryz.ntmps164
      go_wp2
      go_loop [5, 6] (fun kv fv => ∃ (k : Nat) (f : Bool), kv = .int .i64 k ∧ fv = .bool f ∧ k ≤ s.size + 1 ∧ Hid (T = (endL f (s.data.toList.drop k)).map (· + k))) (fun kv _ => s.size + 2 - (intOf kv).toNat)
      case atStart => exact ⟨i + 1, true, by go_num, rfl, by omega, HS⟩
      case round =>
        clear HS hc
        obtain ⟨k, f, rfl, rfl, hk, HR⟩ := hrel
        by_cases h3 : k < s.size
        · have HD := Lib.hid (drop_one _ (at_byte s k h3))
          have h3i : (k : Int) < (s.size : Int) := by omega
          obtain ⟨x, hx⟩ : ∃ x : UInt8, s[k] = x := ⟨_, rfl⟩
          rw [hx] at HD
          by_cases h4 : x.toNat = 93
          · have c1 : ((x.toNat : Int) == 93) = true := byte_t h4
            have c2 : ((x.toNat : Int) == 92) = false := byte_f (n := 92) (by omega)
            cases f with
            | false =>
              have HE := Lib.hid (show T = some k by rw [HR.out, HD.out, u8_is (c := 93) h4, endL_stop]; simp)
              clear h4 HR
              go_wp2
              go_ret
              exact ⟨ret_int (by rw [HE.out]; rfl), rfl⟩
            | true =>
              have HE := Lib.hid (end_go HR.out HD.out (by rintro ⟨-, e⟩; cases e) (by intro e; rw [e] at h4; cases h4))
              clear h4 HR
              go_wp2
              go_round
              case rel => exact ⟨k + 1, false, by go_num, rfl, by omega, HE⟩
              case measure => simp [intOf]; omega
          · have c1 : ((x.toNat : Int) == 93) = false := byte_f h4
            by_cases h5 : x.toNat = 92
            · have c2 : ((x.toNat : Int) == 92) = true := byte_t h5
              have HE := Lib.hid (end_esc HR.out (by rw [HD.out, u8_is (c := 92) h5]))
              clear h4 h5 HR
              go_wp2
              go_round
              case rel => exact ⟨k + 2, false, by go_num, rfl, by omega, HE⟩
              case measure => simp [intOf]; omega
            · have c2 : ((x.toNat : Int) == 92) = false := byte_f h5
              have HE := Lib.hid (end_go HR.out HD.out (by rintro ⟨e, -⟩; rw [e] at h4; exact h4 rfl) (by intro e; rw [e] at h5; exact h5 rfl))
              clear h4 h5 HR
              go_wp2
              go_round
              case rel => exact ⟨k + 1, false, by go_num, rfl, by omega, HE⟩
              case measure => simp [intOf]; omega
        · have HE := Lib.hid (show T = none by rw [HR.out, drop_end s k h3]; rfl)
          have h3i : ¬ (k : Int) < (s.size : Int) := by omega
          go_wp2
          go_ret
          exact ⟨ret_int (by rw [HE.out]; rfl), rfl⟩
  · have h1i : ¬ (i : Int) + 1 < (s.size : Int) := by omega
    have HS := Lib.hid (START.out 0 (by unfold setN; rw [drop_end s (i + 1) h1]; rfl))
    have hc : True := trivial
    clear START
    go_enter Tryz.func164, Tryz.ntmps164
    go_wp2
    go_loop [5, 6] (fun kv fv => ∃ (k : Nat) (f : Bool), kv = .int .i64 k ∧ fv = .bool f ∧ k ≤ s.size + 1 ∧ Hid (T = (endL f (s.data.toList.drop k)).map (· + k))) (fun kv _ => s.size + 2 - (intOf kv).toNat)
    case atStart => exact ⟨i + 1, true, by go_num, rfl, by omega, HS⟩
    case round =>
      clear HS hc
      obtain ⟨k, f, rfl, rfl, hk, HR⟩ := hrel
      by_cases h3 : k < s.size
      · have HD := Lib.hid (drop_one _ (at_byte s k h3))
        have h3i : (k : Int) < (s.size : Int) := by omega
        obtain ⟨x, hx⟩ : ∃ x : UInt8, s[k] = x := ⟨_, rfl⟩
        rw [hx] at HD
        by_cases h4 : x.toNat = 93
        · have c1 : ((x.toNat : Int) == 93) = true := byte_t h4
          have c2 : ((x.toNat : Int) == 92) = false := byte_f (n := 92) (by omega)
          cases f with
          | false =>
            have HE := Lib.hid (show T = some k by rw [HR.out, HD.out, u8_is (c := 93) h4, endL_stop]; simp)
            clear h4 HR
            go_wp2
            go_ret
            exact ⟨ret_int (by rw [HE.out]; rfl), rfl⟩
          | true =>
            have HE := Lib.hid (end_go HR.out HD.out (by rintro ⟨-, e⟩; cases e) (by intro e; rw [e] at h4; cases h4))
            clear h4 HR
            go_wp2
            go_round
            case rel => exact ⟨k + 1, false, by go_num, rfl, by omega, HE⟩
            case measure => simp [intOf]; omega
        · have c1 : ((x.toNat : Int) == 93) = false := byte_f h4
          by_cases h5 : x.toNat = 92
          · have c2 : ((x.toNat : Int) == 92) = true := byte_t h5
            have HE := Lib.hid (end_esc HR.out (by rw [HD.out, u8_is (c := 92) h5]))
            clear h4 h5 HR
            go_wp2
            go_round
            case rel => exact ⟨k + 2, false, by go_num, rfl, by omega, HE⟩
            case measure => simp [intOf]; omega
          · have c2 : ((x.toNat : Int) == 92) = false := byte_f h5
            have HE := Lib.hid (end_go HR.out HD.out (by rintro ⟨e, -⟩; rw [e] at h4; exact h4 rfl) (by intro e; rw [e] at h5; exact h5 rfl))
            clear h4 h5 HR
            go_wp2
            go_round
            case rel => exact ⟨k + 1, false, by go_num, rfl, by omega, HE⟩
            case measure => simp [intOf]; omega
      · have HE := Lib.hid (show T = none by rw [HR.out, drop_end s k h3]; rfl)
        have h3i : ¬ (k : Int) < (s.size : Int) := by omega
        go_wp2
        go_ret
        exact ⟨ret_int (by rw [HE.out]; rfl), rfl⟩

/-- PatternOk as spec goes through it. -/
def patS : Nat → List UInt8 → Bool
  | _, [] => true
  | 0, _ :: _ => false
  | n + 1, c :: r =>
    match pieceL (c :: r) with
    | none => false
    | some (_, k) => ((c :: r).take k).all okP && patS n ((c :: r).drop k)
theorem patS_eq : ∀ (n : Nat) (l : List UInt8), l.length ≤ n → patS n l = (l.all okP && (piecesL l).isSome)
  | n, [], _ => by cases n <;> rfl
  | 0, c :: r, h => by simp at h
  | n + 1, c :: r, h => by
    rw [patS]
    cases hp : pieceL (c :: r) with
    | none => rw [piecesL_none (by simp) hp]; simp
    | some x =>
      obtain ⟨p, k⟩ := x
      obtain ⟨g1, g2⟩ := pieceL_pos hp
      simp only []
      rw [patS_eq n _ (by simp at h ⊢; omega), piecesL_some hp, Option.isSome_map, ← Bool.and_assoc, ← List.all_append, List.take_append_drop]
/-- What is left to be asked of a pattern. -/
def restB (l : List UInt8) : Bool := l.all okP && (piecesL l).isSome
theorem restB_none {l : List UInt8} (h : l ≠ []) (hp : pieceL l = none) : restB l = false := by unfold restB; rw [piecesL_none h hp]; simp
theorem restB_some {l : List UInt8} {p : Pc} {k : Nat} (hp : pieceL l = some (p, k)) : restB l = ((l.take k).all okP && restB (l.drop k)) := by
  unfold restB
  rw [piecesL_some hp, Option.isSome_map, ← Bool.and_assoc, ← List.all_append, List.take_append_drop]
theorem restB_bad {l : List UInt8} {c : UInt8} {r : List UInt8} (hd : l = c :: r) (h : okP c = false) : restB l = false := by
  unfold restB; rw [hd, List.all_cons, h]; rfl
theorem okP_iff (c : UInt8) : okP c = true ↔ c.toNat ≠ 47 ∧ c.toNat ≠ 10 := by
  unfold okP
  simp only [Bool.not_eq_true', Bool.or_eq_false_iff, beq_eq_false_iff_ne, ne_eq, ← UInt8.toNat_inj]
  exact Iff.rfl
theorem okP_f {c : UInt8} (h : c.toNat = 47 ∨ c.toNat = 10) : okP c = false := by
  cases hh : okP c with
  | false => rfl
  | true => obtain ⟨h1, h2⟩ := (okP_iff c).1 hh; omega
theorem okP_t {c : UInt8} (h : c.toNat ≠ 47) (h2 : c.toNat ≠ 10) : okP c = true := (okP_iff c).2 ⟨h, h2⟩
end Go.Proofs.YtipepbnmllbonaaGreatDoor
