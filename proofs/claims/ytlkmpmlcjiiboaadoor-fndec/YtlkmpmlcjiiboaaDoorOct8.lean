/- The contract of strconv.FormatInt at base eight and numbers up to 511. -/
import Derived.Test.YtlkmpmlcjiiboaaDoorImplDec
import Derived.Laws.IdiomStrings
namespace Go.Proofs.YtlkmpmlcjiiboaaDoor
open Go.RowKit

theorem trail_ix : IntKind.u64.wrap (bits BinOp.and IntKind.u64 8 (IntKind.u64.wrap (-8)) * 285870213051353865) / 288230376151711744 = 7 := by kernel_rfl

theorem trailing8 (w : World) (hT : Tabs w) :
    Calls Tryd.prog 52 #[.int .u64 8] w fun e w' => e = .returned (.int .i64 3) ∧ w = w' := by
  have hc := hT.cell7
  have hx := trail_ix
  go_enter Tryd.func52, Tryd.ntmps52
  go_wp2
  go_ret
  exact ⟨rfl, rfl⟩

theorem pow2_8 (w : World) :
    Calls Tryd.prog 51 #[.int .i64 8] w fun e w' => e = .returned (.bool true) ∧ w = w' := by
  have hx : (bits BinOp.and IntKind.i64 8 7 == 0) = true := by kernel_rfl
  go_enter Tryd.func51, Tryd.ntmps51
  go_wp2
  go_ret
  exact ⟨rfl, rfl⟩

def zeros65 : Array Value := Array.replicate 65 (.int .u8 0)
theorem zeros65_size : zeros65.size = 65 := by simp [zeros65]
theorem zero65 (w : World) : (zeroValue 74).run Tryd.prog w = .ok (.agg zeros65) w := by kernel_rfl

/-- The digits of base eight. -/
def octDigits (u : Nat) : List UInt8 := if h : u < 8 then [digB u] else octDigits (u / 8) ++ [digB (u % 8)]
termination_by u
decreasing_by omega

theorem octDigits_small (u : Nat) (h : u < 8) : octDigits u = [digB u] := by rw [octDigits, dif_pos h]
theorem octDigits_big (u : Nat) (h : ¬ u < 8) : octDigits u = octDigits (u / 8) ++ [digB (u % 8)] := by rw [octDigits, dif_neg h]

theorem and7_u64 (z : Int) (h0 : 0 ≤ z) (h1 : z < 18446744073709551616) : bits .and .u64 z 7 = z % 8 := by go_bits2

theorem digB_nat (d : Nat) (h : d < 10) : ((digB d).toNat : Int) = 48 + d := by
  unfold digB
  rw [UInt8.toNat_ofNat', Nat.mod_eq_of_lt (by omega)]; omega

def digs36 : ByteArray := ⟨#[48, 49, 50, 51, 52, 53, 54, 55, 56, 57, 97, 98, 99, 100, 101, 102, 103, 104, 105, 106, 107, 108, 109, 110, 111, 112, 113, 114, 115, 116, 117, 118, 119, 120, 121, 122]⟩
theorem digs36_at (d : Nat) (h : d < 8) (hd : d < digs36.size) : digs36[d] = digB d := by
  match d, h with
  | 0, _ => rfl
  | 1, _ => rfl
  | 2, _ => rfl
  | 3, _ => rfl
  | 4, _ => rfl
  | 5, _ => rfl
  | 6, _ => rfl
  | 7, _ => rfl
theorem run_dig36 (d : Nat) (x : Int) (hx : x = d) (h : d < 8) (w : World) :
    (Instr.index 9 (.string ⟨#[48, 49, 50, 51, 52, 53, 54, 55, 56, 57, 97, 98, 99, 100, 101, 102, 103, 104, 105, 106, 107, 108, 109, 110, 111, 112, 113, 114, 115, 116, 117, 118, 119, 120, 121, 122]⟩) (.int .u64 x)).run Tryd.prog w = .ok (.int .u8 ((digB d).toNat : Int)) w := by
  subst hx
  have hs : d < digs36.size := by show d < 36; omega
  have e := run_index_string w 9 digs36 .u64 d Tryd.underlying9 (P := Tryd.prog)
  rw [dif_pos ⟨by omega, by omega⟩] at e
  have e2 : (d : Int).toNat = d := by omega
  simp only [e2, digs36_at d h hs] at e
  exact e

theorem row_cons (cs : Array Value) (l : List UInt8) (c : UInt8) (hs : cs.size = 65) (hl : l.length ≤ 64) (h : ∀ j (h : j < l.length), cs[65 - l.length + j]? = some (.int .u8 (l[j].toNat : Int))) :
    ∀ j (h : j < (c :: l).length), (cs.setIfInBounds (64 - l.length) (.int .u8 (c.toNat : Int)))[65 - (c :: l).length + j]? = some (.int .u8 ((c :: l)[j].toNat : Int)) := by
  intro j hj
  rw [Array.getElem?_setIfInBounds]
  cases j with
  | zero => rw [if_pos (by simp), if_pos (by omega)]; rfl
  | succ j =>
    rw [if_neg (by simp only [List.length_cons]; omega)]
    have := h j (by simpa using hj)
    rw [show 65 - (c :: l).length + (j + 1) = 65 - l.length + j by simp; omega]
    simpa using this

theorem addr_add (b o j : Nat) : (⟨b, o, none⟩ : Addr).add j = ⟨b, o + j, none⟩ := by
  unfold Addr.add; split <;> simp_all

theorem slice65 (b n : Nat) (h : n ≤ 64) (w : World) :
    (Instr.sliceAt 74 (.pointer (some ⟨b, 0, none⟩)) (some (.int .i64 (65 - (n : Int) - 1))) none none).run Tryd.prog w = .ok (.slice (some ⟨b, 64 - n, none⟩) (n + 1) (n + 1)) w := by
  have hal : Tryd.prog.arrayLen 74 = 65 := by kernel_rfl
  have hel : Tryd.prog.elem 74 = 5 := by kernel_rfl
  rw [run_sliceAt_array_l (w := w) (t := 74) (ht := by kernel_rfl) (kl := .i64) (l := 65 - (n : Int) - 1) (h0 := by omega) (h1 := by rw [hal]; omega), hal, hel, Tryd.sizeOf5]
  have e1 : (65 - (n : Int) - 1).toNat = 64 - n := by omega
  simp only [slicedAt, e1, Result.andThen, Nat.mul_one]
  rw [if_neg (by omega), addr_add, show 0 + (64 - n) = 64 - n by omega, show 65 - (64 - n) = n + 1 by omega]

theorem conv65 (w : World) (cs : Array Value) (c : UInt8) (l : List UInt8) (hl : l.length ≤ 64) (h : ∀ j (h : j < (c :: l).length), cs[65 - (c :: l).length + j]? = some (.int .u8 ((c :: l)[j].toNat : Int))) :
    (convert 22 9 (.slice (some ⟨w.heap.size, 64 - l.length, none⟩) (l.length + 1) (l.length + 1))).run Tryd.prog (w.alloc (.cells cs 74)) = .ok (.string (strOf (c :: l))) (w.alloc (.cells cs 74)) := by
  have e := run_convert_bytes_back (P := Tryd.prog) (w.alloc (.cells cs 74)) 22 9 5 ⟨w.heap.size, 64 - l.length, none⟩ (l.length + 1) (c :: l) Tryd.underlying22 Tryd.underlying5 Tryd.underlying9 (fun j hj => by
    have := h j hj
    have e2 : 65 - (c :: l).length + j = 64 - l.length + j := by simp
    rw [e2] at this
    rw [addr_add, World.cell?_alloc_at cs _ _ _ rfl, this])
  exact e

set_option maxRecDepth 100000 in
set_option maxHeartbeats 1000000 in
theorem formatBits (u : Nat) (w : World) (hT : Tabs w) (hu : u < 512) :
    Calls Tryd.prog 42 #[.slice none 0 0, .int .u64 u, .int .i64 8, .bool false, .bool false] w
      fun e w' => e = .returned (.tuple #[.slice none 0 0, .string (strOf (octDigits u))]) ∧ Below w.heap.size w w' := by
  have hz := zero65
  have hzs := zeros65_size
  go_enter Tryd.func42, Tryd.ntmps42
  go_wp2_with (first | (go_at_call 51; refine (pow2_8 _).mono ?_; rintro e w' ⟨rfl, rfl⟩) | (go_at_call 52; refine (trailing8 _ (hT.on ((Below.refl _ _).alloc (Nat.le_refl _) _))).mono ?_; rintro e w' ⟨rfl, rfl⟩))
  go_loopw [1, 13] (fun t i W => ∃ (v : Nat) (l : List UInt8) (cs : Array Value), W = w.alloc (.cells cs 74) ∧ t = .int .u64 v ∧ i = .int .i64 (65 - (l.length : Int)) ∧ v * 8 ^ l.length < 512 ∧ l.length ≤ 3 ∧ cs.size = 65 ∧ (∀ j (h : j < l.length), cs[65 - l.length + j]? = some (.int .u8 (l[j].toNat : Int))) ∧ octDigits u = octDigits v ++ l) (fun t _ _ => (intOf t).toNat)
  case atStart => exact ⟨u, [], zeros65, rfl, rfl, rfl, by simpa using hu, by simp, hzs, fun j h => by simp at h, by simp⟩
  case round =>
    obtain ⟨v, l, cs, rfl, rfl, rfl, hv, hl, hcs, hcells, ho⟩ := hrel
    have HC := Lib.hid hcells
    have HO := Lib.hid ho
    have HV := Lib.hid hv
    clear hcells ho hv
    by_cases h8 : 8 ≤ v
    · have hl2 : l.length ≤ 2 := by
        have hv := HV.out
        by_cases h : l.length = 3
        · rw [h] at hv; omega
        · omega
      have hand := and7_u64 v (by omega) (by have hv := HV.out; have := Nat.le_mul_of_pos_right v (Nat.pow_pos (n := l.length) (show 0 < 8 by decide)); omega)
      have hidx := run_dig36 (v % 8) ((v : Int) % 8) (by omega) (by omega)
      have htn : (65 - (l.length : Int) - 1).toNat = 64 - l.length := by omega
      have hlt : 64 - l.length < cs.size := by omega
      have hv64 : v < 512 := by have hv := HV.out; have := Nat.le_mul_of_pos_right v (Nat.pow_pos (n := l.length) (show 0 < 8 by decide)); omega
      obtain ⟨x, hx⟩ : ∃ x, cs[64 - l.length]? = some x := ⟨_, Array.getElem?_eq_getElem hlt⟩
      have HLT := Lib.hid hlt
      clear hlt
      go_wp2
      go_roundw
      case rel =>
        refine ⟨v / 8, digB (v % 8) :: l, _, rfl, by go_num, by simp; omega, ?_, by simp; omega, by simpa using hcs, row_cons cs l _ hcs (by omega) HC.out, by rw [HO.out, octDigits_big v (by omega)]; simp⟩
        have hv := HV.out
        have e1 : v / 8 * 8 ≤ v := Nat.div_mul_le_self v 8
        have e2 : v / 8 * 8 ^ (l.length + 1) = (v / 8 * 8) * 8 ^ l.length := by rw [Nat.pow_succ, Nat.mul_assoc, Nat.mul_comm 8]
        have e3 := Nat.mul_le_mul_right (8 ^ l.length) e1
        simp only [List.length_cons]
        omega
      case measure => simp [intOf]; omega
    · have hidx := run_dig36 v (v : Int) rfl (by omega)
      have htn : (65 - (l.length : Int) - 1).toNat = 64 - l.length := by omega
      have hlt : 64 - l.length < cs.size := by omega
      obtain ⟨x, hx⟩ : ∃ x, cs[64 - l.length]? = some x := ⟨_, Array.getElem?_eq_getElem hlt⟩
      have HLT := Lib.hid hlt
      clear hlt
      have hsl := slice65 w.heap.size l.length (by omega)
      have hconv := conv65 w (cs.setIfInBounds (64 - l.length) (.int .u8 ((digB v).toNat : Int))) (digB v) l (by omega) (row_cons cs l _ hcs (by omega) HC.out)
      go_wp2
      go_ret2
      exact ⟨by rw [HO.out, octDigits_small v (by omega)]; rfl, (Below.refl _ _).alloc (Nat.le_refl _) _⟩

theorem format8in (u : Nat) (w : World) (hT : Tabs w) (hu : u < 512) :
    Calls Tryd.prog 32 #[.int .i64 u, .int .i64 8] w fun e w' => e = .returned (.string (strOf (octDigits u))) ∧ Below w.heap.size w w' := by
  go_enter Tryd.func32, Tryd.ntmps32
  go_wp2_with (go_at_call 42; refine (formatBits u _ hT hu).mono ?_; rintro e w' ⟨rfl, hb⟩)
  go_ret
  exact ⟨rfl, hb⟩

theorem format8 (u : Nat) (w : World) (hT : Tabs w) (hu : u < 512) :
    Calls Tryd.prog 25 #[.int .i64 u, .int .i64 8] w fun e w' => e = .returned (.string (strOf (octDigits u))) ∧ Below w.heap.size w w' := by
  go_enter Tryd.func25, Tryd.ntmps25
  go_wp2_with (go_at_call 32; refine (format8in u _ hT hu).mono ?_; rintro e w' ⟨rfl, hb⟩)
  go_ret
  exact ⟨rfl, hb⟩
end Go.Proofs.YtlkmpmlcjiiboaaDoor
