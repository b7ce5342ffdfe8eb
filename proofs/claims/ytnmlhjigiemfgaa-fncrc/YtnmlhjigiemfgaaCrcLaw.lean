/- Proved: laws.FnCrc answers true at every code: of a text that is drawn impl.Crc tells what spec.Crc tells, and with one of its bits turned another number; the argument reads as before. No condition. -/
import Derived.Test.YtnmlhjigiemfgaaImplCrc
import Derived.Test.YtnmlhjigiemfgaaSpecCrc
import Derived.Test.YtnmlhjigiemfgaaDrawSmall
import Derived.Test.YtnmlhjigiemfgaaDrawAges
import Derived.Test.YtnmlhjigiemfgaaByteRow
import Derived.Test.YtnmlhjigiemfgaaBig
namespace Go.Proofs.Ytnmlhjigiemfgaa
open Go.RowKit

theorem xor_bit (c : UInt8) (t : Nat) (ht : t < 8) : ∃ z : UInt8, z ≠ c ∧ c.toNat ^^^ 2 ^ t = z.toNat := by
  have hp : 2 ^ t < 2 ^ 8 := Nat.pow_lt_pow_right (by omega) ht
  have hc : c.toNat < 2 ^ 8 := c.toNat_lt
  have hx := Nat.xor_lt_two_pow hc hp
  refine ⟨UInt8.ofNat (c.toNat ^^^ 2 ^ t), ?_, ?_⟩
  · intro e
    have e1 := congrArg UInt8.toNat e
    rw [UInt8.toNat_ofNat', Nat.mod_eq_of_lt (by omega)] at e1
    have e2 := congrArg (c.toNat ^^^ ·) e1
    simp only [← Nat.xor_assoc, Nat.xor_self, Nat.zero_xor] at e2
    have : 0 < 2 ^ t := Nat.two_pow_pos t
    omega
  · rw [UInt8.toNat_ofNat', Nat.mod_eq_of_lt (by omega)]
theorem shl_bit (t : Nat) (ht : t < 8) : IntKind.u8.wrap (2 ^ t) = ((2 ^ t : Nat) : Int) := by
  have e : ∀ t : Fin 8, IntKind.u8.wrap (2 ^ t.val) = ((2 ^ t.val : Nat) : Int) := by decide
  exact e ⟨t, ht⟩
theorem split_at (l : List UInt8) (i : Nat) (c : UInt8) (h : l[i]? = some c) : l = l.take i ++ c :: l.drop (i + 1) := by
  obtain ⟨h1, h2⟩ := List.getElem?_eq_some_iff.1 h
  rw [← h2, ← List.drop_eq_getElem_cons h1, List.take_append_drop]
theorem extract_list (l : List UInt8) (i j : Nat) : (strOf l).extract i j = strOf ((l.drop i).take (j - i)) := by
  have e : ((strOf l).extract i j).data.toList = (l.drop i).take (j - i) := by
    rw [ByteArray.data_extract, Array.toList_extract, List.extract_eq_take_drop]; simp [strOf]
  rw [← e]
  cases (strOf l).extract i j
  simp [strOf]
theorem conv_new (X : World) (z : UInt8) : (convert 22 9 (.slice (some ⟨X.heap.size, 0, none⟩) 1 1)).run Try.prog (X.alloc (.cells #[.int .u8 (z.toNat : Int)] 5)).drew = .ok (.string (strOf [z])) (X.alloc (.cells #[.int .u8 (z.toNat : Int)] 5)).drew :=
  conv_bytes (B := X.heap.size) (l := [z]) (owns_drew (World.ownsRow_lit X #[.int .u8 (z.toNat : Int)] 1 (Nat.le_refl _) (by simp [maxLen]) (by simp)) 1)

set_option maxRecDepth 100000 in
set_option maxHeartbeats 8000000 in
theorem walkFnCrc (a : Option Addr) (len cap : Nat) (zs : List Int) (w : World) (hr : IsRow .u8 w a len cap zs) :
    Calls Try.prog 3 #[.slice a len cap] w fun e w' => e = .returned (.bool true) ∧ Below w.heap.size w w' := by
  by_cases hlen : len ≤ 1048576
  rotate_left
  · clear hr
    go_enter Try.func3, Try.ntmps3
    go_wp2_with fail
    refine (bigT _ _ _ _ hlen).mono ?_
    rintro e w' ⟨rfl, rfl⟩
    go_wp2
    go_ret
    exact ⟨rfl, Below.refl _ _⟩
  have HR := Lib.hid hr
  clear hr
  go_enter Try.func3, Try.ntmps3
  go_wp2_with fail
  refine (bigF _ _ _ _ hlen).mono ?_
  rintro e w' ⟨rfl, rfl⟩
  go_wp2_with fail
  refine (specDrawCrc w _ a len cap zs HR.out (Below.refl _ _) hlen).mono ?_
  rintro e W1 ⟨⟨l, hl, rfl⟩, hB1⟩
  have CI := Lib.hid (fun W => implCrc (strOf l) (by rw [strOf_size]; unfold maxLen; omega) W)
  have CS := Lib.hid (fun W => specCrc (strOf l) (by rw [strOf_size]; unfold maxLen; omega) W)
  rw [strOf_data] at CI CS
  have hse : (strOf l).toList.isEmpty = l.isEmpty := by rw [Lib.toList_data, strOf_data]
  have HB1 := Lib.hid hB1
  clear hB1
  cases l with
  | nil =>
    generalize crcV [] = x at CI CS
    generalize strOf [] = s at CI CS hse
    go_wp2_with fail
    refine (CI.out _).mono ?_
    rintro e W2 ⟨rfl, rfl⟩
    go_wp2_with fail
    refine (CS.out _).mono ?_
    rintro e W2 ⟨rfl, rfl⟩
    go_wp2_with fail
    refine (CS.out _).mono ?_
    rintro e W2 ⟨rfl, rfl⟩
    go_wp2
    go_ret
    exact ⟨rfl, HB1.out⟩
  | cons c0 r0 =>
    rw [show (c0 :: r0).isEmpty = false from rfl] at hse
    obtain ⟨l, hle⟩ : ∃ l, c0 :: r0 = l := ⟨_, rfl⟩
    have hpos : 0 < l.length := by rw [← hle]; simp
    rw [hle] at CI CS hse hl ⊢
    clear hle
    have hszi : ((strOf l).size : Int) = (l.length : Int) := by rw [strOf_size]
    have hli : (0 : Int) < (l.length : Int) := by omega
    have HX := Lib.hid (fun (x : List UInt8) (hx : x.length ≤ 9000) W => implCrc (strOf x) (by rw [strOf_size]; unfold maxLen; omega) W)
    simp only [strOf_data] at HX
    have hcr := crcV_lt l
    have HV := Lib.hid (fun u b v (h : l = u ++ b :: v) (z : UInt8) (hz : z ≠ b) => show crcV (u ++ z :: v) ≠ crcV l by rw [h]; exact crcV_byte u v hz)
    generalize crcV l = x at CI CS HV hcr
    go_wp2_with fail
    refine (CI.out _).mono ?_
    rintro e W2 ⟨rfl, rfl⟩
    go_wp2_with fail
    refine (CS.out _).mono ?_
    rintro e W2 ⟨rfl, rfl⟩
    clear CI CS
    go_wp2_with fail
    refine (lawsAt w _ a len cap 0 zs HR.out HB1.out hlen (by omega)).mono ?_
    rintro e W2 ⟨⟨x0, rfl, hx00, hx01⟩, rfl⟩
    go_wp2_with fail
    refine (lawsAt w _ a len cap 1 zs HR.out HB1.out hlen (by omega)).mono ?_
    rintro e W2 ⟨⟨x1, rfl, hx10, hx11⟩, rfl⟩
    have hq0 : 0 ≤ x0 * 256 + x1 := by omega
    obtain ⟨i, hi⟩ : ∃ i : Nat, (x0 * 256 + x1) % (l.length : Int) = (i : Int) := ⟨((x0 * 256 + x1) % (l.length : Int)).toNat, by have := Int.emod_nonneg (x0 * 256 + x1) (show (l.length : Int) ≠ 0 by omega); omega⟩
    have hil : (i : Int) < (l.length : Int) := by rw [← hi]; exact Int.emod_lt_of_pos _ hli
    have him : (x0 * 256 + x1).tmod (l.length : Int) = (i : Int) := by rw [Int.tmod_eq_emod_of_nonneg hq0, hi]
    have hin : i < l.length := by omega
    have hiz : i < (strOf l).size := by rw [strOf_size]; exact hin
    obtain ⟨c, hc⟩ : ∃ c : UInt8, (strOf l)[i] = c := ⟨_, rfl⟩
    have HSP := Lib.hid (split_at l i c (by have := at_byte (strOf l) i hiz; rw [strOf_data, hc] at this; exact this))
    have hi1 : IntKind.i64.wrap ((i : Int) + 1) = (i : Int) + 1 := IntWalk.i64_in _ (by omega)
    have hto : ∀ W, (Instr.slice 9 (.string (strOf l)) none (some (.int .i64 (i : Int))) none).run Try.prog W = .ok (.string (strOf (l.take i))) W := fun W => by
      rw [run_slice_string_h (w := W) (t := 9) (s := strOf l) (kh := .i64) (h := i) (ht := Try.underlying9) (h0 := by omega) (h2 := by omega)]
      show Result.ok (Value.string ((strOf l).extract 0 i)) W = _
      rw [extract_list, List.drop_zero, Nat.sub_zero]
    have hfr : ∀ W, (Instr.slice 9 (.string (strOf l)) (some (.int .i64 ((i : Int) + 1))) none none).run Try.prog W = .ok (.string (strOf (l.drop (i + 1)))) W := fun W => by
      rw [run_slice_string_l (w := W) (t := 9) (s := strOf l) (kl := .i64) (l := (i : Int) + 1) (ht := Try.underlying9) (h0 := by omega) (h1 := by omega)]
      show Result.ok (Value.string ((strOf l).extract (i + 1) (strOf l).size)) W = _
      rw [extract_list, strOf_size, List.take_of_length_le (by simp)]
    have hii : (i : Int) < ((strOf l).size : Int) := by omega
    generalize hS : strOf l = s at *
    clear hi
    go_wp2_with fail
    go_region_with (first | (go_at_call 11; refine (lawsAt w _ a len cap 2 zs HR.out (HB1.out.drew) hlen (by omega)).mono ?_; rintro e W3 ⟨⟨y, rfl, hy0, hy1⟩, rfl⟩; (obtain ⟨t, ht⟩ : ∃ t : Nat, y % 8 = (t : Int) := ⟨(y % 8).toNat, by omega⟩); (have ht8 : t < 8 := by omega); (have htm : y.tmod 8 = (t : Int) := by rw [Int.tmod_eq_emod_of_nonneg hy0, ht]); (have ht6 : IntKind.u64.wrap (t : Int) = (t : Int) := IntWalk.u64_in _ (by omega)); (obtain ⟨z, hz, hzx⟩ := xor_bit c t ht8); (have hxr : bits .xor .u8 (c.toNat : Int) (IntKind.u8.wrap (2 ^ t)) = (z.toNat : Int) := by rw [shl_bit t ht8, u8_xor_nat _ _ c.toNat_lt (Nat.pow_lt_pow_right (a := 2) (m := t) (n := 8) (by omega) ht8), hzx]); (have hcn := conv_new W1 z); (have hq1 := run_add (l.take i) [z] (by simp; omega)); (have hq2 := run_add (l.take i ++ [z]) (l.drop (i + 1)) (by simp; omega)); clear hzx) | (go_at_call 9; refine (HX.out (l.take i ++ z :: l.drop (i + 1)) (by rw [List.length_append, List.length_cons, List.length_take, List.length_drop]; omega) _).mono ?_; rintro e W4 ⟨rfl, rfl⟩; (have hne : ((crcV (l.take i ++ z :: l.drop (i + 1)) : Int) != (x : Int)) = true := by simp only [bne_iff_ne, ne_eq]; intro e; exact HV.out _ c _ HSP.out z hz (by omega))))
    all_goals
      go_wp2
      go_ret
      exact ⟨rfl, (HB1.out.alloc HB1.out.size _).drew⟩
end Go.Proofs.Ytnmlhjigiemfgaa
