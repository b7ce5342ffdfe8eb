/- impl.cutRun. -/
import Derived.Test.YtnmlhjigiemfgaaDoorSpecSpread
import Derived.Laws.Strings
namespace Go.Proofs.YtnmlhjigiemfgaaDoor
open Go.RowKit

def cutT (b : UInt8) (n : Nat) (r : List UInt8) : Value := .tuple #[.agg #[.int .u8 (b.toNat : Int), .int .i64 (n : Int)], .string (strOf r), .bool true]
def cutN : Value := .tuple #[.agg #[.int .u8 0, .int .i64 0], .string ⟨#[]⟩, .bool false]

theorem extractK (q : ByteArray) (k : Nat) : q.extract k q.size = strOf (q.data.toList.drop k) := by
  have e : (q.extract k q.size).data.toList = q.data.toList.drop k := by
    rw [ByteArray.data_extract, Array.toList_extract, List.extract_eq_take_drop, List.take_of_length_le (by simp)]
  have e2 : strOf ((q.extract k q.size).data.toList) = q.extract k q.size := by simp only [strOf, Array.toArray_toList]
  rw [← e2, e]
theorem byte_of {q : ByteArray} {k : Nat} {c : UInt8} (h : q.data.toList[k]? = some c) : ∃ h : k < q.size, q[k]'h = c := by
  have hl := (List.getElem?_eq_some_iff.1 h).1
  have hs : k < q.size := by simpa using hl
  refine ⟨hs, ?_⟩
  have := at_byte q k hs
  rw [h] at this
  simpa using this.symm

set_option maxRecDepth 100000 in
theorem cut_lit (q : ByteArray) (c : UInt8) (r : List UInt8) (hq : q.data.toList = c :: r) (hc : c ≠ 1) (hs : q.size ≤ 1048576) (w : World) :
    Calls Tryd.prog 36 #[.string q] w fun e w' => e = .returned (cutT c 1 r) ∧ Below w.heap.size w w' := by
  obtain ⟨h0, hx⟩ := byte_of (q := q) (k := 0) (c := c) (by rw [hq]; rfl)
  have h0i : (0 : Int) < (q.size : Int) := by omega
  have hci : ((c.toNat : Int) == 1) = false := byte_f (n := 1) (fun e => hc (u8_is (c := 1) e))
  have HE := Lib.hid (extractK q 1)
  rw [hq] at HE
  simp only [List.drop_succ_cons, List.drop_zero] at HE
  clear hq hc
  go_enter Tryd.func36, Tryd.ntmps36
  go_wp2_with fail
  go_region
  go_wp2
  rw [HE.out]
  refine bodyPost_ret (v := cutT c 1 r) (by simp [results, Tryd.results36, go_sem, cutT]) rfl ⟨rfl, ?_⟩
  exact ((Below.refl _ _).alloc (Nat.le_refl _) _).drew

set_option maxRecDepth 100000 in
theorem cut_none (q : ByteArray) (r : List UInt8) (hq : q.data.toList = 1 :: r) (hr : r.length < 2) (hs : q.size ≤ 1048576) (w : World) :
    Calls Tryd.prog 36 #[.string q] w fun e w' => e = .returned cutN ∧ Below w.heap.size w w' := by
  obtain ⟨h0, hx⟩ := byte_of (q := q) (k := 0) (c := 1) (by rw [hq]; rfl)
  have h0i : (0 : Int) < (q.size : Int) := by omega
  have hci : (((1 : UInt8).toNat : Int) == 1) = true := rfl
  have hl : q.size < 3 := by have := congrArg List.length hq; simp at this; omega
  have hli : (q.size : Int) < 3 := by omega
  clear hq hr
  go_enter Tryd.func36, Tryd.ntmps36
  go_wp2
  refine bodyPost_ret (v := cutN) (by simp [results, Tryd.results36, go_sem, cutN]) rfl ⟨rfl, ?_⟩
  exact (Below.refl _ _).alloc (Nat.le_refl _) _

set_option maxRecDepth 100000 in
theorem cut_run (q : ByteArray) (n b : UInt8) (r : List UInt8) (hq : q.data.toList = 1 :: n :: b :: r) (hs : q.size ≤ 1048576) (w : World) :
    Calls Tryd.prog 36 #[.string q] w fun e w' => e = .returned (cutT b n.toNat r) ∧ Below w.heap.size w w' := by
  obtain ⟨h0, hx⟩ := byte_of (q := q) (k := 0) (c := 1) (by rw [hq]; rfl)
  obtain ⟨h1, hx1⟩ := byte_of (q := q) (k := 1) (c := n) (by rw [hq]; rfl)
  obtain ⟨h2, hx2⟩ := byte_of (q := q) (k := 2) (c := b) (by rw [hq]; rfl)
  have h0i : (0 : Int) < (q.size : Int) := by omega
  have h1i : (1 : Int) < (q.size : Int) := by omega
  have h2i : (2 : Int) < (q.size : Int) := by omega
  have h3i : (3 : Int) ≤ (q.size : Int) := by omega
  have hli : ¬ (q.size : Int) < 3 := by omega
  have hci : (((1 : UInt8).toNat : Int) == 1) = true := rfl
  have HE := Lib.hid (extractK q 3)
  rw [hq] at HE
  simp only [List.drop_succ_cons, List.drop_zero] at HE
  have hn := n.toNat_lt
  have hw : IntKind.i64.wrap (n.toNat : Int) = (n.toNat : Int) := IntWalk.i64_in _ (by omega)
  clear hq
  go_enter Tryd.func36, Tryd.ntmps36
  go_wp2_with fail
  go_region
  go_wp2
  rw [HE.out]
  refine bodyPost_ret (v := cutT b n.toNat r) (by simp [results, Tryd.results36, go_sem, cutT]) rfl ⟨rfl, ?_⟩
  exact ((Below.refl _ _).alloc (Nat.le_refl _) _).drew
end Go.Proofs.YtnmlhjigiemfgaaDoor
