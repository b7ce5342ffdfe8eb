/- Contracts of impl.cutSign and impl.cutRange. -/
import Derived.Test.YthlmkeibaaobeaaDoorGlobs
import Derived.Test.YthlmkeibaaobeaaDoorDecText
import Derived.Test.YthlmkeibaaobeaaDoorShelf
import Derived.OwnWalk
import Derived.Laws.Rows
namespace Go.Proofs.YthlmkeibaaobeaaDoor
open Go.RowKit

theorem slice1 {q : ByteArray} {c : UInt8} {r : List UInt8} (h : q.data.toList = c :: r) (W : World) :
    (Instr.slice 9 (.string q) (some (.int .i64 1)) none none).run Tryd.prog W = .ok (.string (strOf r)) W := by
  have hs : 1 ≤ q.size := by have := congrArg List.length h; simp at this; omega
  rw [run_slice_string_l (w := W) (t := 9) (s := q) (kl := .i64) (l := 1) (ht := Tryd.underlying9) (h0 := by omega) (h1 := by omega)]
  have e : (q.extract 1 q.size).data.toList = r := by
    rw [Lib.extract_data, h]
    have := congrArg List.length h
    simp at this
    rw [List.take_of_length_le (by simp; omega)]; rfl
  have e3 : q.extract 1 q.size = strOf r := by
    have e2 : strOf ((q.extract 1 q.size).data.toList) = q.extract 1 q.size := by simp only [strOf, Array.toArray_toList]
    rw [← e2, e]
  rw [show (1 : Int).toNat = 1 from rfl, e3]
theorem index0 {q : ByteArray} {c : UInt8} {r : List UInt8} (h : q.data.toList = c :: r) : ∃ h : 0 < q.size, q[0]'h = c := by
  have hs : 0 < q.size := by have := congrArg List.length h; simp at this; omega
  refine ⟨hs, ?_⟩
  have := at_byte q 0 hs
  rw [h] at this
  simpa using this.symm
theorem empty_f {q : ByteArray} {c : UInt8} {r : List UInt8} (h : q.data.toList = c :: r) : q.toList.isEmpty = false := by
  rw [Lib.toList_data, h]; rfl
theorem sign_trim (l : List UInt8) : signL l = match Lib.trimPrefix l [92] with | [] => none | c :: r => some (c, r) := by
  cases l with
  | nil => rfl
  | cons c r =>
    by_cases h : c = 92
    · subst h
      have : Lib.trimPrefix (92 :: r) [92] = r := by simp [Lib.trimPrefix, Lib.hasPrefix]
      rw [this]
      cases r <;> rfl
    · have : Lib.trimPrefix (c :: r) [92] = c :: r := by
        have h2 : ([92] : List UInt8).isPrefixOf (c :: r) = false := by simp [List.isPrefixOf]; exact fun e => h e.symm
        unfold Lib.trimPrefix Lib.hasPrefix; rw [h2]; rfl
      rw [this, signL_plain r h]
theorem trim_is (l : List UInt8) (c : UInt8) : Lib.trimPrefix l [c] = if headIs c l then l.drop 1 else l := by
  cases l with
  | nil => rfl
  | cons d r =>
    by_cases h : d = c
    · subst h; simp [Lib.trimPrefix, Lib.hasPrefix, headIs]
    · have h2 : ([c] : List UInt8).isPrefixOf (d :: r) = false := by simp [List.isPrefixOf]; exact fun e => h e.symm
      unfold Lib.trimPrefix Lib.hasPrefix
      rw [h2]
      simp [headIs, h]
theorem has_is (l : List UInt8) (c : UInt8) : Lib.hasPrefix l [c] = headIs c l := by
  cases l with
  | nil => rfl
  | cons d r =>
    simp only [Lib.hasPrefix, List.isPrefixOf, headIs, Bool.and_true]
    rw [Bool.eq_iff_iff]; simp; exact eq_comm

set_option maxRecDepth 100000 in
set_option maxHeartbeats 4000000 in
theorem cutSign_none (s : ByteArray) (w : World) (h : signL s.data.toList = none) :
    Calls Tryd.prog 46 #[.string s] w fun e w' => e = .returned (.tuple #[.int .u8 0, .string (strOf []), .bool false]) ∧ Below w.heap.size w w' := by
  have CT := Lib.hid (fun W => Tryd.strings_TrimPrefix s ⟨#[92]⟩ W)
  rw [sign_trim] at h
  have ht : Lib.trimPrefix s.data.toList [92] = [] := by
    cases hh : Lib.trimPrefix s.data.toList [92] with
    | nil => rfl
    | cons c r => rw [hh] at h; cases h
  have CT2 := Lib.hid (show ∀ W : World, Calls Tryd.prog 62 #[.string s, .string ⟨#[92]⟩] W fun e w' => e = .returned (.string ⟨#[]⟩) ∧ w' = W from fun W => (CT.out W).mono fun e w' he => by
    rw [show (⟨#[92]⟩ : ByteArray).data.toList = [92] from rfl, ht] at he
    exact he)
  clear CT h ht
  go_enter Tryd.func46, Tryd.ntmps46
  go_wp2_with fail
  refine (CT2.out _).mono ?_
  rintro e W1 ⟨rfl, rfl⟩
  go_wp2
  go_ret3
  exact ⟨rfl, Below.refl _ _⟩
set_option maxRecDepth 100000 in
set_option maxHeartbeats 4000000 in
theorem cutSign_some (s : ByteArray) (w : World) (b : UInt8) (r : List UInt8) (h : signL s.data.toList = some (b, r)) :
    Calls Tryd.prog 46 #[.string s] w fun e w' => e = .returned (.tuple #[.int .u8 (b.toNat : Int), .string (strOf r), .bool true]) ∧ Below w.heap.size w w' := by
  have CT := Lib.hid (fun W => Tryd.strings_TrimPrefix s ⟨#[92]⟩ W)
  rw [sign_trim] at h
  have ht : Lib.trimPrefix s.data.toList [92] = b :: r := by
    cases hh : Lib.trimPrefix s.data.toList [92] with
    | nil => rw [hh] at h; cases h
    | cons c r2 => rw [hh] at h; cases h; rfl
  obtain ⟨q, hq⟩ : ∃ q, strOf (b :: r) = q := ⟨_, rfl⟩
  have hqd : q.data.toList = b :: r := by rw [← hq, strOf_data]
  have CT2 := Lib.hid (show ∀ W : World, Calls Tryd.prog 62 #[.string s, .string ⟨#[92]⟩] W fun e w' => e = .returned (.string q) ∧ w' = W from fun W => (CT.out W).mono fun e w' he => by
    rw [show (⟨#[92]⟩ : ByteArray).data.toList = [92] from rfl, ht] at he
    rw [← hq]
    exact he)
  have he := empty_f hqd
  obtain ⟨hx1, hx2⟩ := index0 hqd
  have hsl := fun W => slice1 hqd W
  clear CT h ht hq hqd
  go_enter Tryd.func46, Tryd.ntmps46
  go_wp2_with fail
  refine (CT2.out _).mono ?_
  rintro e W1 ⟨rfl, rfl⟩
  go_wp2
  go_quiet (fail)
  go_wp2
  go_ret3
  exact ⟨rfl, ⟨rfl, rfl, rfl, Nat.le_refl _, fun _ _ => rfl⟩⟩

/-- Two cells of a struct of the call's own. -/
def Two (W : World) (b : Nat) (v0 v1 : Value) : Prop := W.heap[b]? = some (.cells #[v0, v1] 83 (0, 0))
theorem Two.cell {W : World} {b : Nat} {v0 v1 : Value} (h : Two W b v0 v1) : W.cell? ⟨b, 0, none⟩ = some v0 ∧ W.cell? ⟨b, 1, none⟩ = some v1 ∧ W.frozen? ⟨b, 0, none⟩ = false ∧ W.frozen? ⟨b, 1, none⟩ = false := by
  unfold Two at h
  exact ⟨by simp [World.cell?, h], by simp [World.cell?, h], frozen_of_row W b 0 _ _ h, frozen_of_row W b 1 _ _ h⟩
theorem Two.set {W : World} {b : Nat} {v0 v1 : Value} (h : Two W b v0 v1) (u0 u1 : Value) : Two ((W.setCell ⟨b, 0, none⟩ u0).setCell ⟨b, 1, none⟩ u1) b u0 u1 := by
  unfold Two at *
  have h1 := heap_setCell_same W b 0 _ _ u0 h
  have h2 := heap_setCell_same _ b 1 _ _ u1 h1
  rw [h2]; rfl
theorem Two.new (w : World) (v0 v1 : Value) : Two (w.alloc (.cells #[v0, v1] 83)) w.heap.size v0 v1 := heap_alloc_new w _
theorem Two.on {W W' : World} {b : Nat} {v0 v1 : Value} {B : Nat} (h : Two W b v0 v1) (hb : Below B W W') (hB : b < B) : Two W' b v0 v1 := (hb.block b hB).trans h
theorem Two.drew {W : World} {b : Nat} {v0 v1 : Value} (h : Two W b v0 v1) : Two W.drew b v0 v1 := h

set_option maxRecDepth 100000 in
set_option maxHeartbeats 4000000 in
theorem cutRange_lone (s : ByteArray) (w : World) (h : signL s.data.toList = none) :
    Calls Tryd.prog 58 #[.string s] w fun e w' => e = .returned (.tuple #[.agg #[.int .u8 0, .int .u8 0], .string (strOf []), .bool false]) ∧ Below w.heap.size w w' := by
  have CS := Lib.hid (fun W => cutSign_none s W h)
  have CP := Lib.hid (show ∀ W : World, Calls Tryd.prog 29 #[.string (strOf []), .string ⟨#[45]⟩] W fun e w' => e = .returned (.tuple #[.string (strOf []), .bool false]) ∧ w' = W from fun W => Tryd.strings_CutPrefix (strOf []) ⟨#[45]⟩ W)
  clear h
  generalize hz : strOf [] = z at CS CP
  clear hz
  go_enter Tryd.func58, Tryd.ntmps58
  go_wp2_with fail
  refine (CS.out _).mono ?_
  rintro e W1 ⟨rfl, hb1⟩
  have hT := (Two.new w (.int .u8 0) (.int .u8 0)).on hb1 (by simp)
  obtain ⟨k0, k1, k2, k3⟩ := hT.cell
  obtain ⟨m0, m1, m2, m3⟩ := (hT.set (.int .u8 0) (.int .u8 0)).cell
  have HB := Lib.hid (((Below.refl w.heap.size w).alloc (Nat.le_refl _) (.cells #[.int .u8 0, .int .u8 0] 83)).trans (hb1.mono (by simp)))
  clear hT hb1
  go_wp2_with fail
  refine (CP.out _).mono ?_
  rintro e W2 ⟨rfl, rfl⟩
  go_wp2
  refine bodyPost_ret (v := .tuple #[.agg #[.int .u8 0, .int .u8 0], .string z, .bool false]) (by simp [results, Tryd.results58, go_sem, m0, m1]) rfl ⟨rfl, ?_⟩
  exact (HB.out.setCell (p := ⟨w.heap.size, 0, none⟩) (Nat.le_refl _) _).setCell (p := ⟨w.heap.size, 1, none⟩) (Nat.le_refl _) _
end Go.Proofs.YthlmkeibaaobeaaDoor
