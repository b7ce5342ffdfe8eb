/- The contract of impl.cutRange. -/
import Derived.Test.YthlmkeibaaobeaaDoorImplGlob
namespace Go.Proofs.YthlmkeibaaobeaaDoor
open Go.RowKit

theorem cutHyphen (rest : List UInt8) (W : World) : Calls Tryd.prog 29 #[.string (strOf rest), .string ⟨#[45]⟩] W fun e w' => e = .returned (.tuple #[.string (strOf (if headIs 45 rest then rest.drop 1 else rest)), .bool (headIs 45 rest)]) ∧ w' = W := by
  refine (Tryd.strings_CutPrefix (strOf rest) ⟨#[45]⟩ W).mono fun e w' he => ?_
  rw [strOf_data, show (⟨#[45]⟩ : ByteArray).data.toList = [45] from rfl, trim_is, has_is] at he
  exact he
theorem hasEnd (l : List UInt8) (W : World) : Calls Tryd.prog 57 #[.string (strOf l), .string ⟨#[93]⟩] W fun e w' => e = .returned (.bool (headIs 93 l)) ∧ w' = W := by
  refine (Tryd.strings_HasPrefix (strOf l) ⟨#[93]⟩ W).mono fun e w' he => ?_
  rw [strOf_data, show (⟨#[93]⟩ : ByteArray).data.toList = [93] from rfl, has_is] at he
  exact he

set_option maxRecDepth 100000 in
set_option maxHeartbeats 4000000 in
theorem cutRange_one (s : ByteArray) (w : World) (lo : UInt8) (rest : List UInt8) (h : signL s.data.toList = some (lo, rest)) (h2 : ¬ (headIs 45 rest = true ∧ headIs 93 (rest.drop 1) = false)) :
    Calls Tryd.prog 58 #[.string s] w fun e w' => e = .returned (.tuple #[.agg #[.int .u8 (lo.toNat : Int), .int .u8 (lo.toNat : Int)], .string (strOf rest), .bool true]) ∧ Below w.heap.size w w' := by
  have CS := Lib.hid (fun W => cutSign_some s W lo rest h)
  have CP := Lib.hid (fun W => cutHyphen rest W)
  have CH := Lib.hid (fun W => hasEnd (rest.drop 1) W)
  clear h
  generalize hz : strOf rest = z at CS CP
  have h3 : headIs 45 rest = false ∨ (headIs 45 rest = true ∧ headIs 93 (rest.drop 1) = true) := by
    cases h45 : headIs 45 rest with
    | false => exact .inl rfl
    | true =>
      cases h93 : headIs 93 (rest.drop 1) with
      | true => exact .inr ⟨rfl, rfl⟩
      | false => exact (h2 ⟨h45, h93⟩).elim
  clear h2
  rcases h3 with h3 | ⟨h3, h4⟩
  · rw [h3] at CP
    simp only [Bool.false_eq_true, if_false] at CP
    rw [hz] at CP
    clear hz CH h3
    go_enter Tryd.func58, Tryd.ntmps58
    go_wp2_with fail
    refine (CS.out _).mono ?_
    rintro e W1 ⟨rfl, hb1⟩
    have hT := (Two.new w (.int .u8 0) (.int .u8 0)).on hb1 (by simp)
    obtain ⟨k0, k1, k2, k3⟩ := hT.cell
    obtain ⟨m0, m1, m2, m3⟩ := (hT.set (.int .u8 (lo.toNat : Int)) (.int .u8 (lo.toNat : Int))).cell
    have HB := Lib.hid (((Below.refl w.heap.size w).alloc (Nat.le_refl _) (.cells #[.int .u8 0, .int .u8 0] 83)).trans (hb1.mono (by simp)))
    clear hT hb1
    go_wp2_with fail
    refine (CP.out _).mono ?_
    rintro e W2 ⟨rfl, rfl⟩
    go_wp2
    refine bodyPost_ret (v := .tuple #[.agg #[.int .u8 (lo.toNat : Int), .int .u8 (lo.toNat : Int)], .string z, .bool true]) (by simp [results, Tryd.results58, go_sem, m0, m1]) rfl ⟨rfl, ?_⟩
    exact (HB.out.setCell (p := ⟨w.heap.size, 0, none⟩) (Nat.le_refl _) _).setCell (p := ⟨w.heap.size, 1, none⟩) (Nat.le_refl _) _
  · rw [h3] at CP
    rw [h4] at CH
    simp only [if_true] at CP
    generalize hy : strOf (rest.drop 1) = y at CP CH
    clear hz hy h3 h4
    go_enter Tryd.func58, Tryd.ntmps58
    go_wp2_with fail
    refine (CS.out _).mono ?_
    rintro e W1 ⟨rfl, hb1⟩
    have hT := (Two.new w (.int .u8 0) (.int .u8 0)).on hb1 (by simp)
    obtain ⟨k0, k1, k2, k3⟩ := hT.cell
    obtain ⟨m0, m1, m2, m3⟩ := (hT.set (.int .u8 (lo.toNat : Int)) (.int .u8 (lo.toNat : Int))).cell
    have HB := Lib.hid (((Below.refl w.heap.size w).alloc (Nat.le_refl _) (.cells #[.int .u8 0, .int .u8 0] 83)).trans (hb1.mono (by simp)))
    clear hT hb1
    go_wp2_with fail
    refine (CP.out _).mono ?_
    rintro e W2 ⟨rfl, rfl⟩
    go_wp2_with fail
    refine (CH.out _).mono ?_
    rintro e W2 ⟨rfl, rfl⟩
    go_wp2
    refine bodyPost_ret (v := .tuple #[.agg #[.int .u8 (lo.toNat : Int), .int .u8 (lo.toNat : Int)], .string z, .bool true]) (by simp [results, Tryd.results58, go_sem, m0, m1]) rfl ⟨rfl, ?_⟩
    exact (HB.out.setCell (p := ⟨w.heap.size, 0, none⟩) (Nat.le_refl _) _).setCell (p := ⟨w.heap.size, 1, none⟩) (Nat.le_refl _) _

set_option maxRecDepth 100000 in
set_option maxHeartbeats 4000000 in
theorem cutRange_two (s : ByteArray) (w : World) (lo : UInt8) (to : List UInt8) (h : signL s.data.toList = some (lo, 45 :: to)) (h2 : headIs 93 to = false) (hi : UInt8) (r : List UInt8) (ok : Bool)
    (C2 : ∀ W, Calls Tryd.prog 46 #[.string (strOf to)] W fun e w' => e = .returned (.tuple #[.int .u8 (hi.toNat : Int), .string (strOf r), .bool ok]) ∧ Below W.heap.size W w') :
    Calls Tryd.prog 58 #[.string s] w fun e w' => e = .returned (.tuple #[.agg #[.int .u8 (lo.toNat : Int), .int .u8 (hi.toNat : Int)], .string (strOf r), .bool ok]) ∧ Below w.heap.size w w' := by
  have CS := Lib.hid (fun W => cutSign_some s W lo (45 :: to) h)
  have CP := Lib.hid (show ∀ W : World, Calls Tryd.prog 29 #[.string (strOf (45 :: to)), .string ⟨#[45]⟩] W fun e w' => e = .returned (.tuple #[.string (strOf to), .bool true]) ∧ w' = W from fun W => cutHyphen (45 :: to) W)
  have CH := Lib.hid (fun W => hasEnd to W)
  rw [h2] at CH
  have C2' := Lib.hid C2
  clear h h2 C2
  generalize hz : strOf (45 :: to) = z at CS CP
  generalize hy : strOf to = y at CP CH C2'
  generalize hx : strOf r = x at C2'
  clear hz hy hx
  go_enter Tryd.func58, Tryd.ntmps58
  go_wp2_with fail
  refine (CS.out _).mono ?_
  rintro e W1 ⟨rfl, hb1⟩
  have HT1 := Lib.hid ((Two.new w (.int .u8 0) (.int .u8 0)).on hb1 (by simp))
  have HB1 := Lib.hid (((Below.refl w.heap.size w).alloc (Nat.le_refl _) (.cells #[.int .u8 0, .int .u8 0] 83)).trans (hb1.mono (by simp)))
  have hlt1 : w.heap.size < W1.heap.size := by have := hb1.size; simp at this; omega
  clear hb1
  go_wp2_with fail
  refine (CP.out _).mono ?_
  rintro e W2 ⟨rfl, rfl⟩
  go_wp2_with fail
  refine (CH.out _).mono ?_
  rintro e W2 ⟨rfl, rfl⟩
  go_wp2_with fail
  refine (C2'.out _).mono ?_
  rintro e W3 ⟨rfl, hb3⟩
  have hT := HT1.out.on hb3 hlt1
  obtain ⟨k0, k1, k2, k3⟩ := hT.cell
  obtain ⟨m0, m1, m2, m3⟩ := (hT.set (.int .u8 (lo.toNat : Int)) (.int .u8 (hi.toNat : Int))).cell
  have HB := Lib.hid (HB1.out.trans (hb3.mono HB1.out.size))
  clear hT hb3 HB1 HT1
  go_wp2
  refine bodyPost_ret (v := .tuple #[.agg #[.int .u8 (lo.toNat : Int), .int .u8 (hi.toNat : Int)], .string x, .bool ok]) (by simp [results, Tryd.results58, go_sem, m0, m1]) rfl ⟨rfl, ?_⟩
  exact (HB.out.setCell (p := ⟨w.heap.size, 0, none⟩) (Nat.le_refl _) _).setCell (p := ⟨w.heap.size, 1, none⟩) (Nat.le_refl _) _

/-- impl.cutRange. -/
theorem cutRange_some (s : ByteArray) (w : World) (x : UInt8 × UInt8) (r : List UInt8) (h : rangeL s.data.toList = some (x, r)) :
    Calls Tryd.prog 58 #[.string s] w fun e w' => e = .returned (.tuple #[.agg #[.int .u8 (x.1.toNat : Int), .int .u8 (x.2.toNat : Int)], .string (strOf r), .bool true]) ∧ Below w.heap.size w w' := by
  cases hs : signL s.data.toList with
  | none => rw [rangeL_none hs] at h; cases h
  | some y =>
    obtain ⟨lo, rest⟩ := y
    by_cases hc : headIs 45 rest = true ∧ headIs 93 (rest.drop 1) = false
    · obtain ⟨to, rfl⟩ := headIs_t hc.1
      have h93 : headIs 93 to = false := hc.2
      rw [rangeL_two hs h93] at h
      cases hs2 : signL to with
      | none => simp [hs2] at h
      | some z =>
        obtain ⟨hi, r'⟩ := z
        simp [hs2] at h
        obtain ⟨rfl, rfl⟩ := h
        exact cutRange_two s w lo to hs h93 hi r' true fun W => cutSign_some (strOf to) W hi r' (by rw [strOf_data]; exact hs2)
    · rw [rangeL_one hs hc] at h
      cases h
      exact cutRange_one s w lo _ hs hc
theorem cutRange_none (s : ByteArray) (w : World) (h : rangeL s.data.toList = none) :
    Calls Tryd.prog 58 #[.string s] w fun e w' => (∃ a : Int, e = .returned (.tuple #[.agg #[.int .u8 a, .int .u8 0], .string (strOf []), .bool false])) ∧ Below w.heap.size w w' := by
  cases hs : signL s.data.toList with
  | none => exact (cutRange_lone s w hs).mono fun e w' h => ⟨⟨0, h.1⟩, h.2⟩
  | some y =>
    obtain ⟨lo, rest⟩ := y
    by_cases hc : headIs 45 rest = true ∧ headIs 93 (rest.drop 1) = false
    · obtain ⟨to, rfl⟩ := headIs_t hc.1
      have h93 : headIs 93 to = false := hc.2
      rw [rangeL_two hs h93] at h
      cases hs2 : signL to with
      | none => exact (cutRange_two s w lo to hs h93 0 [] false fun W => cutSign_none (strOf to) W (by rw [strOf_data]; exact hs2)).mono fun e w' h => ⟨⟨_, h.1⟩, h.2⟩
      | some z => simp [hs2] at h
    · rw [rangeL_one hs hc] at h; cases h
end Go.Proofs.YthlmkeibaaobeaaDoor
