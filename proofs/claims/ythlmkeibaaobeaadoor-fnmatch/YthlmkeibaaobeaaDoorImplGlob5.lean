/- impl.cutPiece. -/
import Derived.Test.YthlmkeibaaobeaaDoorImplGlob4
namespace Go.Proofs.YthlmkeibaaobeaaDoor
open Go.RowKit

/-- A piece as an interface value. -/
def PcAt (W : World) (B : Nat) (v : Value) : Pc → Prop
  | .star => v = .iface 57 (.agg #[])
  | .any => v = .iface 61 (.func (.func 44) #[] #[])
  | .sign b => v = .iface 59 (.int .u8 (b.toNat : Int))
  | .set t rs => ∃ c, v = .iface 61 c ∧ ClosAt W B t rs c
theorem PcAt.on {W W' : World} {B : Nat} {v : Value} {p : Pc} (h : PcAt W B v p) (hb : Below W.heap.size W W') : PcAt W' B v p := by
  cases p with
  | star => exact h
  | any => exact h
  | sign b => exact h
  | set t rs => obtain ⟨c, h1, h2⟩ := h; exact ⟨c, h1, h2.on hb⟩
theorem PcAt.mono {W : World} {B B' : Nat} {v : Value} {p : Pc} (h : PcAt W B v p) (hB : B' ≤ B) : PcAt W B' v p := by
  cases p with
  | star => exact h
  | any => exact h
  | sign b => exact h
  | set t rs => obtain ⟨c, h1, h2⟩ := h; exact ⟨c, h1, h2.mono hB⟩
/-- What cutPiece answers. -/
def PcRes (B : Nat) (l : List UInt8) (e : Ending) (w' : World) : Prop :=
  (pieceL l = none ∧ ∃ v q, e = .returned (.tuple #[v, .string q, .bool false])) ∨
  ∃ p k v, pieceL l = some (p, k) ∧ e = .returned (.tuple #[v, .string (strOf (l.drop k)), .bool true]) ∧ PcAt w' B v p
theorem concreteStar : Tryd.prog.concrete 57 = true := by kernel_rfl
theorem concreteSign : Tryd.prog.concrete 59 = true := by kernel_rfl
theorem set_res {r : List UInt8} : pieceL (91 :: r) = (rangesL (setB r).length (setB r)).map fun y => (.set (headIs 33 r) y.1, (91 :: r).length - y.2.length) := by
  rw [rangesL_eq _ _ true (Nat.le_refl _) (.inl rfl), pieceL_set]
  cases he : endL true (setB r) with
  | none => rfl
  | some m =>
    have h1 := (endL_facts _ _ _ _ (Nat.le_refl _) he).1
    have h2 := setN_le r
    simp only [Option.map_some]
    rw [setB_eq, List.length_drop] at h1
    rw [setB_eq]
    congr 2
    simp
    omega
theorem rangesL_tail {l : List UInt8} {rs : List (UInt8 × UInt8)} {q : List UInt8} (h : rangesL (setB l).length (setB l) = some (rs, q)) : (91 :: l).drop ((91 :: l).length - q.length) = q := by
  rw [rangesL_eq _ _ true (Nat.le_refl _) (.inl rfl)] at h
  obtain ⟨m, h1, h2⟩ := Option.map_eq_some_iff.1 h
  have h3 := (endL_facts _ _ _ _ (Nat.le_refl _) h1).1
  simp only [Prod.mk.injEq] at h2
  have h4 := setN_le l
  have e : q = (91 :: l).drop (m + setN l + 2) := by
    rw [← h2.2, setB_eq, List.drop_drop, List.drop_succ_cons]; congr 1; omega
  rw [setB_eq, List.length_drop] at h3
  rw [e]
  congr 1
  simp
  omega

set_option maxRecDepth 100000 in
set_option maxHeartbeats 8000000 in
theorem implCutPiece (s : ByteArray) (hs : s.size ≤ 60) (hne : s.data.toList ≠ []) (w : World) :
    Calls Tryd.prog 35 #[.string s] w fun e w' => PcRes w.heap.size s.data.toList e w' ∧ Below w.heap.size w w' := by
  obtain ⟨c, r, hd⟩ : ∃ c r, s.data.toList = c :: r := by
    cases h : s.data.toList with
    | nil => exact (hne h).elim
    | cons c r => exact ⟨c, r, rfl⟩
  clear hne
  obtain ⟨hx1, hx2⟩ := index0 hd
  have hsl := fun W => slice1 hd W
  have CSn := Lib.hid (fun (h : signL s.data.toList = none) W => cutSign_none s W h)
  have CSs := Lib.hid (fun b r (h : signL s.data.toList = some (b, r)) W => cutSign_some s W b r h)
  have hc1 := concretePiece
  have hc2 := concreteStar
  have hc3 := concreteSign
  rw [hd] at CSn CSs ⊢
  have hrs : (strOf r).size ≤ 60 := by
    have := congrArg List.length hd
    rw [strOf_size]; simp at this; omega
  clear hd
  by_cases h1 : c.toNat = 42
  · have g1 : ((c.toNat : Int) == 42) = true := byte_t h1
    obtain rfl := u8_is (c := 42) h1
    clear CSn CSs
    go_enter Tryd.func35, Tryd.ntmps35
    go_wp2
    go_quiet (fail)
    go_wp2
    go_ret3
    exact ⟨.inr ⟨_, _, _, pieceL_star r, rfl, rfl⟩, ⟨rfl, rfl, rfl, Nat.le_refl _, fun _ _ => rfl⟩⟩
  have g1 : ((c.toNat : Int) == 42) = false := byte_f h1
  by_cases h2 : c.toNat = 63
  · have g2 : ((c.toNat : Int) == 63) = true := byte_t h2
    obtain rfl := u8_is (c := 63) h2
    clear CSn CSs
    go_enter Tryd.func35, Tryd.ntmps35
    go_wp2
    go_quiet (fail)
    go_wp2
    go_ret3
    exact ⟨.inr ⟨_, _, _, pieceL_any r, rfl, rfl⟩, ⟨rfl, rfl, rfl, Nat.le_refl _, fun _ _ => rfl⟩⟩
  have g2 : ((c.toNat : Int) == 63) = false := byte_f h2
  by_cases h3 : c.toNat = 91
  · have g3 : ((c.toNat : Int) == 91) = true := byte_t h3
    obtain rfl := u8_is (c := 91) h3
    clear CSn CSs
    have CK := Lib.hid (fun W => implCutSet (strOf r) hrs W)
    rw [strOf_data] at CK
    generalize strOf r = y at CK hsl
    go_enter Tryd.func35, Tryd.ntmps35
    go_wp2_with fail
    refine (CK.out _).mono ?_
    rintro e W1 ⟨hres, hb1⟩
    rcases hres with ⟨ht, rfl⟩ | ⟨rs, q, cv, ht, rfl, hcl⟩
    · have HE := Lib.hid (show pieceL (91 :: r) = none by rw [set_res, ht]; rfl)
      clear ht
      go_wp2
      go_ret3
      exact ⟨.inl ⟨HE.out, _, _, rfl⟩, hb1⟩
    · have HE := Lib.hid (show pieceL (91 :: r) = some (.set (headIs 33 r) rs, (91 :: r).length - q.length) by rw [set_res, ht]; rfl)
      have HQ := Lib.hid (rangesL_tail ht)
      have HC := Lib.hid hcl
      clear ht hcl
      go_wp2
      go_ret3
      exact ⟨.inr ⟨_, _, _, HE.out, (by rw [HQ.out]; rfl), ⟨cv, rfl, HC.out⟩⟩, hb1⟩
  have g3 : ((c.toNat : Int) == 91) = false := byte_f h3
  have n1 : c ≠ 42 := fun e => h1 (by rw [e]; rfl)
  have n2 : c ≠ 63 := fun e => h2 (by rw [e]; rfl)
  have n3 : c ≠ 91 := fun e => h3 (by rw [e]; rfl)
  cases hsg : signL (c :: r) with
  | none =>
    have CS := Lib.hid (CSn.out hsg)
    have HE := Lib.hid (show pieceL (c :: r) = none by
      rcases signL_none hsg with h | h
      · cases h
      · rw [h]; rfl)
    clear CSn CSs hsg n1 n2 n3 h1 h2 h3
    generalize strOf [] = y at CS
    go_enter Tryd.func35, Tryd.ntmps35
    go_wp2_with fail
    refine (CS.out _).mono ?_
    rintro e W1 ⟨rfl, hb1⟩
    go_wp2
    go_ret3
    exact ⟨.inl ⟨HE.out, _, _, rfl⟩, hb1⟩
  | some z =>
    obtain ⟨b, q⟩ := z
    have CS := Lib.hid (CSs.out b q hsg)
    have HE := Lib.hid (show ∃ k, pieceL (c :: r) = some (.sign b, k) ∧ (c :: r).drop k = q by
      rcases signL_cases hsg with h | ⟨hb, h⟩
      · rw [h]; exact ⟨2, rfl, rfl⟩
      · cases h; exact ⟨1, pieceL_sign _ n1 n2 n3 hb, rfl⟩)
    clear CSn CSs hsg n1 n2 n3 h1 h2 h3
    go_enter Tryd.func35, Tryd.ntmps35
    go_wp2_with fail
    refine (CS.out _).mono ?_
    rintro e W1 ⟨rfl, hb1⟩
    go_wp2
    go_ret3
    obtain ⟨k, e1, e2⟩ := HE.out
    exact ⟨.inr ⟨_, k, _, e1, (by rw [e2]; rfl), rfl⟩, hb1⟩
end Go.Proofs.YthlmkeibaaobeaaDoor
