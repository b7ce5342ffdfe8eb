/- impl.cutSet. impl.cutPiece. -/
import Derived.Test.YtipepbnmllbonaaGreatDoorM17
namespace Go.Proofs.YtipepbnmllbonaaGreatDoor
open Go.RowKit

/-- What cutSet answers. -/
def SetRes (B : Nat) (T : Option (List (UInt8 × UInt8) × List UInt8)) (t : Bool) (e : Ending) (w' : World) : Prop :=
  (T = none ∧ e = .returned (.tuple #[.nilIface, .string (strOf []), .bool false])) ∨
  ∃ rs r c, T = some (rs, r) ∧ e = .returned (.tuple #[.iface 175 c, .string (strOf r), .bool true]) ∧ ClosAt w' B t rs c
theorem SetAt.clos {w W : World} {t : Bool} {acc : List (UInt8 × UInt8)} {v : Value} (h : SetAt w W t acc v) (k : Nat) :
    ClosAt (W.drewN k) w.heap.size t acc (.func (.func 216) #[] #[.pointer (some ⟨w.heap.size + 1, 0, none⟩), .pointer (some ⟨w.heap.size, 0, none⟩)]) := by
  refine ClosAt.mono (B := w.heap.size) ⟨w.heap.size, w.heap.size + 1, v, rfl, Nat.le_refl _, by omega, h.b0, h.b1, ?_⟩ (Nat.le_refl _)
  refine ⟨h.row.1, ?_⟩
  rcases h.row.2 with hh | ⟨g, cap, cur, hv, hb, rest⟩
  · exact .inl hh
  · exact .inr ⟨g, cap, cur, hv, by omega, rest⟩
theorem RangeRow.shape {w : World} {B : Nat} {v : Value} {ps : List (UInt8 × UInt8)} (h : RangeRow w B v ps) : ∃ a cap, v = .slice a ps.length cap := by
  rcases h.2 with ⟨hv, hn⟩ | ⟨g, cap, cur, hv, _⟩
  · exact ⟨none, 0, by rw [hv, hn]⟩
  · exact ⟨_, _, hv⟩
theorem concretePiece : Tryz.prog.concrete 175 = true := by kernel_rfl

set_option maxRecDepth 100000 in
set_option maxHeartbeats 8000000 in
theorem implCutSet (s : ByteArray) (hs : s.size ≤ 60) (w : World) :
    Calls Tryz.prog 185 #[.string s] w fun e w' => SetRes w.heap.size (rangesL (setB s.data.toList).length (setB s.data.toList)) (headIs 33 s.data.toList) e w' ∧ Below w.heap.size w w' := by
  obtain ⟨j0, kj, kz0, kz1, kz2⟩ := info_parts infoR
  have CB := Lib.hid (fun W => cutBang s W)
  have hlb : (setB s.data.toList).length ≤ 60 := by rw [setB_eq, List.length_drop]; simp; omega
  generalize headIs 33 s.data.toList = t at CB
  generalize setB s.data.toList = L0 at CB hlb
  obtain ⟨T, hT⟩ : ∃ T, rangesL L0.length L0 = T := ⟨_, rfl⟩
  rw [hT]
  have HT := Lib.hid (hT.symm.trans (contL_start L0).symm)
  have hcp := concretePiece
  clear hT
  have HS0 := Lib.hid (SetAt.start w t)
  go_enter Tryz.func185, Tryz.ntmps185
  go_wp2_with fail
  refine (CB.out _).mono ?_
  rintro e W0 ⟨rfl, rfl⟩
  go_wp2
  go_loopw [5, 8, 9, 10] (fun rv _ _ _ wr => ∃ acc l v, rv = .string (strOf l) ∧ SetAt W0 wr t acc v ∧ acc.length + l.length ≤ 60 ∧ Hid (T = contL acc l)) (fun rv _ _ _ _ => strN rv)
  case atStart => exact ⟨[], L0, _, rfl, HS0.out, by simpa using hlb, HT⟩
  case round =>
    clear HT HS0 CB hlb
    obtain ⟨acc, l, v, rfl, hS, hlen, HR⟩ := hrel
    obtain ⟨a, cap, rfl⟩ := hS.row.shape
    obtain ⟨k1, k2⟩ := hS.b1.cell
    have HS := Lib.hid hS
    have CH := Lib.hid (fun W => hasEnd l W)
    have hsl : (strOf l).data.toList = l := strOf_data l
    have hlsz : (strOf l).size = l.length := strOf_size l
    have CR1 := Lib.hid (fun x r (h : rangeL l = some (x, r)) W => cutRange_some (strOf l) W x r (by rw [hsl]; exact h))
    have CR2 := Lib.hid (fun (h : rangeL l = none) W => cutRange_none (strOf l) W (by rw [hsl]; exact h))
    have hlt : W0.heap.size + 1 < wr.heap.size := hS.b1.lt
    generalize hy : strOf l = y at CH CR1 CR2 hlsz hsl
    clear hS hsl
    by_cases hfin : acc ≠ [] ∧ headIs 93 l = true
    · have hne : ((acc.length : Int) == 0) = false := by
        rw [beq_eq_false_iff_ne]; intro e; exact hfin.1 (List.eq_nil_of_length_eq_zero (by omega))
      rw [hfin.2] at CH
      have HE := Lib.hid (HR.out.trans (contL_end hfin.1 hfin.2))
      obtain ⟨r, hr⟩ := headIs_t hfin.2
      have hsl1 := fun W => slice1 (q := y) (c := 93) (r := r) (by rw [← hy, strOf_data, hr]) W
      have HRr := Lib.hid (show l.drop 1 = r by rw [hr]; rfl)
      clear hfin hr CR1 CR2 HR
      go_wp2_with fail
      refine (CH.out _).mono ?_
      rintro e W1 ⟨rfl, rfl⟩
      go_wp2
      go_quiet (fail)
      go_wp2
      go_ret3
      exact ⟨.inr ⟨acc, r, _, by rw [HE.out, HRr.out], rfl, HS.out.clos _⟩, HS.out.bel.trans ⟨rfl, rfl, rfl, Nat.le_refl _, fun _ _ => rfl⟩⟩
    have hgo : acc = [] ∨ headIs 93 l = false := by
      by_cases h1 : acc = []
      · exact .inl h1
      · cases h2 : headIs 93 l with
        | false => exact .inr rfl
        | true => exact (hfin ⟨h1, h2⟩).elim
    have hcase : ((acc.length : Int) == 0) = true ∨ (((acc.length : Int) == 0) = false ∧ headIs 93 l = false) := by
      rcases hgo with h | h
      · left; rw [h]; rfl
      · cases hz : ((acc.length : Int) == 0) with
        | true => exact .inl rfl
        | false => exact .inr ⟨rfl, h⟩
    clear hfin
    cases hr : rangeL l with
    | none =>
      have HE := Lib.hid (HR.out.trans (contL_none hgo hr))
      have CR := Lib.hid (CR2.out hr)
      clear hgo hr CR1 CR2 HR
      rcases hcase with hne | ⟨hne, h93⟩
      · go_wp2_with fail
        refine (CR.out _).mono ?_
        rintro e W1 ⟨⟨q, rfl⟩, hb1⟩
        have HB1 := Lib.hid (HS.out.bel.trans (hb1.mono HS.out.bel.size))
        have hsz1 := HB1.out.size
        clear hb1
        go_wp2
        go_ret3
        exact ⟨.inl ⟨HE.out, rfl⟩, HB1.out.alloc hsz1 _⟩
      · rw [h93] at CH
        clear h93
        go_wp2_with fail
        refine (CH.out _).mono ?_
        rintro e W1 ⟨rfl, rfl⟩
        go_wp2_with fail
        refine (CR.out _).mono ?_
        rintro e W1 ⟨⟨q, rfl⟩, hb1⟩
        have HB1 := Lib.hid (HS.out.bel.trans (hb1.mono HS.out.bel.size))
        have hsz1 := HB1.out.size
        clear hb1
        go_wp2
        go_ret3
        exact ⟨.inl ⟨HE.out, rfl⟩, HB1.out.alloc hsz1 _⟩
    | some z =>
      obtain ⟨x, r⟩ := z
      have hrl : r.length < l.length := (rangeL_facts true (.inl rfl) hr).1
      have HE := Lib.hid (HR.out.trans (contL_step hgo hr))
      have CR := Lib.hid (CR1.out x r hr)
      clear hgo hr CR1 CR2 HR
      rcases hcase with hne | ⟨hne, h93⟩
      · clear CH
        go_wp2_with fail
        refine (CR.out _).mono ?_
        rintro e W1 ⟨rfl, hb1⟩
        have HS1 := Lib.hid (HS.out.on hb1)
        obtain ⟨q1, q2⟩ := HS1.out.b1.cell
        have hlt1 : W0.heap.size + 1 < W1.heap.size := HS1.out.b1.lt
        have hne1 : W0.heap.size + 1 ≠ W1.heap.size := by omega
        clear hb1 HS k1 k2
        go_wp2_with (at_builtin; refine wpList_append_own _ rfl _ _ 223 rfl (W0.heap.size + 2) 225 j0 (.agg #[.int .u8 0, .int .u8 0]) 2 2 Tryz.underlying223 kj kz0 kz1 kz2 rfl (by decide) _ _ _ rfl ((HS1.out.row.own.alloc _).alloc _) ⟨W1.heap.size + 1, 0, none⟩ 1 1 [.int .u8 x.1.toNat, .int .u8 x.2.toNat] rfl rfl (fun j u hj => by have := cell_two_new (W1.alloc (.cells #[.int .u8 x.1.toNat, .int .u8 x.2.toNat] 225)) _ _ 225 j u hj; simpa using this) (by simp [Value.oneCell']) (by unfold maxLen; omega) (by omega) (by simp; omega) ?_; intro v' w1 hown' hgrow _; obtain ⟨a', cap', hv'⟩ := (RangeRow.snoc (p := x) hown').shape; rw [List.length_append, List.length_singleton] at hv'; subst hv'; have HM := Lib.hid (SetAt.more (HS1.out.on (((Below.refl _ _).alloc (Nat.le_refl _) (.cells #[.int .u8 x.1.toNat, .int .u8 x.2.toNat] 225)).alloc (by simp) (.cells #[.int .u8 x.1.toNat, .int .u8 x.2.toNat] 225))) hgrow hown'); obtain ⟨p1, p2⟩ := HM.out.1.cell; clear hown' hgrow)
        go_roundw
        case rel => exact ⟨acc ++ [x], r, _, rfl, HM.out.2, by simp; omega, HE⟩
        case measure => simp [strN, strOf_size]; omega
      · rw [h93] at CH
        clear h93
        go_wp2_with fail
        refine (CH.out _).mono ?_
        rintro e W1 ⟨rfl, rfl⟩
        clear CH
        go_wp2_with fail
        refine (CR.out _).mono ?_
        rintro e W1 ⟨rfl, hb1⟩
        have HS1 := Lib.hid (HS.out.on hb1)
        obtain ⟨q1, q2⟩ := HS1.out.b1.cell
        have hlt1 : W0.heap.size + 1 < W1.heap.size := HS1.out.b1.lt
        have hne1 : W0.heap.size + 1 ≠ W1.heap.size := by omega
        clear hb1 HS k1 k2
        go_wp2_with (at_builtin; refine wpList_append_own _ rfl _ _ 223 rfl (W0.heap.size + 2) 225 j0 (.agg #[.int .u8 0, .int .u8 0]) 2 2 Tryz.underlying223 kj kz0 kz1 kz2 rfl (by decide) _ _ _ rfl ((HS1.out.row.own.alloc _).alloc _) ⟨W1.heap.size + 1, 0, none⟩ 1 1 [.int .u8 x.1.toNat, .int .u8 x.2.toNat] rfl rfl (fun j u hj => by have := cell_two_new (W1.alloc (.cells #[.int .u8 x.1.toNat, .int .u8 x.2.toNat] 225)) _ _ 225 j u hj; simpa using this) (by simp [Value.oneCell']) (by unfold maxLen; omega) (by omega) (by simp; omega) ?_; intro v' w1 hown' hgrow _; obtain ⟨a', cap', hv'⟩ := (RangeRow.snoc (p := x) hown').shape; rw [List.length_append, List.length_singleton] at hv'; subst hv'; have HM := Lib.hid (SetAt.more (HS1.out.on (((Below.refl _ _).alloc (Nat.le_refl _) (.cells #[.int .u8 x.1.toNat, .int .u8 x.2.toNat] 225)).alloc (by simp) (.cells #[.int .u8 x.1.toNat, .int .u8 x.2.toNat] 225))) hgrow hown'); obtain ⟨p1, p2⟩ := HM.out.1.cell; clear hown' hgrow)
        go_roundw
        case rel => exact ⟨acc ++ [x], r, _, rfl, HM.out.2, by simp; omega, HE⟩
        case measure => simp [strN, strOf_size]; omega
end Go.Proofs.YtipepbnmllbonaaGreatDoor
namespace Go.Proofs.YtipepbnmllbonaaGreatDoor
open Go.RowKit

/-- A piece as an interface value. -/
def PcAt (W : World) (B : Nat) (v : Value) : Pc → Prop
  | .star => v = .iface 171 (.agg #[])
  | .any => v = .iface 175 (.func (.func 184) #[] #[])
  | .sign b => v = .iface 173 (.int .u8 (b.toNat : Int))
  | .set t rs => ∃ c, v = .iface 175 c ∧ ClosAt W B t rs c
theorem PcAt.on {W W' : World} {B : Nat} {v : Value} {p : Pc} (h : PcAt W B v p) (hb : Below W.heap.size W W') : PcAt W' B v p := by
  cases p with
  | star => exact h
  | any => exact h
  | sign b => exact h
  | set t rs => obtain ⟨c, h1, h2⟩ := h; exact ⟨c, h1, h2.on hb⟩
theorem PcAt.mono {W : World} {B B' : Nat} {v : Value} {p : Pc} (h : PcAt W B v p) (hB : B' ≤ B) : PcAt W B' v p := by
  cases p with
  | star => exact h
  | any => exact h
  | sign b => exact h
  | set t rs => obtain ⟨c, h1, h2⟩ := h; exact ⟨c, h1, h2.mono hB⟩
/-- What cutPiece answers. -/
def PcRes (B : Nat) (l : List UInt8) (e : Ending) (w' : World) : Prop :=
  (pieceL l = none ∧ ∃ v q, e = .returned (.tuple #[v, .string q, .bool false])) ∨
  ∃ p k v, pieceL l = some (p, k) ∧ e = .returned (.tuple #[v, .string (strOf (l.drop k)), .bool true]) ∧ PcAt w' B v p
theorem concreteStar : Tryz.prog.concrete 171 = true := by kernel_rfl
theorem concreteSign : Tryz.prog.concrete 173 = true := by kernel_rfl
theorem set_res {r : List UInt8} : pieceL (91 :: r) = (rangesL (setB r).length (setB r)).map fun y => (.set (headIs 33 r) y.1, (91 :: r).length - y.2.length) := by
  rw [rangesL_eq _ _ true (Nat.le_refl _) (.inl rfl), pieceL_set]
  cases he : endL true (setB r) with
  | none => rfl
  | some m =>
    have h1 := (endL_facts _ _ _ _ (Nat.le_refl _) he).1
    have h2 := setN_le r
    simp only [Option.map_some]
    rw [setB_eq, List.length_drop] at h1
    rw [setB_eq]
    congr 2
    simp
    omega
theorem rangesL_tail {l : List UInt8} {rs : List (UInt8 × UInt8)} {q : List UInt8} (h : rangesL (setB l).length (setB l) = some (rs, q)) : (91 :: l).drop ((91 :: l).length - q.length) = q := by
  rw [rangesL_eq _ _ true (Nat.le_refl _) (.inl rfl)] at h
  obtain ⟨m, h1, h2⟩ := Option.map_eq_some_iff.1 h
  have h3 := (endL_facts _ _ _ _ (Nat.le_refl _) h1).1
  simp only [Prod.mk.injEq] at h2
  have h4 := setN_le l
  have e : q = (91 :: l).drop (m + setN l + 2) := by
    rw [← h2.2, setB_eq, List.drop_drop, List.drop_succ_cons]; congr 1; omega
  rw [setB_eq, List.length_drop] at h3
  rw [e]
  congr 1
  simp
  omega

set_option maxRecDepth 100000 in
set_option maxHeartbeats 8000000 in
theorem implCutPiece (s : ByteArray) (hs : s.size ≤ 60) (hne : s.data.toList ≠ []) (w : World) :
    Calls Tryz.prog 159 #[.string s] w fun e w' => PcRes w.heap.size s.data.toList e w' ∧ Below w.heap.size w w' := by
  obtain ⟨c, r, hd⟩ : ∃ c r, s.data.toList = c :: r := by
    cases h : s.data.toList with
    | nil => exact (hne h).elim
    | cons c r => exact ⟨c, r, rfl⟩
  clear hne
  obtain ⟨hx1, hx2⟩ := index0 hd
  have hsl := fun W => slice1 hd W
  have CSn := Lib.hid (fun (h : signL s.data.toList = none) W => cutSign_none s W h)
  have CSs := Lib.hid (fun b r (h : signL s.data.toList = some (b, r)) W => cutSign_some s W b r h)
  have hc1 := concretePiece
  have hc2 := concreteStar
  have hc3 := concreteSign
  rw [hd] at CSn CSs ⊢
  have hrs : (strOf r).size ≤ 60 := by
    have := congrArg List.length hd
    rw [strOf_size]; simp at this; omega
  clear hd
  by_cases h1 : c.toNat = 42
  · have g1 : ((c.toNat : Int) == 42) = true := byte_t h1
    obtain rfl := u8_is (c := 42) h1
    clear CSn CSs
    go_enter Tryz.func159, Tryz.ntmps159
    go_wp2
    go_quiet (fail)
    go_wp2
    go_ret3
    exact ⟨.inr ⟨_, _, _, pieceL_star r, rfl, rfl⟩, ⟨rfl, rfl, rfl, Nat.le_refl _, fun _ _ => rfl⟩⟩
  have g1 : ((c.toNat : Int) == 42) = false := byte_f h1
  by_cases h2 : c.toNat = 63
  · have g2 : ((c.toNat : Int) == 63) = true := byte_t h2
    obtain rfl := u8_is (c := 63) h2
    clear CSn CSs
    go_enter Tryz.func159, Tryz.ntmps159
    go_wp2
    go_quiet (fail)
    go_wp2
    go_ret3
    exact ⟨.inr ⟨_, _, _, pieceL_any r, rfl, rfl⟩, ⟨rfl, rfl, rfl, Nat.le_refl _, fun _ _ => rfl⟩⟩
  have g2 : ((c.toNat : Int) == 63) = false := byte_f h2
  by_cases h3 : c.toNat = 91
  · have g3 : ((c.toNat : Int) == 91) = true := byte_t h3
    obtain rfl := u8_is (c := 91) h3
    clear CSn CSs
    have CK := Lib.hid (fun W => implCutSet (strOf r) hrs W)
    rw [strOf_data] at CK
    generalize strOf r = y at CK hsl
    go_enter Tryz.func159, Tryz.ntmps159
    go_wp2_with fail
    refine (CK.out _).mono ?_
    rintro e W1 ⟨hres, hb1⟩
    rcases hres with ⟨ht, rfl⟩ | ⟨rs, q, cv, ht, rfl, hcl⟩
    · have HE := Lib.hid (show pieceL (91 :: r) = none by rw [set_res, ht]; rfl)
      clear ht
      go_wp2
      go_ret3
      exact ⟨.inl ⟨HE.out, _, _, rfl⟩, hb1⟩
    · have HE := Lib.hid (show pieceL (91 :: r) = some (.set (headIs 33 r) rs, (91 :: r).length - q.length) by rw [set_res, ht]; rfl)
      have HQ := Lib.hid (rangesL_tail ht)
      have HC := Lib.hid hcl
      clear ht hcl
      go_wp2
      go_ret3
      exact ⟨.inr ⟨_, _, _, HE.out, (by rw [HQ.out]; rfl), ⟨cv, rfl, HC.out⟩⟩, hb1⟩
  have g3 : ((c.toNat : Int) == 91) = false := byte_f h3
  have n1 : c ≠ 42 := fun e => h1 (by rw [e]; rfl)
  have n2 : c ≠ 63 := fun e => h2 (by rw [e]; rfl)
  have n3 : c ≠ 91 := fun e => h3 (by rw [e]; rfl)
  cases hsg : signL (c :: r) with
  | none =>
    have CS := Lib.hid (CSn.out hsg)
    have HE := Lib.hid (show pieceL (c :: r) = none by
      rcases signL_none hsg with h | h
      · cases h
      · rw [h]; rfl)
    clear CSn CSs hsg n1 n2 n3 h1 h2 h3
    generalize strOf [] = y at CS
    go_enter Tryz.func159, Tryz.ntmps159
    go_wp2_with fail
    refine (CS.out _).mono ?_
    rintro e W1 ⟨rfl, hb1⟩
    go_wp2
    go_ret3
    exact ⟨.inl ⟨HE.out, _, _, rfl⟩, hb1⟩
  | some z =>
    obtain ⟨b, q⟩ := z
    have CS := Lib.hid (CSs.out b q hsg)
    have HE := Lib.hid (show ∃ k, pieceL (c :: r) = some (.sign b, k) ∧ (c :: r).drop k = q by
      rcases signL_cases hsg with h | ⟨hb, h⟩
      · rw [h]; exact ⟨2, rfl, rfl⟩
      · cases h; exact ⟨1, pieceL_sign _ n1 n2 n3 hb, rfl⟩)
    clear CSn CSs hsg n1 n2 n3 h1 h2 h3
    go_enter Tryz.func159, Tryz.ntmps159
    go_wp2_with fail
    refine (CS.out _).mono ?_
    rintro e W1 ⟨rfl, hb1⟩
    go_wp2
    go_ret3
    obtain ⟨k, e1, e2⟩ := HE.out
    exact ⟨.inr ⟨_, k, _, e1, (by rw [e2]; rfl), rfl⟩, hb1⟩
end Go.Proofs.YtipepbnmllbonaaGreatDoor
