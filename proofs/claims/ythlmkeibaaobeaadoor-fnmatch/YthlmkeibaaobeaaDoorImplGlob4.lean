/- impl.cutSet. -/
import Derived.Test.YthlmkeibaaobeaaDoorImplGlob3
namespace Go.Proofs.YthlmkeibaaobeaaDoor
open Go.RowKit

/-- What cutSet answers. -/
def SetRes (B : Nat) (T : Option (List (UInt8 × UInt8) × List UInt8)) (t : Bool) (e : Ending) (w' : World) : Prop :=
  (T = none ∧ e = .returned (.tuple #[.nilIface, .string (strOf []), .bool false])) ∨
  ∃ rs r c, T = some (rs, r) ∧ e = .returned (.tuple #[.iface 61 c, .string (strOf r), .bool true]) ∧ ClosAt w' B t rs c
theorem SetAt.clos {w W : World} {t : Bool} {acc : List (UInt8 × UInt8)} {v : Value} (h : SetAt w W t acc v) (k : Nat) :
    ClosAt (W.drewN k) w.heap.size t acc (.func (.func 59) #[] #[.pointer (some ⟨w.heap.size + 1, 0, none⟩), .pointer (some ⟨w.heap.size, 0, none⟩)]) := by
  refine ClosAt.mono (B := w.heap.size) ⟨w.heap.size, w.heap.size + 1, v, rfl, Nat.le_refl _, by omega, h.b0, h.b1, ?_⟩ (Nat.le_refl _)
  refine ⟨h.row.1, ?_⟩
  rcases h.row.2 with hh | ⟨g, cap, cur, hv, hb, rest⟩
  · exact .inl hh
  · exact .inr ⟨g, cap, cur, hv, by omega, rest⟩
theorem RangeRow.shape {w : World} {B : Nat} {v : Value} {ps : List (UInt8 × UInt8)} (h : RangeRow w B v ps) : ∃ a cap, v = .slice a ps.length cap := by
  rcases h.2 with ⟨hv, hn⟩ | ⟨g, cap, cur, hv, _⟩
  · exact ⟨none, 0, by rw [hv, hn]⟩
  · exact ⟨_, _, hv⟩
theorem concretePiece : Tryd.prog.concrete 61 = true := by kernel_rfl

set_option maxRecDepth 100000 in
set_option maxHeartbeats 8000000 in
theorem implCutSet (s : ByteArray) (hs : s.size ≤ 60) (w : World) :
    Calls Tryd.prog 45 #[.string s] w fun e w' => SetRes w.heap.size (rangesL (setB s.data.toList).length (setB s.data.toList)) (headIs 33 s.data.toList) e w' ∧ Below w.heap.size w w' := by
  obtain ⟨j0, kj, kz0, kz1, kz2⟩ := info_parts infoR
  have CB := Lib.hid (fun W => cutBang s W)
  have hlb : (setB s.data.toList).length ≤ 60 := by rw [setB_eq, List.length_drop]; simp; omega
  generalize headIs 33 s.data.toList = t at CB
  generalize setB s.data.toList = L0 at CB hlb
  obtain ⟨T, hT⟩ : ∃ T, rangesL L0.length L0 = T := ⟨_, rfl⟩
  rw [hT]
  have HT := Lib.hid (hT.symm.trans (contL_start L0).symm)
  have hcp := concretePiece
  clear hT
  have HS0 := Lib.hid (SetAt.start w t)
  go_enter Tryd.func45, Tryd.ntmps45
  go_wp2_with fail
  refine (CB.out _).mono ?_
  rintro e W0 ⟨rfl, rfl⟩
  go_wp2
  go_loopw [5, 8, 9, 10] (fun rv _ _ _ wr => ∃ acc l v, rv = .string (strOf l) ∧ SetAt W0 wr t acc v ∧ acc.length + l.length ≤ 60 ∧ Hid (T = contL acc l)) (fun rv _ _ _ _ => strN rv)
  case atStart => exact ⟨[], L0, _, rfl, HS0.out, by simpa using hlb, HT⟩
  case round =>
    clear HT HS0 CB hlb
    obtain ⟨acc, l, v, rfl, hS, hlen, HR⟩ := hrel
    obtain ⟨a, cap, rfl⟩ := hS.row.shape
    obtain ⟨k1, k2⟩ := hS.b1.cell
    have HS := Lib.hid hS
    have CH := Lib.hid (fun W => hasEnd l W)
    have hsl : (strOf l).data.toList = l := strOf_data l
    have hlsz : (strOf l).size = l.length := strOf_size l
    have CR1 := Lib.hid (fun x r (h : rangeL l = some (x, r)) W => cutRange_some (strOf l) W x r (by rw [hsl]; exact h))
    have CR2 := Lib.hid (fun (h : rangeL l = none) W => cutRange_none (strOf l) W (by rw [hsl]; exact h))
    have hlt : W0.heap.size + 1 < wr.heap.size := hS.b1.lt
    generalize hy : strOf l = y at CH CR1 CR2 hlsz hsl
    clear hS hsl
    by_cases hfin : acc ≠ [] ∧ headIs 93 l = true
    · have hne : ((acc.length : Int) == 0) = false := by
        rw [beq_eq_false_iff_ne]; intro e; exact hfin.1 (List.eq_nil_of_length_eq_zero (by omega))
      rw [hfin.2] at CH
      have HE := Lib.hid (HR.out.trans (contL_end hfin.1 hfin.2))
      obtain ⟨r, hr⟩ := headIs_t hfin.2
      have hsl1 := fun W => slice1 (q := y) (c := 93) (r := r) (by rw [← hy, strOf_data, hr]) W
      have HRr := Lib.hid (show l.drop 1 = r by rw [hr]; rfl)
      clear hfin hr CR1 CR2 HR
      go_wp2_with fail
      refine (CH.out _).mono ?_
      rintro e W1 ⟨rfl, rfl⟩
      go_wp2
      go_quiet (fail)
      go_wp2
      go_ret3
      exact ⟨.inr ⟨acc, r, _, by rw [HE.out, HRr.out], rfl, HS.out.clos _⟩, HS.out.bel.trans ⟨rfl, rfl, rfl, Nat.le_refl _, fun _ _ => rfl⟩⟩
    have hgo : acc = [] ∨ headIs 93 l = false := by
      by_cases h1 : acc = []
      · exact .inl h1
      · cases h2 : headIs 93 l with
        | false => exact .inr rfl
        | true => exact (hfin ⟨h1, h2⟩).elim
    have hcase : ((acc.length : Int) == 0) = true ∨ (((acc.length : Int) == 0) = false ∧ headIs 93 l = false) := by
      rcases hgo with h | h
      · left; rw [h]; rfl
      · cases hz : ((acc.length : Int) == 0) with
        | true => exact .inl rfl
        | false => exact .inr ⟨rfl, h⟩
    clear hfin
    cases hr : rangeL l with
    | none =>
      have HE := Lib.hid (HR.out.trans (contL_none hgo hr))
      have CR := Lib.hid (CR2.out hr)
      clear hgo hr CR1 CR2 HR
      rcases hcase with hne | ⟨hne, h93⟩
      · go_wp2_with fail
        refine (CR.out _).mono ?_
        rintro e W1 ⟨⟨q, rfl⟩, hb1⟩
        have HB1 := Lib.hid (HS.out.bel.trans (hb1.mono HS.out.bel.size))
        have hsz1 := HB1.out.size
        clear hb1
        go_wp2
        go_ret3
        exact ⟨.inl ⟨HE.out, rfl⟩, HB1.out.alloc hsz1 _⟩
      · rw [h93] at CH
        clear h93
        go_wp2_with fail
        refine (CH.out _).mono ?_
        rintro e W1 ⟨rfl, rfl⟩
        go_wp2_with fail
        refine (CR.out _).mono ?_
        rintro e W1 ⟨⟨q, rfl⟩, hb1⟩
        have HB1 := Lib.hid (HS.out.bel.trans (hb1.mono HS.out.bel.size))
        have hsz1 := HB1.out.size
        clear hb1
        go_wp2
        go_ret3
        exact ⟨.inl ⟨HE.out, rfl⟩, HB1.out.alloc hsz1 _⟩
    | some z =>
      obtain ⟨x, r⟩ := z
      have hrl : r.length < l.length := (rangeL_facts true (.inl rfl) hr).1
      have HE := Lib.hid (HR.out.trans (contL_step hgo hr))
      have CR := Lib.hid (CR1.out x r hr)
      clear hgo hr CR1 CR2 HR
      rcases hcase with hne | ⟨hne, h93⟩
      · clear CH
        go_wp2_with fail
        refine (CR.out _).mono ?_
        rintro e W1 ⟨rfl, hb1⟩
        have HS1 := Lib.hid (HS.out.on hb1)
        obtain ⟨q1, q2⟩ := HS1.out.b1.cell
        have hlt1 : W0.heap.size + 1 < W1.heap.size := HS1.out.b1.lt
        have hne1 : W0.heap.size + 1 ≠ W1.heap.size := by omega
        clear hb1 HS k1 k2
        go_wp2_with (at_builtin; refine wpList_append_own _ rfl _ _ 81 rfl (W0.heap.size + 2) 83 j0 (.agg #[.int .u8 0, .int .u8 0]) 2 2 Tryd.underlying81 kj kz0 kz1 kz2 rfl (by decide) _ _ _ rfl ((HS1.out.row.own.alloc _).alloc _) ⟨W1.heap.size + 1, 0, none⟩ 1 1 [.int .u8 x.1.toNat, .int .u8 x.2.toNat] rfl rfl (fun j u hj => by have := cell_two_new (W1.alloc (.cells #[.int .u8 x.1.toNat, .int .u8 x.2.toNat] 83)) _ _ 83 j u hj; simpa using this) (by simp [Value.oneCell']) (by unfold maxLen; omega) (by omega) (by simp; omega) ?_; intro v' w1 hown' hgrow _; obtain ⟨a', cap', hv'⟩ := (RangeRow.snoc (p := x) hown').shape; rw [List.length_append, List.length_singleton] at hv'; subst hv'; have HM := Lib.hid (SetAt.more (HS1.out.on (((Below.refl _ _).alloc (Nat.le_refl _) (.cells #[.int .u8 x.1.toNat, .int .u8 x.2.toNat] 83)).alloc (by simp) (.cells #[.int .u8 x.1.toNat, .int .u8 x.2.toNat] 83))) hgrow hown'); obtain ⟨p1, p2⟩ := HM.out.1.cell; clear hown' hgrow)
        go_roundw
        case rel => exact ⟨acc ++ [x], r, _, rfl, HM.out.2, by simp; omega, HE⟩
        case measure => simp [strN, strOf_size]; omega
      · rw [h93] at CH
        clear h93
        go_wp2_with fail
        refine (CH.out _).mono ?_
        rintro e W1 ⟨rfl, rfl⟩
        clear CH
        go_wp2_with fail
        refine (CR.out _).mono ?_
        rintro e W1 ⟨rfl, hb1⟩
        have HS1 := Lib.hid (HS.out.on hb1)
        obtain ⟨q1, q2⟩ := HS1.out.b1.cell
        have hlt1 : W0.heap.size + 1 < W1.heap.size := HS1.out.b1.lt
        have hne1 : W0.heap.size + 1 ≠ W1.heap.size := by omega
        clear hb1 HS k1 k2
        go_wp2_with (at_builtin; refine wpList_append_own _ rfl _ _ 81 rfl (W0.heap.size + 2) 83 j0 (.agg #[.int .u8 0, .int .u8 0]) 2 2 Tryd.underlying81 kj kz0 kz1 kz2 rfl (by decide) _ _ _ rfl ((HS1.out.row.own.alloc _).alloc _) ⟨W1.heap.size + 1, 0, none⟩ 1 1 [.int .u8 x.1.toNat, .int .u8 x.2.toNat] rfl rfl (fun j u hj => by have := cell_two_new (W1.alloc (.cells #[.int .u8 x.1.toNat, .int .u8 x.2.toNat] 83)) _ _ 83 j u hj; simpa using this) (by simp [Value.oneCell']) (by unfold maxLen; omega) (by omega) (by simp; omega) ?_; intro v' w1 hown' hgrow _; obtain ⟨a', cap', hv'⟩ := (RangeRow.snoc (p := x) hown').shape; rw [List.length_append, List.length_singleton] at hv'; subst hv'; have HM := Lib.hid (SetAt.more (HS1.out.on (((Below.refl _ _).alloc (Nat.le_refl _) (.cells #[.int .u8 x.1.toNat, .int .u8 x.2.toNat] 83)).alloc (by simp) (.cells #[.int .u8 x.1.toNat, .int .u8 x.2.toNat] 83))) hgrow hown'); obtain ⟨p1, p2⟩ := HM.out.1.cell; clear hown' hgrow)
        go_roundw
        case rel => exact ⟨acc ++ [x], r, _, rfl, HM.out.2, by simp; omega, HE⟩
        case measure => simp [strN, strOf_size]; omega
end Go.Proofs.YthlmkeibaaobeaaDoor
