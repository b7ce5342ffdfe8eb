/- The draws of patterns: whatever the code is, short texts come out. -/
import Derived.Test.YthlmkeibaaobeaaDoorDrawPath
import Derived.Test.YthlmkeibaaobeaaDoorFitsL
namespace Go.Proofs.YthlmkeibaaobeaaDoor
open Go.RowKit

theorem grownBy_belowR {a w w' : World} {row : Option Nat} (h : a.grownBy w row) (hb : Below w.heap.size w w') : a.grownBy w' row :=
  grownBy_then h ⟨hb.os, hb.tape, hb.output, hb.size, fun i hi _ => hb.block i hi⟩
def patL5 : List ByteArray := [⟨#[42]⟩, ⟨#[42, 46, 108, 111, 103]⟩, ⟨#[97, 42]⟩, ⟨#[63, 46, 108, 111, 103]⟩, ⟨#[91, 97, 45, 99, 93, 46, 108, 111, 103]⟩, ⟨#[91, 33, 97, 93, 46, 108, 111, 103]⟩, ⟨#[97, 92, 42, 98]⟩, ⟨#[42, 46, 42]⟩, ⟨#[91, 93, 120, 93, 42]⟩, ⟨#[91, 94, 97, 93]⟩, ⟨#[91, 122, 45, 97, 93]⟩, ⟨#[91, 97, 45, 93]⟩, ⟨#[91, 92, 93, 97, 93]⟩, ⟨#[]⟩, ⟨#[97, 46, 108, 111, 103]⟩, ⟨#[42, 97, 42, 98, 42]⟩, ⟨#[91]⟩, ⟨#[91, 97]⟩, ⟨#[97, 92]⟩, ⟨#[91, 33, 93]⟩, ⟨#[91, 33, 93, 93]⟩, ⟨#[91, 45, 97, 93]⟩, ⟨#[42, 42]⟩]
def bitL5 : List ByteArray := [⟨#[42]⟩, ⟨#[63]⟩, ⟨#[97]⟩, ⟨#[98]⟩, ⟨#[46]⟩, ⟨#[108, 111, 103]⟩, ⟨#[91, 97, 98, 93]⟩, ⟨#[91, 33, 46, 93]⟩, ⟨#[92, 97]⟩, ⟨#[91, 97, 45, 108, 93]⟩]
def namL5 : List ByteArray := [⟨#[97, 46, 108, 111, 103]⟩, ⟨#[98, 46, 108, 111, 103]⟩, ⟨#[97]⟩, ⟨#[97, 98]⟩, ⟨#[93, 120]⟩, ⟨#[97, 42, 98]⟩, ⟨#[45]⟩, ⟨#[97, 97, 98]⟩, ⟨#[33]⟩, ⟨#[108, 111, 103, 46, 97]⟩]
def escL5 : List ByteArray := [⟨#[]⟩, ⟨#[42]⟩, ⟨#[91, 97, 93]⟩, ⟨#[92]⟩, ⟨#[63]⟩, ⟨#[93]⟩]
set_option maxRecDepth 100000 in
set_option maxHeartbeats 1000000 in
theorem specPattern5 (w0 W : World) (p : Nat) (a : Option Addr) (len cap i : Nat) (h : Int) (zs : List Int) (hr : IsRow .u8 w0 a len cap zs) (hc : Cur w0 W p a len cap i h) (hlen : len ≤ 1048576) :
    Calls Tryd.prog 15 #[.pointer (some ⟨p, 0, none⟩)] W fun e W' => (∃ f : ByteArray, f.size ≤ 20 ∧ e = .returned (.string f)) ∧ (∃ i' h', Cur w0 W' p a len cap i' h') ∧ W.grownBy W' (some p) := by
  go_enter Tryd.func15, Tryd.ntmps15
  go_wp2_with fail
  refine (specOnce w0 _ p a len cap i h 2 zs hr hc hlen).mono ?_
  rintro e W1 ⟨rfl, hc1, hg1⟩
  generalize (belowX zs len i h 2 == 0) = b
  generalize belowI len i 2 = i1 at hc1
  generalize belowH h 2 = h1 at hc1
  have HG1 := Lib.hid hg1
  have hpW1 := hc1.lt
  clear hc hg1
  cases b with
  | true =>
    have HCE2 := Lib.hid (cells_lit W1 #[.string ⟨#[42]⟩, .string ⟨#[42, 46, 108, 111, 103]⟩, .string ⟨#[97, 42]⟩, .string ⟨#[63, 46, 108, 111, 103]⟩, .string ⟨#[91, 97, 45, 99, 93, 46, 108, 111, 103]⟩, .string ⟨#[91, 33, 97, 93, 46, 108, 111, 103]⟩, .string ⟨#[97, 92, 42, 98]⟩, .string ⟨#[42, 46, 42]⟩, .string ⟨#[91, 93, 120, 93, 42]⟩, .string ⟨#[91, 94, 97, 93]⟩, .string ⟨#[91, 122, 45, 97, 93]⟩, .string ⟨#[91, 97, 45, 93]⟩, .string ⟨#[91, 92, 93, 97, 93]⟩, .string ⟨#[]⟩, .string ⟨#[97, 46, 108, 111, 103]⟩, .string ⟨#[42, 97, 42, 98, 42]⟩, .string ⟨#[91]⟩, .string ⟨#[91, 97]⟩, .string ⟨#[97, 92]⟩, .string ⟨#[91, 33, 93]⟩, .string ⟨#[91, 33, 93, 93]⟩, .string ⟨#[91, 45, 97, 93]⟩, .string ⟨#[42, 42]⟩] 9 patL5 rfl)
    have HCA2 := Lib.hid (hc1.alloc (.cells #[.string ⟨#[42]⟩, .string ⟨#[42, 46, 108, 111, 103]⟩, .string ⟨#[97, 42]⟩, .string ⟨#[63, 46, 108, 111, 103]⟩, .string ⟨#[91, 97, 45, 99, 93, 46, 108, 111, 103]⟩, .string ⟨#[91, 33, 97, 93, 46, 108, 111, 103]⟩, .string ⟨#[97, 92, 42, 98]⟩, .string ⟨#[42, 46, 42]⟩, .string ⟨#[91, 93, 120, 93, 42]⟩, .string ⟨#[91, 94, 97, 93]⟩, .string ⟨#[91, 122, 45, 97, 93]⟩, .string ⟨#[91, 97, 45, 93]⟩, .string ⟨#[91, 92, 93, 97, 93]⟩, .string ⟨#[]⟩, .string ⟨#[97, 46, 108, 111, 103]⟩, .string ⟨#[42, 97, 42, 98, 42]⟩, .string ⟨#[91]⟩, .string ⟨#[91, 97]⟩, .string ⟨#[97, 92]⟩, .string ⟨#[91, 33, 93]⟩, .string ⟨#[91, 33, 93, 93]⟩, .string ⟨#[91, 45, 97, 93]⟩, .string ⟨#[42, 42]⟩] 9))
    have HQ2 := Lib.hid (pick_len patL5 9 (by decide) (belowX zs len i1 h1 23).toNat)
    go_wp2_with fail
    refine (specPick w0 _ p a len cap _ _ zs hr HCA2.out hlen W1.heap.size 23 patL5 rfl (by omega) (by omega) HCE2.out (by omega)).mono ?_
    rintro e W2 ⟨rfl, hc2, hg2⟩
    rw [show (((23 : Nat)) : Int) = 23 from rfl] at hc2 ⊢
    generalize patL5.getD (belowX zs len i1 h1 23).toNat ⟨#[]⟩ = f at HQ2
    have HG2 := Lib.hid (grownBy_then HG1.out (grownBy_then (World.grownBy_alloc _ _ _) hg2))
    have HC2 := Lib.hid hc2
    clear hg2 hc2
    go_wp2
    go_ret
    exact ⟨⟨f, by have := HQ2.out; omega, rfl⟩, ⟨_, _, HC2.out⟩, HG2.out⟩
  | false =>
    have hbd := belowX_bd zs len i1 h1 5 (by omega)
    obtain ⟨n, hn⟩ : ∃ n : Nat, belowX zs len i1 h1 5 = n := ⟨(belowX zs len i1 h1 5).toNat, by omega⟩
    rw [hn] at hbd
    have HN := Lib.hid hn
    have hn2 : n ≤ 4 := by omega
    clear hn hbd
    go_wp2_with fail
    refine (specBelow w0 _ p a len cap i1 h1 5 zs hr hc1 hlen).mono ?_
    rintro e W2 ⟨rfl, hc2, hg2⟩
    rw [HN.out]
    have HC2 := Lib.hid hc2
    have HG2 := Lib.hid (grownBy_then HG1.out hg2)
    clear hc2 hg2 hc1 HG1
    go_wp2
    go_loopw [3, 5] (fun ov iv V => ∃ (k : Nat) (o : ByteArray) (i' : Nat) (h' : Int), k ≤ n ∧ iv = .int .i64 k ∧ ov = .string o ∧ o.size ≤ 5 * k ∧ Cur w0 V p a len cap i' h' ∧ W.grownBy V (some p)) (fun _ iv _ => n - (intOf iv).toNat)
    case atStart => exact ⟨0, ⟨#[]⟩, _, _, Nat.zero_le _, rfl, rfl, by decide, HC2.out, HG2.out⟩
    case round =>
      obtain ⟨k, o, i', h', hk, rfl, rfl, ho, hcV, hgV⟩ := hrel
      have HGV := Lib.hid hgV
      have hpV := hcV.lt
      clear hgV
      by_cases h1 : k < n
      · have hki : (k : Int) < (n : Int) := by omega
        have HCE3 := Lib.hid (cells_lit wr #[.string ⟨#[42]⟩, .string ⟨#[63]⟩, .string ⟨#[97]⟩, .string ⟨#[98]⟩, .string ⟨#[46]⟩, .string ⟨#[108, 111, 103]⟩, .string ⟨#[91, 97, 98, 93]⟩, .string ⟨#[91, 33, 46, 93]⟩, .string ⟨#[92, 97]⟩, .string ⟨#[91, 97, 45, 108, 93]⟩] 9 bitL5 rfl)
        have HCA3 := Lib.hid (hcV.alloc (.cells #[.string ⟨#[42]⟩, .string ⟨#[63]⟩, .string ⟨#[97]⟩, .string ⟨#[98]⟩, .string ⟨#[46]⟩, .string ⟨#[108, 111, 103]⟩, .string ⟨#[91, 97, 98, 93]⟩, .string ⟨#[91, 33, 46, 93]⟩, .string ⟨#[92, 97]⟩, .string ⟨#[91, 97, 45, 108, 93]⟩] 9))
        have HQ3 := Lib.hid (pick_len bitL5 5 (by decide) (belowX zs len i' h' 10).toNat)
        go_wp2_with fail
        refine (specPick w0 _ p a len cap _ _ zs hr HCA3.out hlen wr.heap.size 10 bitL5 rfl (by omega) (by omega) HCE3.out (by omega)).mono ?_
        rintro e V1 ⟨rfl, hc3, hg3⟩
        rw [show (((10 : Nat)) : Int) = 10 from rfl] at hc3 ⊢
        generalize bitL5.getD (belowX zs len i' h' 10).toNat ⟨#[]⟩ = f at HQ3
        have hfs := HQ3.out
        have ha2 := run_addB o f (by omega)
        have HC3 := Lib.hid hc3
        have HG3 := Lib.hid (grownBy_then HGV.out (grownBy_then (World.grownBy_alloc _ _ _) hg3))
        clear hc3 hg3
        go_wp2
        go_roundw
        case rel => exact ⟨k + 1, o ++ f, _, _, by omega, by go_num, rfl, by simp; omega, HC3.out, HG3.out⟩
        case measure => simp [intOf]; omega
      · have hki : ¬ (k : Int) < (n : Int) := by omega
        have HCV := Lib.hid hcV
        clear hcV
        go_wp2
        go_ret
        exact ⟨⟨o, by omega, rfl⟩, ⟨_, _, HCV.out⟩, HGV.out⟩
set_option maxRecDepth 100000 in
set_option maxHeartbeats 1000000 in
theorem specDrawMatch (w0 W : World) (a : Option Addr) (len cap : Nat) (zs : List Int) (hr : IsRow .u8 w0 a len cap zs) (hb : Below w0.heap.size w0 W) (hlen : len ≤ 1048576) :
    Calls Tryd.prog 6 #[.slice a len cap] W fun e W' => (∃ s n : ByteArray, (s.size ≤ 20 ∧ n.size ≤ 5 ∧ noStroke n = true) ∧ e = .returned (.tuple #[.string s, .string n])) ∧ Below W.heap.size W W' := by
  obtain ⟨p, hp⟩ : ∃ p, p = W.heap.size := ⟨_, rfl⟩
  have hpW : W.heap.size ≤ p := by omega
  have HP := Lib.hid hp
  clear hp
  go_enter Tryd.func6, Tryd.ntmps6
  go_wp2_with fail
  refine (specNew w0 _ a len cap zs hr hb hlen).mono ?_
  rintro e W1 ⟨rfl, hc1, hb1⟩
  rw [← HP.out] at hc1 ⊢
  go_wp2_with fail
  refine (specPattern5 w0 _ p a len cap _ _ zs hr hc1 hlen).mono ?_
  rintro e W2 ⟨⟨s, hs, rfl⟩, ⟨i2, h2, hc2⟩, hg2⟩
  have HG := Lib.hid hg2
  clear hg2 hc1
  go_wp2_with fail
  refine (specOnce w0 _ p a len cap i2 h2 2 zs hr hc2 hlen).mono ?_
  rintro e W3 ⟨rfl, hc3, hg3⟩
  generalize (belowX zs len i2 h2 2 == 0) = b
  generalize belowI len i2 2 = i3 at hc3
  generalize belowH h2 2 = h3 at hc3
  have HG3 := Lib.hid (grownBy_then HG.out hg3)
  have hpW3 := hc3.lt
  clear hc2 hg3
  cases b with
  | false =>
    go_wp2_with fail
    refine (specName5 w0 _ p a len cap _ _ zs hr hc3 hlen).mono ?_
    rintro e W4 ⟨⟨n, ⟨hn, hn2⟩, rfl⟩, ⟨i4, h4, hc4⟩, hg4⟩
    have HG4 := Lib.hid (grownBy_then HG3.out hg4)
    clear hg4 hc4 hc3
    go_wp2
    go_ret2
    exact ⟨⟨s, n, ⟨hs, hn, hn2⟩, rfl⟩, hb1.grown HG4.out hb1.size (fun k e => by cases e; exact hpW)⟩
  | true =>
    have HS4 := Lib.hid (pick_has namL5 noStroke rfl (by decide) (belowX zs len i3 h3 10).toNat)
    have HCE4 := Lib.hid (cells_lit W3 #[.string ⟨#[97, 46, 108, 111, 103]⟩, .string ⟨#[98, 46, 108, 111, 103]⟩, .string ⟨#[97]⟩, .string ⟨#[97, 98]⟩, .string ⟨#[93, 120]⟩, .string ⟨#[97, 42, 98]⟩, .string ⟨#[45]⟩, .string ⟨#[97, 97, 98]⟩, .string ⟨#[33]⟩, .string ⟨#[108, 111, 103, 46, 97]⟩] 9 namL5 rfl)
    have HCA4 := Lib.hid (hc3.alloc (.cells #[.string ⟨#[97, 46, 108, 111, 103]⟩, .string ⟨#[98, 46, 108, 111, 103]⟩, .string ⟨#[97]⟩, .string ⟨#[97, 98]⟩, .string ⟨#[93, 120]⟩, .string ⟨#[97, 42, 98]⟩, .string ⟨#[45]⟩, .string ⟨#[97, 97, 98]⟩, .string ⟨#[33]⟩, .string ⟨#[108, 111, 103, 46, 97]⟩] 9))
    have HQ4 := Lib.hid (pick_len namL5 5 (by decide) (belowX zs len i3 h3 10).toNat)
    go_wp2_with fail
    refine (specPick w0 _ p a len cap _ _ zs hr HCA4.out hlen W3.heap.size 10 namL5 rfl (by omega) (by omega) HCE4.out (by omega)).mono ?_
    rintro e W4 ⟨rfl, hc4, hg4⟩
    rw [show (((10 : Nat)) : Int) = 10 from rfl] at hc4 ⊢
    generalize namL5.getD (belowX zs len i3 h3 10).toNat ⟨#[]⟩ = f at HQ4 HS4
    have HG4 := Lib.hid (grownBy_then HG3.out (grownBy_then (World.grownBy_alloc _ _ _) hg4))
    clear hg4 hc4
    go_wp2
    go_ret2
    exact ⟨⟨s, f, ⟨hs, HQ4.out, HS4.out⟩, rfl⟩, hb1.grown HG4.out hb1.size (fun k e => by cases e; exact hpW)⟩
set_option maxRecDepth 100000 in
set_option maxHeartbeats 2000000 in
theorem specDrawMatchPath (w0 W : World) (a : Option Addr) (len cap : Nat) (zs : List Int) (hr : IsRow .u8 w0 a len cap zs) (hb : Below w0.heap.size w0 W) (hlen : len ≤ 1048576) :
    Calls Tryd.prog 11 #[.slice a len cap] W fun e W' => (∃ s n : ByteArray, (s.size ≤ 1000 ∧ n.size ≤ 18) ∧ e = .returned (.tuple #[.string s, .string n])) ∧ Below W.heap.size W W' := by
  obtain ⟨p, hp⟩ : ∃ p, p = W.heap.size := ⟨_, rfl⟩
  have hpW : W.heap.size ≤ p := by omega
  have HP := Lib.hid hp
  clear hp
  go_enter Tryd.func11, Tryd.ntmps11
  go_wp2_with fail
  refine (specNew w0 _ a len cap zs hr hb hlen).mono ?_
  rintro e W1 ⟨rfl, hc1, hb1⟩
  rw [← HP.out] at hc1 ⊢
  go_wp2_with fail
  refine (specPath5 w0 _ p a len cap _ _ zs hr hc1 hlen).mono ?_
  rintro e W2 ⟨⟨s, ⟨hs, hs1⟩, rfl⟩, ⟨i2, h2, hc2⟩, hg2⟩
  have hs1i : (1 : Int) ≤ (s.size : Int) := by omega
  have hfr := cut_from s 1 hs1 1 rfl
  have hxs : (s.extract 1 s.size).size ≤ 18 := by simp; omega
  generalize s.extract 1 s.size = x at hfr hxs
  have hxz : x.data.toList.length = x.size := by simp
  have CP := Lib.hid (fun W => specParts x W (by omega))
  have hpl := parts_len x.data.toList
  have HPL := Lib.hid (parts_le x.data.toList)
  have hpn := parts_ne x.data.toList
  have hp18 : (partsL x.data.toList).length ≤ 19 := by omega
  have HC2 := Lib.hid hc2
  have HG2 := Lib.hid hg2
  have hpW2 := hc2.lt
  rw [hxz] at HPL
  generalize partsL x.data.toList = ps at CP HPL hpn hp18
  clear hpl hxz hc1 hc2 hg2
  go_wp2_with fail
  refine (CP.out _).mono ?_
  rintro e W3 ⟨v, rfl, hS, hb3⟩
  rcases hS.form with ⟨-, e0⟩ | ⟨g, gcap, rfl, hgB, hg, hcell, -, hl, hm⟩
  · exact absurd e0 hpn
  have HC := Lib.hid hcell
  have hgp : g ≠ p := by omega
  have hpi : (ps.length : Int) ≤ 19 := by omega
  have HC3 := Lib.hid (HC2.out.on hb3)
  have HG3 := Lib.hid (grownBy_belowR HG2.out hb3)
  unfold maxLen at hm
  clear hcell hS CP hb3 HC2 HG2 hpn
  go_wp2
  go_loopw [7, 8] (fun ov iv V => ∃ (k : Nat) (o : ByteArray) (i' : Nat) (h' : Int), k ≤ ps.length ∧ iv = .int .i64 k ∧ ov = .string o ∧ o.size ≤ 21 * k ∧ Cur w0 V p a len cap i' h' ∧ W3.grownBy V (some p)) (fun _ iv _ => ps.length - (intOf iv).toNat)
  case atStart => exact ⟨0, ⟨#[]⟩, _, _, Nat.zero_le _, rfl, rfl, by decide, HC3.out, ⟨rfl, rfl, rfl, Nat.le_refl _, fun _ _ _ => rfl⟩⟩
  case round =>
    obtain ⟨k, o, i', h', hk, rfl, rfl, ho, hcV, hgV⟩ := hrel
    have HGV := Lib.hid hgV
    have hpV := hcV.lt
    clear hgV
    by_cases h1 : k < ps.length
    · have hki : (k : Int) < (ps.length : Int) := by omega
      have h47 : (⟨#[47]⟩ : ByteArray).size = 1 := rfl
      have ha1 := run_addB o ⟨#[47]⟩ (by omega)
      go_wp2_with fail
      refine (specOnce w0 _ p a len cap i' h' 2 zs hr hcV hlen).mono ?_
      rintro e V1 ⟨rfl, hc4, hg4⟩
      generalize (belowX zs len i' h' 2 == 0) = b
      generalize belowI len i' 2 = i4 at hc4
      generalize belowH h' 2 = h4 at hc4
      have HG4 := Lib.hid (grownBy_then HGV.out hg4)
      have HC4 := Lib.hid hc4
      clear hcV hg4 hc4
      cases b with
      | true =>
        go_wp2_with fail
        refine (specPattern5 w0 _ p a len cap _ _ zs hr HC4.out hlen).mono ?_
        rintro e V2 ⟨⟨f, hf, rfl⟩, ⟨i5, h5, hc5⟩, hg5⟩
        have ha2 := run_addB (o ++ ⟨#[47]⟩) f (by simp; omega)
        have HC5 := Lib.hid hc5
        have HG5 := Lib.hid (grownBy_then HG4.out hg5)
        clear hc5 hg5
        go_wp2
        go_roundw
        case rel => exact ⟨k + 1, o ++ ⟨#[47]⟩ ++ f, i5, h5, by omega, by go_num, rfl, by simp; omega, HC5.out, HG5.out⟩
        case measure => simp [intOf]; omega
      | false =>
        have hck : V1.cell? ⟨g, k, none⟩ = some (.string (strOf ps[k])) := (World.cell?_of_block (HG4.out.block g hg (by intro e; exact hgp (Option.some.inj e)))).trans (HC.out k h1)
        have hpk := HPL.out _ (List.getElem_mem h1)
        rw [← strOf_size] at hpk
        generalize strOf ps[k] = f at hck hpk
        have ha2 := run_addB (o ++ ⟨#[47]⟩) f (by simp; omega)
        go_wp2
        go_roundw
        case rel => exact ⟨k + 1, o ++ ⟨#[47]⟩ ++ f, i4, h4, by omega, by go_num, rfl, by simp; omega, HC4.out, HG4.out⟩
        case measure => simp [intOf]; omega
    · have hki : ¬ (k : Int) < (ps.length : Int) := by omega
      go_wp2_with fail
      refine (specBent w0 _ p a len cap i' h' zs hr hcV hlen o (by omega)).mono ?_
      rintro e V1 ⟨⟨q, hq, rfl⟩, -, hg4⟩
      have HG4 := Lib.hid (grownBy_then HG3.out (grownBy_then HGV.out hg4))
      clear hg4
      go_wp2
      go_ret2
      exact ⟨⟨q, s, ⟨by omega, hs⟩, rfl⟩, hb1.grown HG4.out hb1.size (fun k e => by cases e; exact hpW)⟩
end Go.Proofs.YthlmkeibaaobeaaDoor
