/- The contract of spec.l01Text at sizes up to three: it comes to an end, whatever the code is. -/
import Derived.Test.YtlkmpmlcjiiboaaLcg
import Derived.Test.YtlkmpmlcjiiboaaWords
namespace Go.Proofs.Ytlkmpmlcjiiboaa
open Go.RowKit

def curI (W : World) (p : Nat) : Nat := (intOf ((W.cell? ⟨p, 1, none⟩).getD (.int .i64 0))).toNat
def curH (W : World) (p : Nat) : Int := intOf ((W.cell? ⟨p, 2, none⟩).getD (.int .i64 0))
theorem Cur.i_is {w0 W : World} {p : Nat} {a : Option Addr} {len cap i : Nat} {h : Int} (hc : Cur w0 W p a len cap i h) : curI W p = i := by
  unfold curI; rw [(cell_of_blk hc.blk 1).1]; simp [intOf]
theorem Cur.h_is {w0 W : World} {p : Nat} {a : Option Addr} {len cap i : Nat} {h : Int} (hc : Cur w0 W p a len cap i h) : curH W p = h := by
  unfold curH; rw [(cell_of_blk hc.blk 2).1]; simp [intOf]
def lenOf (v : Value) : Nat := match v with | .slice _ n _ => n | _ => 0

/-- What falls from round to round: the code's bytes that are left, then the bytes that are wanted, then the way to the window. -/
noncomputable def meas (len n i L : Nat) (h : Int) : Nat := ((len - i) * 4 + (n - L)) * 18446744073709551617 + rank h
theorem meas_lt {len n i i' L L' : Nat} {h h' : Int} (hi : i ≤ len) (hL : L < n) (hLL : L ≤ L') (hn : n ≤ 3)
    (H : (i < i' ∧ i' ≤ len) ∨ (i = i' ∧ (L < L' ∨ rank h' < rank h))) : meas len n i' L' h' < meas len n i L h := by
  have b1 := rank_bd h
  have b2 := rank_bd h'
  unfold meas
  omega
theorem byteI_or (len i : Nat) (hi : i ≤ len) : (i < len ∧ byteI len i = i + 1) ∨ (¬ i < len ∧ byteI len i = i) := by
  unfold byteI; split
  · left; omega
  · right; omega
theorem not_win {zs : List Int} {len i : Nat} {h r : Int} (hi : ¬ i < len) (hr : belowX zs len i h 5 = r) (h12 : r = 1 ∨ r = 2) : ¬ Win h := by
  intro hw
  have := win_good hw
  have e : belowX zs len i h 5 = mixH (byteH h) % 5 := by unfold belowX byteX; rw [if_neg (by omega), if_pos (by omega), if_neg hi]
  omega
theorem below_small (n : Int) (h1 : 1 ≤ n) (h2 : n ≤ 256) (len i : Nat) (h : Int) : belowI len i n = byteI len i ∧ belowH h n = byteH h := by
  unfold belowI belowH
  rw [if_neg (by omega), if_pos h2, if_neg (by omega), if_pos h2]
  exact ⟨rfl, rfl⟩

/-- The state of l01Text's loop. -/
structure TS (w0 W wr : World) (p : Nat) (a : Option Addr) (len cap i : Nat) (h : Int) (out : Value) (l : List UInt8) : Prop where
  cur : Cur w0 wr p a len cap i h
  row : Bytes wr W.heap.size out l
  gr : W.grownBy wr (some p)
  pl : p < W.heap.size
  hw : w0.heap.size ≤ W.heap.size
  nn : out ≠ .slice none 0 0
theorem TS.form {w0 W wr : World} {p : Nat} {a : Option Addr} {len cap i : Nat} {h : Int} {out : Value} {l : List UInt8} (t : TS w0 W wr p a len cap i h out l) :
    ∃ g cp, out = .slice (some ⟨g, 0, none⟩) l.length cp ∧ W.heap.size ≤ g ∧ g < wr.heap.size ∧ l.length ≤ cp ∧ cp ≤ maxLen ∧ ∀ j (hj : j < l.length), wr.cell? ⟨g, j, none⟩ = some (.int .u8 (l[j].toNat : Int)) := by
  have hrow := t.row.own
  rcases t.row.2 with ⟨hv, _⟩ | ⟨g, cp, cur, rfl, hb, hg, hc, hm, _⟩
  · exact absurd hv t.nn
  · refine ⟨g, cp, rfl, hb, (Array.getElem?_eq_some_iff.1 hg).1, hc, hm, fun j hj => ?_⟩
    rw [World.ownsRow.cellAt hrow j (by omega)]
    simp [byteVals, hj]
theorem TS.call {w0 W wr wr' : World} {p : Nat} {a : Option Addr} {len cap i i' : Nat} {h h' : Int} {out : Value} {l : List UInt8} (t : TS w0 W wr p a len cap i h out l)
    (hc : Cur w0 wr' p a len cap i' h') (hg : wr.grownBy wr' (some p)) : TS w0 W wr' p a len cap i' h' out l := by
  refine ⟨hc, World.ownsRow.kept t.row hg ?_, grownBy_then t.gr hg, t.pl, t.hw, t.nn⟩
  obtain ⟨g, cp, rfl, hb, _⟩ := t.form
  right
  have := t.pl
  simp [Value.ownBlock]; omega
theorem TS.app {w0 W wr w1 : World} {p : Nat} {a : Option Addr} {len cap i : Nat} {h : Int} {out v' : Value} {l : List UInt8} {o : Obj} {x : Int} (t : TS w0 W wr p a len cap i h out l)
    (hx : 0 ≤ x) (hx2 : x ≤ 255) (hown : w1.ownsRow W.heap.size 5 1 v' (l.length + 1) (byteVals l ++ [.int .u8 x])) (hgrow : (wr.alloc o).grownBy w1 out.ownBlock) :
    TS w0 W w1 p a len cap i h v' (l ++ [UInt8.ofNat x.toNat]) := by
  obtain ⟨g, cp, rfl, hb, hgl, _⟩ := t.form
  have hpl := t.pl
  have hpw := t.cur.lt
  have hw := t.hw
  have hsz := t.gr.size
  have hg2 : (wr.alloc o).grownBy w1 (some g) := hgrow
  have hex : (UInt8.ofNat x.toNat).toNat = x.toNat := by rw [UInt8.toNat_ofNat', Nat.mod_eq_of_lt (by omega)]
  refine ⟨⟨?_, t.cur.hi, ?_, t.cur.hp⟩, ?_, ⟨?_, ?_, ?_, ?_, ?_⟩, t.pl, t.hw, ?_⟩
  · rw [hg2.block p (by simp; omega) (by simp; omega)]
    exact (t.cur.alloc o).blk
  · exact (t.cur.alloc o).below.grown hg2 (by simp; omega) (fun k e => by cases e; omega)
  · apply Bytes.snoc
    rw [hex, show ((x.toNat : Nat) : Int) = x by omega]
    exact hown
  · exact hg2.os.trans ((World.grownBy_alloc wr o none).os.trans t.gr.os)
  · exact hg2.tape.trans ((World.grownBy_alloc wr o none).tape.trans t.gr.tape)
  · exact hg2.output.trans ((World.grownBy_alloc wr o none).output.trans t.gr.output)
  · exact Nat.le_trans hsz (Nat.le_trans (World.grownBy_alloc wr o none).size hg2.size)
  · intro k hk hkp
    rw [hg2.block k (by simp; omega) (by simp; omega), (World.grownBy_alloc wr o none).block k (by omega) (by simp)]
    exact t.gr.block k hk hkp
  · intro e
    subst e
    rcases hown.2 with ⟨_, h0⟩ | ⟨g', cap', cur', hv, _⟩
    · omega
    · cases hv
theorem TS.meas {w0 W wr : World} {p : Nat} {a : Option Addr} {len cap i : Nat} {h : Int} {out : Value} {l : List UInt8} (t : TS w0 W wr p a len cap i h out l) (n : Nat) :
    Proofs.Ytlkmpmlcjiiboaa.meas len n (curI wr p) (lenOf out) (curH wr p) = Proofs.Ytlkmpmlcjiiboaa.meas len n i l.length h := by
  obtain ⟨g, cp, rfl, _⟩ := t.form
  rw [t.cur.i_is, t.cur.h_is]; rfl
theorem adv1 (len i : Nat) (hi : i ≤ len) : (i < byteI len i ∧ byteI len i ≤ len) ∨ (i = byteI len i ∧ ¬ i < len) := by
  have := byteI_or len i hi; omega
theorem adv2 (len i : Nat) (hi : i ≤ len) : (i < byteI len (byteI len i) ∧ byteI len (byteI len i) ≤ len) ∨ (i = byteI len (byteI len i) ∧ ¬ i < len) := by
  have h1 := byteI_or len i hi
  have h2 := byteI_or len (byteI len i) (by omega)
  omega
theorem adv3 (len i : Nat) (hi : i ≤ len) : (i < byteI len (byteI len (byteI len i)) ∧ byteI len (byteI len (byteI len i)) ≤ len) ∨ (i = byteI len (byteI len (byteI len i)) ∧ ¬ i < len) := by
  have h1 := byteI_or len i hi
  have h2 := byteI_or len (byteI len i) (by omega)
  have h3 := byteI_or len (byteI len (byteI len i)) (by omega)
  omega
theorem conv_cut {wr : World} {g cp n : Nat} {l : List UInt8} (hn : n ≤ l.length) (hc : ∀ j (hj : j < l.length), wr.cell? ⟨g, j, none⟩ = some (.int .u8 (l[j].toNat : Int))) :
    (convert 22 9 (.slice (some ⟨g, 0, none⟩) n cp)).run Try.prog wr = .ok (.string (strOf (l.take n))) wr := by
  have hl : (l.take n).length = n := by simp; omega
  have e := run_convert_bytes_back (P := Try.prog) wr 22 9 5 ⟨g, 0, none⟩ cp (l.take n) Try.underlying22 Try.underlying5 Try.underlying9 (fun j hj => by
    rw [hl] at hj
    have ea : (⟨g, 0, none⟩ : Addr).add j = ⟨g, j, none⟩ := by unfold Addr.add; split <;> simp_all
    rw [ea, hc j (by omega), List.getElem_take])
  rw [hl] at e
  exact e

set_option maxRecDepth 100000 in
set_option maxHeartbeats 4000000 in
theorem specText (w0 W : World) (p : Nat) (a : Option Addr) (len cap i : Nat) (h : Int) (zs : List Int) (hr : IsRow .u8 w0 a len cap zs) (hc : Cur w0 W p a len cap i h) (hlen : len ≤ 1048576) (n : Nat) (hn : n ≤ 3) :
    Calls Try.prog 35 #[.pointer (some ⟨p, 0, none⟩), .int .i64 n] W fun e W' =>
      (∃ l : List UInt8, l.length ≤ 3 ∧ e = .returned (.string (strOf l))) ∧ (∃ i' h', Cur w0 W' p a len cap i' h') ∧ W.grownBy W' (some p) := by
  obtain ⟨j0, kj, kz0, kz1, kz2⟩ := info_parts infoB
  have hpl := hc.lt
  have hw := hc.below.size
  go_enter Try.func35, Try.ntmps35
  go_wp2
  go_loopw [5, 6, 7, 8, 9, 10, 11] (fun out _ _ _ _ _ _ wr => ∃ (l : List UInt8) (i : Nat) (h : Int), TS w0 W wr p a len cap i h out l ∧ l.length ≤ 25) (fun out _ _ _ _ _ _ wr => meas len n (curI wr p) (lenOf out) (curH wr p))
  case atStart => exact ⟨[], i, h, ⟨hc.alloc _, World.ownsRow_lit W #[] 0 (Nat.le_refl _) (by simp [maxLen]) (by simp), World.grownBy_alloc _ _ _, hpl, hw, by intro e; cases e⟩, by simp⟩
  case round =>
    clear hc
    obtain ⟨l, i, h, t, hl25⟩ := hrel
    obtain ⟨g, cp, rfl, hgW, hgw, hlc, hcm, hcells⟩ := t.form
    unfold maxLen at hcm
    have HT := Lib.hid t
    have HC := Lib.hid hcells
    have hi := t.cur.hi
    have hsz := t.gr.size
    clear t hcells
    by_cases hlt : l.length < n
    · have hbd := belowX_bd zs len i h 5 (by omega)
      obtain ⟨r, hrr⟩ : ∃ r, belowX zs len i h 5 = r := ⟨_, rfl⟩
      rw [hrr] at hbd
      have HR := Lib.hid hrr
      clear hrr
      have HS := Lib.hid (below_small 5 (by omega) (by omega) len i h)
      go_wp2_with fail
      refine (specBelow w0 _ p a len cap i h 5 zs hr HT.out.cur hlen).mono ?_
      rintro e W1 ⟨rfl, hc1, hg1⟩
      rw [HR.out]
      rw [HS.out.1, HS.out.2] at hc1
      have T1 := Lib.hid (HT.out.call hc1 hg1)
      clear hc1 hg1
      rcases (by omega : r = 0 ∨ r = 1 ∨ r = 2 ∨ r = 3 ∨ r = 4) with rfl | rfl | rfl | rfl | rfl
      · have hbx := byteX_bd zs len (byteI len i) (byteH h)
        obtain ⟨x, hx⟩ : ∃ x, byteX zs len (byteI len i) (byteH h) = x := ⟨_, rfl⟩
        rw [hx] at hbx
        have HX := Lib.hid hx
        obtain ⟨hx0, hx1⟩ := hbx
        clear hx
        go_wp2_with fail
        refine (specByte w0 _ p a len cap _ _ zs hr T1.out.cur hlen).mono ?_
        rintro e W2 ⟨rfl, hc2, hg2⟩
        rw [HX.out]
        have hs2 : W.heap.size ≤ W2.heap.size := Nat.le_trans T1.out.gr.size hg2.size
        have T2 := Lib.hid (T1.out.call hc2 hg2)
        clear hc2 hg2
        go_wp2_with (at_builtin; refine wpList_append_own _ rfl _ _ 22 rfl W.heap.size 5 j0 (.int .u8 0) 1 1 Try.underlying22 kj kz0 kz1 kz2 rfl (by decide) _ _ _ rfl (T2.out.row.own.alloc _) ⟨W2.heap.size, 0, none⟩ 1 1 [.int .u8 x] rfl rfl (cell_one_new _ _ _) (by simp [Value.oneCell']) (by unfold maxLen; omega) (by omega) (by simp; omega) ?_; intro v' w1 hown' hgrow _)
        have T3 := Lib.hid (T2.out.app hx0 hx1 hown' hgrow)
        go_roundw
        case rel => exact ⟨_, _, _, T3.out, by simp; omega⟩
        case measure =>
          rw [T3.out.meas, HT.out.meas]
          exact meas_lt hi hlt (by simp) hn (by have := adv2 len i hi; rcases this with h1 | h1; exact Or.inl h1; exact Or.inr ⟨h1.1, Or.inl (by simp)⟩)
      · have hb2 := belowX_bd zs len (byteI len i) (byteH h) 9 (by omega)
        have HS2 := Lib.hid (below_small 9 (by omega) (by omega) len (byteI len i) (byteH h))
        obtain ⟨k, hk⟩ : ∃ k : Nat, belowX zs len (byteI len i) (byteH h) 9 = k := ⟨(belowX zs len (byteI len i) (byteH h) 9).toNat, by omega⟩
        rw [hk] at hb2
        have HX2 := Lib.hid hk
        obtain ⟨hk0, hk1⟩ := hb2
        clear hk
        go_wp2_with fail
        refine (specBelow w0 _ p a len cap _ _ 9 zs hr T1.out.cur hlen).mono ?_
        rintro e W2 ⟨rfl, hc2, hg2⟩
        rw [HX2.out]
        rw [HS2.out.1, HS2.out.2] at hc2
        have hs2 : W.heap.size ≤ W2.heap.size := Nat.le_trans T1.out.gr.size hg2.size
        have T2 := Lib.hid (T1.out.call hc2 hg2)
        clear hc2 hg2
        have hb3 := belowX_bd zs len (byteI len (byteI len i)) (byteH (byteH h)) 4 (by omega)
        have HS3 := Lib.hid (below_small 4 (by omega) (by omega) len (byteI len (byteI len i)) (byteH (byteH h)))
        obtain ⟨x, hx⟩ : ∃ x : Nat, belowX zs len (byteI len (byteI len i)) (byteH (byteH h)) 4 = x := ⟨(belowX zs len (byteI len (byteI len i)) (byteH (byteH h)) 4).toNat, by omega⟩
        rw [hx] at hb3
        have HX3 := Lib.hid hx
        obtain ⟨hx0, hx1⟩ := hb3
        clear hx
        go_wp2_with fail
        refine (specBelow w0 _ p a len cap _ _ 4 zs hr T2.out.cur hlen).mono ?_
        rintro e W3 ⟨rfl, hc3, hg3⟩
        rw [HX3.out]
        rw [HS3.out.1, HS3.out.2] at hc3
        have hs3 : W.heap.size ≤ W3.heap.size := Nat.le_trans T2.out.gr.size hg3.size
        have T3 := Lib.hid (T2.out.call hc3 hg3)
        clear hc3 hg3
        go_wp2
        go_loopw [5, 8] (fun out iv wr2 => ∃ (j : Nat) (l2 : List UInt8), j ≤ k ∧ iv = .int .i64 j ∧ TS w0 W wr2 p a len cap (byteI len (byteI len (byteI len i))) (byteH (byteH (byteH h))) out l2 ∧ l.length ≤ l2.length ∧ l2.length ≤ l.length + j) (fun _ iv _ => k - (intOf iv).toNat)
        case atStart => exact ⟨0, l, Nat.zero_le _, rfl, T3.out, Nat.le_refl _, by omega⟩
        case round =>
          obtain ⟨j, l2, hj, rfl, t2, hll, hll2⟩ := hrel
          have hs4 := t2.gr.size
          by_cases hjk : j < k
          · have T4 := Lib.hid t2
            clear t2
            go_wp2_with (at_builtin; refine wpList_append_own _ rfl _ _ 22 rfl W.heap.size 5 j0 (.int .u8 0) 1 1 Try.underlying22 kj kz0 kz1 kz2 rfl (by decide) _ _ _ rfl (T4.out.row.own.alloc _) ⟨wr.heap.size, 0, none⟩ 1 1 [.int .u8 (97 + (x : Int))] rfl rfl (cell_one_new _ _ _) (by simp [Value.oneCell']) (by unfold maxLen; omega) (by omega) (by simp; omega) ?_; intro v' w1 hown' hgrow _)
            have T5 := Lib.hid (T4.out.app (by omega) (by omega) hown' hgrow)
            go_roundw
            case rel => exact ⟨j + 1, _, by omega, by go_num, T5.out, by simp; omega, by simp; omega⟩
            case measure => simp [intOf]; omega
          · have T9 := Lib.hid t2
            go_wp2
            go_roundw
            case rel => exact ⟨_, _, _, T9.out, by omega⟩
            case measure =>
              rw [T9.out.meas, HT.out.meas]
              exact meas_lt hi hlt hll hn (by have := adv3 len i hi; rcases this with h1 | h1; exact Or.inl h1; exact Or.inr ⟨h1.1, Or.inr (rank_steps h (not_win h1.2 HR.out (by omega))).2.2⟩)
      · by_cases hl0 : l.length = 0
        · have hl1 : (l.length : Int) ≤ 0 := by omega
          clear hl0
          go_wp2
          go_roundw
          case rel => exact ⟨_, _, _, T1.out, by omega⟩
          case measure =>
            rw [T1.out.meas, HT.out.meas]
            exact meas_lt hi hlt (Nat.le_refl _) hn (by have := adv1 len i hi; rcases this with h1 | h1; exact Or.inl h1; exact Or.inr ⟨h1.1, Or.inr (rank_steps h (not_win h1.2 HR.out (by omega))).1⟩)
        · have hl1 : 0 < (l.length : Int) := by omega
          have hb2 := belowX_bd zs len (byteI len i) (byteH h) (l.length : Int) (by omega)
          have HS2 := Lib.hid (below_small (l.length : Int) (by omega) (by omega) len (byteI len i) (byteH h))
          obtain ⟨f, hf⟩ : ∃ f : Nat, belowX zs len (byteI len i) (byteH h) (l.length : Int) = f := ⟨(belowX zs len (byteI len i) (byteH h) (l.length : Int)).toNat, by omega⟩
          rw [hf] at hb2
          have HX2 := Lib.hid hf
          obtain ⟨hf0, hf1⟩ := hb2
          clear hf
          go_wp2_with fail
          refine (specBelow w0 _ p a len cap _ _ (l.length : Int) zs hr T1.out.cur hlen).mono ?_
          rintro e W2 ⟨rfl, hc2, hg2⟩
          rw [HX2.out]
          rw [HS2.out.1, HS2.out.2] at hc2
          have hs2 : W.heap.size ≤ W2.heap.size := Nat.le_trans T1.out.gr.size hg2.size
          have T2 := Lib.hid (T1.out.call hc2 hg2)
          clear hc2 hg2
          have hb3 := belowX_bd zs len (byteI len (byteI len i)) (byteH (byteH h)) 20 (by omega)
          have HS3 := Lib.hid (below_small 20 (by omega) (by omega) len (byteI len (byteI len i)) (byteH (byteH h)))
          obtain ⟨k, hk⟩ : ∃ k : Nat, belowX zs len (byteI len (byteI len i)) (byteH (byteH h)) 20 = k := ⟨(belowX zs len (byteI len (byteI len i)) (byteH (byteH h)) 20).toNat, by omega⟩
          rw [hk] at hb3
          have HX3 := Lib.hid hk
          obtain ⟨hk0, hk1⟩ := hb3
          clear hk
          go_wp2_with fail
          refine (specBelow w0 _ p a len cap _ _ 20 zs hr T2.out.cur hlen).mono ?_
          rintro e W3 ⟨rfl, hc3, hg3⟩
          rw [HX3.out]
          rw [HS3.out.1, HS3.out.2] at hc3
          have hs3 : W.heap.size ≤ W3.heap.size := Nat.le_trans T2.out.gr.size hg3.size
          have T3 := Lib.hid (T2.out.call hc3 hg3)
          clear hc3 hg3
          go_wp2
          go_loopw [5, 11] (fun out iv wr2 => ∃ (j : Nat) (l2 : List UInt8), j ≤ k ∧ iv = .int .i64 j ∧ TS w0 W wr2 p a len cap (byteI len (byteI len (byteI len i))) (byteH (byteH (byteH h))) out l2 ∧ l.length ≤ l2.length ∧ l2.length ≤ l.length + j) (fun _ iv _ => k - (intOf iv).toNat)
          case atStart => exact ⟨0, l, Nat.zero_le _, rfl, T3.out, Nat.le_refl _, by omega⟩
          case round =>
            obtain ⟨j, l2, hj, rfl, t2, hll, hll2⟩ := hrel
            have hs4 := t2.gr.size
            obtain ⟨g2, cp2, rfl, _, _, _, hcm2, hcells2⟩ := t2.form
            unfold maxLen at hcm2
            have HC2 := Lib.hid hcells2
            clear hcells2
            by_cases hjk : j < k
            · by_cases hfj : f + j < l2.length
              · have hcell := HC2.out (f + j) hfj
                have hbl := l2[f + j].toNat_lt
                obtain ⟨y, hy⟩ : ∃ y : Int, (l2[f + j].toNat : Int) = y := ⟨_, rfl⟩
                have hy0 : 0 ≤ y := by omega
                have hy1 : y ≤ 255 := by omega
                rw [hy] at hcell
                clear hy hbl
                have htn : ((f : Int) + (j : Int)).toNat = f + j := by omega
                have hfi : (f : Int) + (j : Int) < (l2.length : Int) := by omega
                have T4 := Lib.hid t2
                clear t2
                go_wp2_with (at_builtin; refine wpList_append_own _ rfl _ _ 22 rfl W.heap.size 5 j0 (.int .u8 0) 1 1 Try.underlying22 kj kz0 kz1 kz2 rfl (by decide) _ _ _ rfl (T4.out.row.own.alloc _) ⟨wr.heap.size, 0, none⟩ 1 1 [.int .u8 y] rfl rfl (cell_one_new _ _ _) (by simp [Value.oneCell']) (by unfold maxLen; omega) (by omega) (by simp; omega) ?_; intro v' w1 hown' hgrow _)
                have T5 := Lib.hid (T4.out.app (by omega) (by omega) hown' hgrow)
                go_roundw
                case rel => exact ⟨j + 1, _, by omega, by go_num, T5.out, by simp; omega, by simp; omega⟩
                case measure => simp [intOf]; omega
              · have hfi : (l2.length : Int) ≤ (f : Int) + (j : Int) := by omega
                have T9 := Lib.hid t2
                go_wp2
                go_roundw
                case rel => exact ⟨_, _, _, T9.out, by omega⟩
                case measure =>
                  rw [T9.out.meas, HT.out.meas]
                  exact meas_lt hi hlt hll hn (by have := adv3 len i hi; rcases this with h1 | h1; exact Or.inl h1; exact Or.inr ⟨h1.1, Or.inr (rank_steps h (not_win h1.2 HR.out (by omega))).2.2⟩)

            · have T9 := Lib.hid t2
              go_wp2
              go_roundw
              case rel => exact ⟨_, _, _, T9.out, by omega⟩
              case measure =>
                rw [T9.out.meas, HT.out.meas]
                exact meas_lt hi hlt hll hn (by have := adv3 len i hi; rcases this with h1 | h1; exact Or.inl h1; exact Or.inr ⟨h1.1, Or.inr (rank_steps h (not_win h1.2 HR.out (by omega))).2.2⟩)
      · have hb2 := belowX_bd zs len (byteI len i) (byteH h) 26 (by omega)
        have HS2 := Lib.hid (below_small 26 (by omega) (by omega) len (byteI len i) (byteH h))
        obtain ⟨x, hx⟩ : ∃ x : Nat, belowX zs len (byteI len i) (byteH h) 26 = x := ⟨(belowX zs len (byteI len i) (byteH h) 26).toNat, by omega⟩
        rw [hx] at hb2
        have HX2 := Lib.hid hx
        obtain ⟨hx0, hx1⟩ := hb2
        clear hx
        go_wp2_with fail
        refine (specBelow w0 _ p a len cap _ _ 26 zs hr T1.out.cur hlen).mono ?_
        rintro e W2 ⟨rfl, hc2, hg2⟩
        rw [HX2.out]
        rw [HS2.out.1, HS2.out.2] at hc2
        have hs2 : W.heap.size ≤ W2.heap.size := Nat.le_trans T1.out.gr.size hg2.size
        have T2 := Lib.hid (T1.out.call hc2 hg2)
        clear hc2 hg2
        go_wp2_with (at_builtin; refine wpList_append_own _ rfl _ _ 22 rfl W.heap.size 5 j0 (.int .u8 0) 1 1 Try.underlying22 kj kz0 kz1 kz2 rfl (by decide) _ _ _ rfl (T2.out.row.own.alloc _) ⟨W2.heap.size, 0, none⟩ 1 1 [.int .u8 (97 + (x : Int))] rfl rfl (cell_one_new _ _ _) (by simp [Value.oneCell']) (by unfold maxLen; omega) (by omega) (by simp; omega) ?_; intro v' w1 hown' hgrow _)
        have T3 := Lib.hid (T2.out.app (by omega) (by omega) hown' hgrow)
        go_roundw
        case rel => exact ⟨_, _, _, T3.out, by simp; omega⟩
        case measure =>
          rw [T3.out.meas, HT.out.meas]
          exact meas_lt hi hlt (by simp) hn (by have := adv2 len i hi; rcases this with h1 | h1; exact Or.inl h1; exact Or.inr ⟨h1.1, Or.inl (by simp)⟩)
      · have hb2 := belowX_bd zs len (byteI len i) (byteH h) 26 (by omega)
        have HS2 := Lib.hid (below_small 26 (by omega) (by omega) len (byteI len i) (byteH h))
        obtain ⟨x, hx⟩ : ∃ x : Nat, belowX zs len (byteI len i) (byteH h) 26 = x := ⟨(belowX zs len (byteI len i) (byteH h) 26).toNat, by omega⟩
        rw [hx] at hb2
        have HX2 := Lib.hid hx
        obtain ⟨hx0, hx1⟩ := hb2
        clear hx
        go_wp2_with fail
        refine (specBelow w0 _ p a len cap _ _ 26 zs hr T1.out.cur hlen).mono ?_
        rintro e W2 ⟨rfl, hc2, hg2⟩
        rw [HX2.out]
        rw [HS2.out.1, HS2.out.2] at hc2
        have hs2 : W.heap.size ≤ W2.heap.size := Nat.le_trans T1.out.gr.size hg2.size
        have T2 := Lib.hid (T1.out.call hc2 hg2)
        clear hc2 hg2
        go_wp2_with (at_builtin; refine wpList_append_own _ rfl _ _ 22 rfl W.heap.size 5 j0 (.int .u8 0) 1 1 Try.underlying22 kj kz0 kz1 kz2 rfl (by decide) _ _ _ rfl (T2.out.row.own.alloc _) ⟨W2.heap.size, 0, none⟩ 1 1 [.int .u8 (97 + (x : Int))] rfl rfl (cell_one_new _ _ _) (by simp [Value.oneCell']) (by unfold maxLen; omega) (by omega) (by simp; omega) ?_; intro v' w1 hown' hgrow _)
        have T3 := Lib.hid (T2.out.app (by omega) (by omega) hown' hgrow)
        go_roundw
        case rel => exact ⟨_, _, _, T3.out, by simp; omega⟩
        case measure =>
          rw [T3.out.meas, HT.out.meas]
          exact meas_lt hi hlt (by simp) hn (by have := adv2 len i hi; rcases this with h1 | h1; exact Or.inl h1; exact Or.inr ⟨h1.1, Or.inl (by simp)⟩)
    · have hcv := conv_cut (cp := cp) (n := n) (by omega) HC.out
      have hnc : (n : Int) ≤ (cp : Int) := by omega
      have hg0 : (⟨g, 0, none⟩ : Addr).add 0 = ⟨g, 0, none⟩ := by unfold Addr.add; split <;> simp_all
      go_wp2
      go_ret
      exact ⟨⟨l.take n, by simp; omega, rfl⟩, ⟨_, _, HT.out.cur⟩, HT.out.gr⟩
end Go.Proofs.Ytlkmpmlcjiiboaa
