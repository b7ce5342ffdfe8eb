/- The cursor of the draws: what its helpers answer, told as plain functions of the code's bytes and of the cursor's state. -/
import Derived.Test.YtnmlhjigiemfgaaBase
import Derived.Laws.OwnMore
import Derived.Laws.AppendOwn
import Derived.OwnWalk
namespace Go.Proofs.Ytnmlhjigiemfgaa
open Go.RowKit

/-- The next mixed number. -/
def byteH (h : Int) : Int := wrap64 (wrap64 (h * 6364136223846793005) + 1442695040888963407)
def mixH (h : Int) : Int := bits BinOp.and IntKind.i64 (bits BinOp.xor IntKind.i64 (h / 8589934592) (h / 35184372088832)) 255
/-- The next byte of a draw. -/
def byteX (zs : List Int) (len i : Nat) (h : Int) : Int :=
  if i < len then bits BinOp.and IntKind.i64 (mixH (byteH h) + zs.getD i 0) 255 else mixH (byteH h)
def byteI (len i : Nat) : Nat := if i < len then i + 1 else i

theorem i64_mask (n : Int) (k : Nat) (m : Int) (hk : k ≤ 62) (hm : (BitVec.ofInt 64 m).toNat = 2 ^ k - 1) : bits BinOp.and IntKind.i64 n m = n % ((2 ^ k : Nat) : Int) := by
  have key : (BitVec.ofInt 64 n &&& BitVec.ofInt 64 m).toNat = (n % ((2 ^ 64 : Nat) : Int)).toNat % 2 ^ k := by
    rw [BitVec.toNat_and, BitVec.toNat_ofInt, hm, Nat.and_two_pow_sub_one_eq_mod]
  show IntKind.i64.wrap ((BitVec.ofInt 64 n &&& BitVec.ofInt 64 m).toNat : Nat) = _
  rw [key, IntKind.wrap_i64]
  have hlt : (n % ((2 ^ 64 : Nat) : Int)).toNat % 2 ^ k < 2 ^ k := Nat.mod_lt _ (Nat.pow_pos (by decide))
  have hle : 2 ^ k ≤ 2 ^ 62 := Nat.pow_le_pow_right (by decide) hk
  have e1 : (((n % ((2 ^ 64 : Nat) : Int)).toNat % 2 ^ k : Nat) : Int) = n % ((2 ^ k : Nat) : Int) := by
    rw [Int.natCast_emod, Int.toNat_of_nonneg (Int.emod_nonneg _ (by decide))]
    exact Int.emod_emod_of_dvd n (Int.natCast_dvd_natCast.2 (Nat.pow_dvd_pow 2 (by omega)))
  rw [← e1]
  omega
theorem i64_and255 (n : Int) : bits BinOp.and IntKind.i64 n 255 = n % 256 := i64_mask n 8 255 (by decide) (by decide)
theorem i64_and30 (n : Int) : bits BinOp.and IntKind.i64 n 1073741823 = n % 1073741824 := i64_mask n 30 1073741823 (by decide) (by decide)
theorem and255 (x : Int) : 0 ≤ bits BinOp.and IntKind.i64 x 255 ∧ bits BinOp.and IntKind.i64 x 255 ≤ 255 := by rw [i64_and255]; omega
theorem byteX_bd (zs : List Int) (len i : Nat) (h : Int) : 0 ≤ byteX zs len i h ∧ byteX zs len i h ≤ 255 := by
  unfold byteX
  split
  · exact and255 _
  · exact and255 _

structure Cur (w0 W : World) (p : Nat) (a : Option Addr) (len cap i : Nat) (h : Int) : Prop where
  blk : W.heap[p]? = some (.cells #[.slice a len cap, .int .i64 i, .int .i64 h] 42 (0, 0))
  hi : i ≤ len
  below : Below w0.heap.size w0 W
  hp : w0.heap.size ≤ p

theorem cell_of_blk {W : World} {p : Nat} {cs : Array Value} {t : TypeId} (h : W.heap[p]? = some (.cells cs t (0, 0))) (j : Nat) : W.cell? ⟨p, j, none⟩ = cs[j]? ∧ W.frozen? ⟨p, j, none⟩ = false := by
  constructor
  · simp [World.cell?, h]
  · exact frozen_of_row W p j cs t h

/-- The code's byte at i, read in every world that keeps the old blocks. -/
theorem row_at {w0 W : World} {a : Option Addr} {len cap : Nat} {zs : List Int} (hr : IsRow .u8 w0 a len cap zs) (hb : Below w0.heap.size w0 W) (i : Nat) (hi : i < len) :
    ∃ b off, a = some ⟨b, off, none⟩ ∧ b < w0.heap.size ∧ W.cell? ⟨b, off + i, none⟩ = some (.int .u8 (zs.getD i 0)) ∧ 0 ≤ zs.getD i 0 ∧ zs.getD i 0 ≤ 255 := by
  rcases hr with ⟨_, rfl, _, _⟩ | ⟨x, rfl, hl, hm, hz, hcell, hwf⟩
  · omega
  · obtain ⟨b, off, spot⟩ := x
    have hc := hcell i (by omega)
    have hspot : spot = none := by simpa [Addr.add] using World.cell?_spot (hcell 0 (by omega))
    subst hspot
    have ea : (⟨b, off, none⟩ : Addr).add i = ⟨b, off + i, none⟩ := by unfold Addr.add; split <;> simp_all
    rw [ea] at hc
    have hlt := World.block_lt_of_cell? w0 _ hc
    have hw := hwf (zs.getD i 0) (by rw [List.getD_eq_getElem?_getD, List.getElem?_eq_getElem (by omega)]; exact List.getElem_mem _)
    simp [Lit.wf, IntKind.min, IntKind.max, IntKind.signed, IntKind.bits] at hw
    refine ⟨b, off, rfl, hlt, (hb.cell (p := ⟨b, off + i, none⟩) hlt).trans hc, ?_, ?_⟩ <;> simp <;> omega

theorem Cur.set {w0 W : World} {p : Nat} {a : Option Addr} {len cap i : Nat} {h : Int} (hc : Cur w0 W p a len cap i h) (h' : Int) : Cur w0 (W.setCell ⟨p, 2, none⟩ (.int .i64 h')) p a len cap i h' := by
  refine ⟨?_, hc.hi, hc.below.setCell hc.hp _, hc.hp⟩
  rw [heap_setCell_same W p 2 _ _ _ hc.blk]; rfl
theorem Cur.setI {w0 W : World} {p : Nat} {a : Option Addr} {len cap i : Nat} {h : Int} (hc : Cur w0 W p a len cap i h) (i' : Nat) (x : Int) (hx : x = i') (hi : i' ≤ len) : Cur w0 (W.setCell ⟨p, 1, none⟩ (.int .i64 x)) p a len cap i' h := by
  subst hx
  refine ⟨?_, hi, hc.below.setCell hc.hp _, hc.hp⟩
  rw [heap_setCell_same W p 1 _ _ _ hc.blk]; rfl
theorem Cur.drewN {w0 W : World} {p : Nat} {a : Option Addr} {len cap i : Nat} {h : Int} (hc : Cur w0 W p a len cap i h) (n : Nat) : Cur w0 (W.drewN n) p a len cap i h :=
  ⟨hc.blk, hc.hi, below_drewN hc.below n, hc.hp⟩

theorem grownBy_set (W : World) (p j : Nat) (v : Value) : W.grownBy (W.setCell ⟨p, j, none⟩ v) (some p) :=
  ⟨rfl, rfl, rfl, by simp [World.setCell], fun k _ hk => Below.heap_setCell W ⟨p, j, none⟩ v k (fun e => hk (by rw [e]))⟩
theorem grownBy_draws (W : World) (n : Nat) (row : Option Nat) : W.grownBy (W.drewN n) row := ⟨rfl, rfl, rfl, Nat.le_refl _, fun _ _ _ => rfl⟩
theorem grownBy_then {A B C : World} {row : Option Nat} (h : A.grownBy B row) (k : B.grownBy C row) : A.grownBy C row :=
  ⟨k.os.trans h.os, k.tape.trans h.tape, k.output.trans h.output, Nat.le_trans h.size k.size, fun i hi hr => (k.block i (Nat.lt_of_lt_of_le hi h.size) hr).trans (h.block i hi hr)⟩

set_option maxHeartbeats 1000000 in
theorem specByte (w0 W : World) (p : Nat) (a : Option Addr) (len cap i : Nat) (h : Int) (zs : List Int) (hr : IsRow .u8 w0 a len cap zs) (hc : Cur w0 W p a len cap i h) (hlen : len ≤ 1048576) :
    Calls Try.prog 28 #[.pointer (some ⟨p, 0, none⟩)] W fun e W' => e = .returned (.int .i64 (byteX zs len i h)) ∧ Cur w0 W' p a len cap (byteI len i) (byteH h) ∧ W.grownBy W' (some p) := by
  have c0 := (cell_of_blk hc.blk 0).1
  have c1 := (cell_of_blk hc.blk 1).1
  have c2 := (cell_of_blk hc.blk 2).1
  have f1 := (cell_of_blk hc.blk 1).2
  have f2 := (cell_of_blk hc.blk 2).2
  simp at c0 c1 c2
  have HC := Lib.hid hc
  have hi := hc.hi
  clear hc
  obtain ⟨h', hh⟩ : ∃ h', wrap64 (wrap64 (h * 6364136223846793005) + 1442695040888963407) = h' := ⟨_, rfl⟩
  obtain ⟨m, hm⟩ : ∃ m, bits BinOp.and IntKind.i64 (bits BinOp.xor IntKind.i64 (h' / 8589934592) (h' / 35184372088832)) 255 = m := ⟨_, rfl⟩
  have HH := Lib.hid hh
  have HM := Lib.hid hm
  have hm0 : 0 ≤ m := by rw [← hm]; exact (and255 _).1
  have hm1 : m ≤ 255 := by rw [← hm]; exact (and255 _).2
  by_cases hlt : i < len
  · obtain ⟨b, off, rfl, hbw, hz, hz0, hz1⟩ := row_at hr HC.out.below i hlt
    obtain ⟨z, hzz⟩ : ∃ z, z = zs.getD i 0 := ⟨_, rfl⟩
    rw [← hzz] at hz hz0 hz1
    have HZ := Lib.hid hzz
    have hne : ¬ b = p := by have := HC.out.hp; omega
    have hli : (i : Int) < (len : Int) := by omega
    clear hzz hr
    go_enter Try.func28, Try.ntmps28
    go_wp2
    go_quiet (fail)
    go_wp2
    go_quiet (fail)
    go_wp2
    go_quiet (fail)
    go_wp2
    go_ret
    refine ⟨ret_int ?_, ?_, ?_⟩
    · unfold byteX mixH byteH; rw [if_pos hlt, HH.out, HM.out, ← HZ.out]
    · rw [show byteI len i = i + 1 by unfold byteI; rw [if_pos hlt], show byteH h = h' from HH.out]
      exact ((HC.out.set h').drewN _).setI (i + 1) _ (by simp) (by omega)
    · exact grownBy_then (grownBy_then (grownBy_set W p 2 _) (grownBy_draws _ _ _)) (grownBy_set _ p 1 _)
  · go_enter Try.func28, Try.ntmps28
    go_wp2
    go_quiet (fail)
    go_wp2
    go_quiet (fail)
    go_wp2
    go_ret
    refine ⟨ret_int ?_, ?_, ?_⟩
    · unfold byteX mixH byteH; rw [if_neg hlt, HH.out, HM.out]
    · rw [show byteI len i = i by unfold byteI; rw [if_neg hlt], show byteH h = h' from HH.out]
      exact ((HC.out.set h').drewN _).drewN _
    · exact grownBy_then (grownBy_then (grownBy_set W p 2 _) (grownBy_draws _ _ _)) (grownBy_draws _ _ _)

/-- A number below n, and the cursor's state behind it. -/
def belowX (zs : List Int) (len i : Nat) (h n : Int) : Int :=
  if n ≤ 0 then 0 else if n ≤ 256 then byteX zs len i h % n
  else (byteX zs len i h * 16777216 + byteX zs len (byteI len i) (byteH h) * 65536 + byteX zs len (byteI len (byteI len i)) (byteH (byteH h)) * 256
    + byteX zs len (byteI len (byteI len (byteI len i))) (byteH (byteH (byteH h)))) % n
def belowI (len i : Nat) (n : Int) : Nat := if n ≤ 0 then i else if n ≤ 256 then byteI len i else byteI len (byteI len (byteI len (byteI len i)))
def belowH (h n : Int) : Int := if n ≤ 0 then h else if n ≤ 256 then byteH h else byteH (byteH (byteH (byteH h)))
theorem belowX_bd (zs : List Int) (len i : Nat) (h n : Int) (hn : 1 ≤ n) : 0 ≤ belowX zs len i h n ∧ belowX zs len i h n < n := by
  unfold belowX
  rw [if_neg (by omega)]
  split
  · exact ⟨Int.emod_nonneg _ (by omega), Int.emod_lt_of_pos _ (by omega)⟩
  · exact ⟨Int.emod_nonneg _ (by omega), Int.emod_lt_of_pos _ (by omega)⟩

set_option maxHeartbeats 1000000 in
theorem specBelow (w0 W : World) (p : Nat) (a : Option Addr) (len cap i : Nat) (h n : Int) (zs : List Int) (hr : IsRow .u8 w0 a len cap zs) (hc : Cur w0 W p a len cap i h) (hlen : len ≤ 1048576) :
    Calls Try.prog 21 #[.pointer (some ⟨p, 0, none⟩), .int .i64 n] W fun e W' => e = .returned (.int .i64 (belowX zs len i h n)) ∧ Cur w0 W' p a len cap (belowI len i n) (belowH h n) ∧ W.grownBy W' (some p) := by
  by_cases h0 : n ≤ 0
  · rw [show belowX zs len i h n = 0 by unfold belowX; rw [if_pos h0], show belowI len i n = i by unfold belowI; rw [if_pos h0], show belowH h n = h by unfold belowH; rw [if_pos h0]]
    go_enter Try.func21, Try.ntmps21
    go_wp2
    go_ret
    exact ⟨rfl, hc, World.grownBy.refl _ _⟩
  · by_cases h1 : n ≤ 256
    · rw [show belowX zs len i h n = byteX zs len i h % n by unfold belowX; rw [if_neg h0, if_pos h1], show belowI len i n = byteI len i by unfold belowI; rw [if_neg h0, if_pos h1], show belowH h n = byteH h by unfold belowH; rw [if_neg h0, if_pos h1]]
      have hb := byteX_bd zs len i h
      obtain ⟨hb1, hb2⟩ := hb
      have h2 : 1 ≤ n := by omega
      go_enter Try.func21, Try.ntmps21
      go_wp2_with (go_at_call 28; refine (specByte w0 _ p a len cap i h zs hr hc hlen).mono ?_; rintro e W' ⟨rfl, hc', hg⟩)
      go_ret
      exact ⟨rfl, hc', hg⟩
    · rw [show belowI len i n = byteI len (byteI len (byteI len (byteI len i))) by unfold belowI; rw [if_neg h0, if_neg h1], show belowH h n = byteH (byteH (byteH (byteH h))) by unfold belowH; rw [if_neg h0, if_neg h1]]
      have b1 := byteX_bd zs len i h
      have b2 := byteX_bd zs len (byteI len i) (byteH h)
      have b3 := byteX_bd zs len (byteI len (byteI len i)) (byteH (byteH h))
      have b4 := byteX_bd zs len (byteI len (byteI len (byteI len i))) (byteH (byteH (byteH h)))
      have HX := Lib.hid (show belowX zs len i h n = _ by unfold belowX; rw [if_neg h0, if_neg h1])
      obtain ⟨x1, hx1⟩ : ∃ x, x = byteX zs len i h := ⟨_, rfl⟩
      obtain ⟨x2, hx2⟩ : ∃ x, x = byteX zs len (byteI len i) (byteH h) := ⟨_, rfl⟩
      obtain ⟨x3, hx3⟩ : ∃ x, x = byteX zs len (byteI len (byteI len i)) (byteH (byteH h)) := ⟨_, rfl⟩
      obtain ⟨x4, hx4⟩ : ∃ x, x = byteX zs len (byteI len (byteI len (byteI len i))) (byteH (byteH (byteH h))) := ⟨_, rfl⟩
      rw [← hx1] at b1
      rw [← hx2] at b2
      rw [← hx3] at b3
      rw [← hx4] at b4
      obtain ⟨b10, b11⟩ := b1
      obtain ⟨b20, b21⟩ := b2
      obtain ⟨b30, b31⟩ := b3
      obtain ⟨b40, b41⟩ := b4
      have H1 := Lib.hid hx1
      have H2 := Lib.hid hx2
      have H3 := Lib.hid hx3
      have H4 := Lib.hid hx4
      have h2 : 257 ≤ n := by omega
      clear hx1 hx2 hx3 hx4
      go_enter Try.func21, Try.ntmps21
      go_wp2_with fail
      refine (specByte w0 _ p a len cap i h zs hr hc hlen).mono ?_
      rintro e W1 ⟨rfl, hc1, hg1⟩
      rw [← H1.out]
      go_wp2_with fail
      refine (specByte w0 _ p a len cap _ _ zs hr hc1 hlen).mono ?_
      rintro e W2 ⟨rfl, hc2, hg2⟩
      rw [← H2.out]
      go_wp2_with fail
      refine (specByte w0 _ p a len cap _ _ zs hr hc2 hlen).mono ?_
      rintro e W3 ⟨rfl, hc3, hg3⟩
      rw [← H3.out]
      go_wp2_with fail
      refine (specByte w0 _ p a len cap _ _ zs hr hc3 hlen).mono ?_
      rintro e W4 ⟨rfl, hc4, hg4⟩
      rw [← H4.out]
      go_wp2
      go_ret
      exact ⟨ret_int (by rw [HX.out, ← H1.out, ← H2.out, ← H3.out, ← H4.out]), hc4, grownBy_then (grownBy_then (grownBy_then hg1 hg2) hg3) hg4⟩

def hashN (zs : List Int) (len : Nat) : Nat → Int
  | 0 => 704704 + len
  | k + 1 => bits BinOp.and IntKind.i64 (hashN zs len k * 131 + zs.getD k 0 + 7) 1073741823
def kMax (len : Nat) : Nat := min len 4000
theorem kMax_is (len : Nat) : kMax len ≤ len ∧ kMax len ≤ 4000 ∧ (kMax len = len ∨ kMax len = 4000) := by unfold kMax; omega
def newH (zs : List Int) (len : Nat) : Int := hashN zs len (kMax len)
theorem hashN_bd (zs : List Int) (len : Nat) (hlen : len ≤ 1048576) (k : Nat) : 0 ≤ hashN zs len k ∧ hashN zs len k ≤ 1073741823 := by
  cases k with
  | zero => unfold hashN; omega
  | succ k => unfold hashN; rw [i64_and30]; omega

theorem cur_new (w0 W : World) (a : Option Addr) (len cap : Nat) (zs : List Int) (hb : Below w0.heap.size w0 W) (x : Int) (hx : x = newH zs len) :
    Cur w0 (W.alloc (.cells #[.slice a len cap, .int .i64 0, .int .i64 x] 42)) W.heap.size a len cap 0 (newH zs len) := by
  subst hx
  refine ⟨?_, Nat.zero_le _, hb.alloc hb.size _, hb.size⟩
  exact heap_alloc_new W _
theorem newH_eq (zs : List Int) (len k : Nat) (h : k = kMax len) : hashN zs len k = newH zs len := by subst h; rfl

set_option maxRecDepth 100000 in
set_option maxHeartbeats 1000000 in
theorem specNew (w0 W : World) (a : Option Addr) (len cap : Nat) (zs : List Int) (hr : IsRow .u8 w0 a len cap zs) (hb : Below w0.heap.size w0 W) (hlen : len ≤ 1048576) :
    Calls Try.prog 16 #[.slice a len cap] W fun e W' => e = .returned (.pointer (some ⟨W.heap.size, 0, none⟩)) ∧ Cur w0 W' W.heap.size a len cap 0 (newH zs len) ∧ Below W.heap.size W W' := by
  obtain ⟨km1, km2, km3⟩ := kMax_is len
  go_enter Try.func16, Try.ntmps16
  go_wp2
  go_loop [3, 4] (fun hv i => ∃ k : Nat, k ≤ kMax len ∧ i = .int .i64 k ∧ hv = .int .i64 (hashN zs len k)) (fun _ i => len - (intOf i).toNat)
  case atStart => exact ⟨0, Nat.zero_le _, rfl, rfl⟩
  case round =>
    obtain ⟨k, hk, rfl, rfl⟩ := hrel
    have hbd := hashN_bd zs len hlen k
    obtain ⟨hb0, hb1⟩ := hbd
    by_cases h1 : k < len
    · by_cases h2 : k < 4000
      · obtain ⟨b, off, ha, hbw, hz, hz0, hz1⟩ := row_at hr hb k h1
        obtain ⟨z, hzz⟩ : ∃ z, z = zs.getD k 0 := ⟨_, rfl⟩
        rw [← hzz] at hz hz0 hz1
        have HZ := Lib.hid hzz
        have HN := Lib.hid (show hashN zs len (k + 1) = bits BinOp.and IntKind.i64 (hashN zs len k * 131 + zs.getD k 0 + 7) 1073741823 from rfl)
        rw [ha]
        have hki : (k : Int) < (len : Int) := by omega
        clear hzz ha
        go_wp2
        go_round
        case rel => exact ⟨k + 1, by omega, by go_num, by rw [HN.out, ← HZ.out]⟩
        case measure => simp [intOf]; omega
      · have hk4 : k = kMax len := by omega
        have HK := Lib.hid hk4
        have h3 : 4000 ≤ (k : Int) := by omega
        clear km1 km2 km3
        clear hk4
        go_wp2
        go_ret
        exact ⟨rfl, cur_new w0 W a len cap zs hb _ (newH_eq zs len k HK.out), (Below.refl _ _).alloc (Nat.le_refl _) _⟩
    · have hk4 : k = kMax len := by omega
      have HK := Lib.hid hk4
      clear hk4
      go_wp2
      go_ret
      exact ⟨rfl, cur_new w0 W a len cap zs hb _ (newH_eq zs len k HK.out), (Below.refl _ _).alloc (Nat.le_refl _) _⟩

theorem specOnce (w0 W : World) (p : Nat) (a : Option Addr) (len cap i : Nat) (h n : Int) (zs : List Int) (hr : IsRow .u8 w0 a len cap zs) (hc : Cur w0 W p a len cap i h) (hlen : len ≤ 1048576) :
    Calls Try.prog 24 #[.pointer (some ⟨p, 0, none⟩), .int .i64 n] W fun e W' => e = .returned (.bool (belowX zs len i h n == 0)) ∧ Cur w0 W' p a len cap (belowI len i n) (belowH h n) ∧ W.grownBy W' (some p) := by
  go_enter Try.func24, Try.ntmps24
  go_wp2_with (go_at_call 21; refine (specBelow w0 _ p a len cap i h n zs hr hc hlen).mono ?_; rintro e W' ⟨rfl, hc', hg⟩)
  go_ret
  exact ⟨rfl, hc', hg⟩

theorem Cur.alloc {w0 W : World} {p : Nat} {a : Option Addr} {len cap i : Nat} {h : Int} (hc : Cur w0 W p a len cap i h) (o : Obj) : Cur w0 (W.alloc o) p a len cap i h :=
  ⟨(Below.heap_alloc W o p (Array.getElem?_eq_some_iff.1 hc.blk).1).trans hc.blk, hc.hi, hc.below.alloc hc.below.size o, hc.hp⟩
theorem Cur.lt {w0 W : World} {p : Nat} {a : Option Addr} {len cap i : Nat} {h : Int} (hc : Cur w0 W p a len cap i h) : p < W.heap.size := (Array.getElem?_eq_some_iff.1 hc.blk).1
theorem Cur.on {w0 W W' : World} {p : Nat} {a : Option Addr} {len cap i : Nat} {h : Int} (hc : Cur w0 W p a len cap i h) (hb : Below W.heap.size W W') : Cur w0 W' p a len cap i h :=
  ⟨(hb.block p hc.lt).trans hc.blk, hc.hi, hc.below.trans (hb.mono hc.below.size), hc.hp⟩
/-- A row of cells of the call's own, apart from the cursor. -/
theorem cell_grown {W W' : World} {p g j : Nat} {v : Value} (hg : W.grownBy W' (some p)) (h : W.cell? ⟨g, j, none⟩ = some v) (hne : g ≠ p) : W'.cell? ⟨g, j, none⟩ = some v :=
  hg.cell h (by simp; exact hne)

/-- list[Below(len(list))] of a list of texts that was just laid. -/
theorem specPick (w0 W : World) (p : Nat) (a : Option Addr) (len cap i : Nat) (h : Int) (zs : List Int) (hr : IsRow .u8 w0 a len cap zs) (hc : Cur w0 W p a len cap i h) (hlen : len ≤ 1048576)
    (g L : Nat) (ls : List ByteArray) (hL : ls.length = L) (hl : 1 ≤ L) (hl2 : L ≤ 256) (hcells : ∀ j (hj : j < ls.length), W.cell? ⟨g, j, none⟩ = some (.string ls[j])) (hne : g ≠ p) :
    Calls Try.prog 22 #[.pointer (some ⟨p, 0, none⟩), .slice (some ⟨g, 0, none⟩) L L] W fun e W' =>
      e = .returned (.string (ls.getD (belowX zs len i h L).toNat ⟨#[]⟩)) ∧ Cur w0 W' p a len cap (belowI len i L) (belowH h L) ∧ W.grownBy W' (some p) := by
  have hbd := belowX_bd zs len i h L (by omega)
  obtain ⟨x, hx⟩ : ∃ x : Nat, belowX zs len i h L = x := ⟨(belowX zs len i h L).toNat, by omega⟩
  rw [hx] at hbd ⊢
  have hxl : x < ls.length := by omega
  have HX := Lib.hid hx
  have HC := Lib.hid hcells
  obtain ⟨v, hv⟩ : ∃ v, v = ls.getD x ⟨#[]⟩ := ⟨_, rfl⟩
  have HV := Lib.hid (show ls[x] = v by rw [hv, List.getD_eq_getElem?_getD, List.getElem?_eq_getElem hxl]; rfl)
  have HV2 := Lib.hid hv
  have hxi : (x : Int) < (L : Int) := by omega
  clear hx hcells hv hbd hL
  go_enter Try.func22, Try.ntmps22
  go_wp2_with (go_at_call 21; refine (specBelow w0 _ p a len cap i h L zs hr hc hlen).mono ?_; rintro e W' ⟨rfl, hc', hg⟩; rw [HX.out]; have hcx := (cell_grown hg (HC.out x hxl) hne).trans (by rw [HV.out]))
  go_ret
  exact ⟨ret_str (by rw [HV2.out]; rfl), hc', hg⟩

/-- What n picks in a row make of a text. -/
def pickN (ls : List ByteArray) (zs : List Int) (len : Nat) : Nat → Nat → Int → List UInt8 → List UInt8
  | 0, _, _, acc => acc
  | n + 1, i, h, acc => pickN ls zs len n (belowI len i ls.length) (belowH h ls.length) (acc ++ (ls.getD (belowX zs len i h ls.length).toNat ⟨#[]⟩).data.toList)
theorem pick_len (ls : List ByteArray) (m : Nat) (hm : ∀ x ∈ ls, x.size ≤ m) (j : Nat) : (ls.getD j ⟨#[]⟩).size ≤ m := by
  rw [List.getD_eq_getElem?_getD]
  by_cases h : j < ls.length
  · rw [List.getElem?_eq_getElem h]; exact hm _ (List.getElem_mem h)
  · rw [List.getElem?_eq_none (by omega)]; exact Nat.zero_le _
theorem cells_lit (W : World) (cs : Array Value) (t : TypeId) (ls : List ByteArray) (h : cs.toList = ls.map Value.string) (j : Nat) (hj : j < ls.length) :
    (W.alloc (.cells cs t)).cell? ⟨W.heap.size, j, none⟩ = some (.string ls[j]) := by
  have e : (W.alloc (.cells cs t)).cell? ⟨W.heap.size, j, none⟩ = cs[j]? := World.cell?_alloc_at cs t _ j rfl
  rw [e, ← Array.getElem?_toList, h, List.getElem?_map, List.getElem?_eq_getElem hj]; rfl
end Go.Proofs.Ytnmlhjigiemfgaa
