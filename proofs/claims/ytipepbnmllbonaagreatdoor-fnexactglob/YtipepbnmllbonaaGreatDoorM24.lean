/- spec.l05All. slices.Index over bools. -/
import Derived.Test.YtipepbnmllbonaaGreatDoorM23
import Derived.Deep.OwnRows
import Derived.Deep.RegionHeld3
import Derived.Deep.DeepFit
import Derived.Test.YtipepbnmllbonaaGreatDoorM22
namespace Go.Proofs.YtipepbnmllbonaaGreatDoor
open Go.RowKit
open Go.Deep

/-- A row of bools, its content by the index. -/
def BRow (W : World) (g n : Nat) (F : Nat → Bool) : Prop := W.rowIs g 4 n fun i => .bool (F i)
def upto (k : Nat) (G : Nat → Bool) (i : Nat) : Bool := decide (i < k) && G i
theorem BRow.cell {W : World} {g n : Nat} {F : Nat → Bool} (h : BRow W g n F) {i : Nat} (hi : i < n) : W.cell? ⟨g, i, none⟩ = some (.bool (F i)) := World.rowIs.cell h hi
theorem BRow.frozen {W : World} {g n : Nat} {F : Nat → Bool} (h : BRow W g n F) (i : Nat) : W.frozen? ⟨g, i, none⟩ = false := World.rowIs.frozen h i
theorem BRow.put {W : World} {g n k : Nat} {G : Nat → Bool} (h : BRow W g n (upto k G)) (b : Bool) (hb : b = G k) : BRow (W.setCell ⟨g, k, none⟩ (.bool b)) g n (upto (k + 1) G) := by
  subst hb
  refine World.rowIs.congr (World.rowIs.set h k _) fun i hi => ?_
  by_cases e : i = k
  · subst e; simp [upto]
  · have : (i < k + 1) = (i < k) := by simp; omega
    simp [e, upto, this]
theorem BRow.skip {W : World} {g n k : Nat} {G : Nat → Bool} (h : BRow W g n (upto k G)) (hb : G k = false) : BRow W g n (upto (k + 1) G) := by
  refine World.rowIs.congr h fun i hi => ?_
  by_cases e : i = k
  · subst e; simp [upto, hb]
  · have : (i < k + 1) = (i < k) := by simp; omega
    simp [upto, this]
theorem BRow.full {W : World} {g n : Nat} {G : Nat → Bool} (h : BRow W g n (upto n G)) : BRow W g n G :=
  World.rowIs.congr h fun i hi => by simp [upto, hi]
theorem BRow.made (W : World) (n : Nat) (G : Nat → Bool) : BRow (W.alloc (.cells (madeCells #[.bool false] n) 4)) W.heap.size n (upto 0 G) :=
  World.rowIs.congr (World.rowIs_made W (.bool false) n 4) fun i hi => by simp [upto]
theorem BRow.first (W : World) (n : Nat) : BRow (W.alloc (.cells ((madeCells #[.bool false] n).setIfInBounds 0 (.bool true)) 4)) W.heap.size n (fun k => k == 0) := by
  refine ⟨_, blk_alloc_new _ _, by rw [Array.size_setIfInBounds]; exact size_madeCells _ _, fun i hi => ?_⟩
  rw [Array.getElem?_setIfInBounds]
  cases i with
  | zero => rw [if_pos rfl, if_pos (by rw [size_madeCells]; omega)]; rfl
  | succ i => rw [if_neg (by omega)]; simp [madeCells, hi, Nat.mod_one]
theorem BRow.alloc {W : World} {g n : Nat} {F : Nat → Bool} (h : BRow W g n F) (o : Obj) : BRow (W.alloc o) g n F := World.rowIs.alloc h o
theorem BRow.other {W : World} {g n : Nat} {F : Nat → Bool} (h : BRow W g n F) {a : Addr} (ha : g ≠ a.block) (v : Value) : BRow (W.setCell a v) g n F := World.rowIs.setOther h ha v
theorem BRow.lt {W : World} {g n : Nat} {F : Nat → Bool} (h : BRow W g n F) : g < W.heap.size := World.rowIs.lt h
theorem BRow.drew {W : World} {g n : Nat} {F : Nat → Bool} (h : BRow W g n F) : BRow W.drew g n F := h
theorem infoBool : (Tryz.prog.info? 4).map (fun i => (i.zero, i.size, i.bytes)) = some (some (.bool false), 1, 1) := by kernel_rfl
theorem makeBools (n : Nat) (h : n ≤ 1000) (W : World) : (Instr.makeSlice 136 (.int .i64 ((n : Int) + 1)) (.int .i64 ((n : Int) + 1))).run Tryz.prog W = .ok (.slice (some ⟨W.heap.size, 0, none⟩) (n + 1) (n + 1)) (W.alloc (.cells (madeCells #[.bool false] (n + 1)) 4)) := by
  have := run_make_row' (P := Tryz.prog) 136 4 (.bool false) 1 Tryz.underlying136 infoBool rfl .i64 .i64 (n + 1) (by omega) (by omega) W
  simpa using this
theorem cutTo (s : ByteArray) (k : Nat) (x : Int) (hx : x = k) (h : k ≤ s.size) (W : World) : (Instr.slice 9 (.string s) none (some (.int .i64 x)) none).run Tryz.prog W = .ok (.string (s.extract 0 k)) W := by
  subst hx
  rw [run_slice_string_h (w := W) (t := 9) (s := s) (kh := .i64) (h := (k : Int)) (ht := Tryz.underlying9) (h0 := by omega) (h2 := by omega)]
  rfl
/-- What is left of a pattern ends at the answer. -/
def RunsTo (name l : List UInt8) (F : Nat → Bool) (m : Nat) (T : Bool) : Prop := ∃ ps, piecesL l = some ps ∧ runF name ps F m = T
theorem RunsTo.done {name : List UInt8} {F : Nat → Bool} {m : Nat} {T : Bool} (h : RunsTo name [] F m T) : F m = T := by
  obtain ⟨ps, h1, h2⟩ := h
  rw [piecesL_nil] at h1
  cases h1
  exact h2
theorem RunsTo.cut {name l : List UInt8} {F : Nat → Bool} {m : Nat} {T : Bool} (h : RunsTo name l F m T) (hne : l ≠ []) : ∃ p n, pieceL l = some (p, n) ∧ RunsTo name (l.drop n) (stepF name p F) m T := by
  obtain ⟨ps, h1, h2⟩ := h
  cases hp : pieceL l with
  | none => rw [piecesL_none hne hp] at h1; cases h1
  | some y =>
    obtain ⟨p, n⟩ := y
    rw [piecesL_some hp] at h1
    obtain ⟨ps2, h3, h4⟩ := Option.map_eq_some_iff.1 h1
    refine ⟨p, n, rfl, ps2, h3, ?_⟩
    rw [← h2, ← h4]; rfl
/-- One byte of a name under one piece. -/
theorem specAt (s q : ByteArray) (i n k : Nat) (p : Pc) (hs : s.size ≤ 60) (hp : pieceL (s.data.toList.drop i) = some (p, n)) (hst : p.isStar = false) (hk : k < q.size) (hq : q.size ≤ 1000) (w : World) :
    Calls Tryz.prog 165 #[.string (s.extract 0 (i + n)), .int .i64 i, .string (q.extract 0 (k + 1)), .int .i64 k] w fun e w' => e = .returned (.bool (hasAt q.data.toList p k)) ∧ w = w' := by
  have h1 := (pieceL_pos hp).2
  have h0 := (pieceL_pos hp).1
  have hsz : s.data.toList.length = s.size := by simp
  have hqz : q.data.toList.length = q.size := by simp
  rw [List.length_drop] at h1
  have hc : q.data.toList[k]? = some (q.data.toList[k]'(by omega)) := List.getElem?_eq_getElem _
  rw [hasAt_some hc]
  refine matchOne (s.extract 0 (i + n)) (q.extract 0 (k + 1)) i n k p _ (by simp; omega) ?_ hst (by simp; omega) (by simp; omega) (by simp; omega) ?_ w
  · rw [Lib.extract_data]
    simp only [List.drop_zero, Nat.sub_zero]
    rw [List.drop_take, Nat.add_sub_cancel_left]
    exact pieceL_take hp
  · rw [Lib.extract_data]
    simp only [List.drop_zero, Nat.sub_zero]
    rw [List.getElem?_take_of_lt (by omega)]
    exact hc
/-- Where the piece at a place ends. -/
theorem piece_end {s : ByteArray} {i n : Nat} {p : Pc} {x : UInt8} (hD : s.data.toList.drop i = x :: s.data.toList.drop (i + 1)) (hp : pieceL (s.data.toList.drop i) = some (p, n)) :
    ((x.toNat : Int) == 42) = p.isStar ∧
    ((x.toNat = 91 ∧ ∃ e, setO s.data.toList i = some e ∧ e + 1 = i + n) ∨ (x.toNat = 92 ∧ i + 2 = i + n) ∨ (x.toNat ≠ 91 ∧ x.toNat ≠ 92 ∧ i + 1 = i + n)) := by
  by_cases h3 : x = 91
  · subst h3
    cases hO : setO s.data.toList i with
    | none => rw [setO_none hD hO] at hp; cases hp
    | some e0 =>
      obtain ⟨m, hm1, hm2, hp2, he1, he2, he3⟩ := setO_some hD hO
      rw [hp2] at hp
      cases hp
      refine ⟨rfl, .inl ⟨rfl, e0, rfl, ?_⟩⟩
      omega
  by_cases h4 : x = 92
  · subst h4
    rw [hD] at hp
    cases hr : s.data.toList.drop (i + 1) with
    | nil => rw [hr] at hp; cases hp
    | cons d t =>
      rw [hr, pieceL_esc] at hp
      cases hp
      exact ⟨rfl, .inr (.inl ⟨rfl, rfl⟩)⟩
  have n3 : x.toNat ≠ 91 := fun e => h3 (u8_is (c := 91) e)
  have n4 : x.toNat ≠ 92 := fun e => h4 (u8_is (c := 92) e)
  rw [hD] at hp
  by_cases h1 : x = 42
  · subst h1
    rw [pieceL_star] at hp; cases hp
    exact ⟨rfl, .inr (.inr ⟨n3, n4, rfl⟩)⟩
  have n1 : ((x.toNat : Int) == 42) = false := byte_f fun e => h1 (u8_is (c := 42) e)
  by_cases h2 : x = 63
  · subst h2
    rw [pieceL_any] at hp; cases hp
    exact ⟨rfl, .inr (.inr ⟨n3, n4, rfl⟩)⟩
  rw [pieceL_sign _ h1 h2 h3 h4] at hp
  cases hp
  exact ⟨n1, .inr (.inr ⟨n3, n4, rfl⟩)⟩

set_option maxRecDepth 100000 in
set_option maxHeartbeats 8000000 in
theorem specAll (s q : ByteArray) (hs : s.size ≤ 60) (hq : q.size ≤ 1000) (T : Bool) (hp : RunsTo q.data.toList s.data.toList (fun k => k == 0) q.size T) (w : World) :
    Calls Tryz.prog 131 #[.string s, .string q] w fun e w' => e = .returned (.bool T) ∧ Below w.heap.size w w' := by
  have HT := Lib.hid hp
  have hmk := fun W => makeBools q.size hq W
  have hsi : (s.size : Int) ≤ 60 := by omega
  have hqi : (q.size : Int) ≤ 1000 := by omega
  have hmc := fun W : World => (BRow.made W (q.size + 1) (fun _ => false)).cell (i := 0) (by omega)
  have hmf := fun W : World => (BRow.made W (q.size + 1) (fun _ => false)).frozen 0
  simp only [upto, Bool.and_false] at hmc
  clear hp
  go_enter Tryz.func131, Tryz.ntmps131
  go_wp2
  go_loopw [5, 6, 7, 8, 9] (fun mv iv _ _ _ wr => ∃ g i F, mv = .slice (some ⟨g, 0, none⟩) (q.size + 1) (q.size + 1) ∧ iv = .int .i64 ((i : Nat) : Int) ∧ i ≤ s.size ∧ w.heap.size ≤ g ∧ BRow wr g (q.size + 1) F ∧ Below w.heap.size w wr ∧ Hid (RunsTo q.data.toList (s.data.toList.drop i) F q.size T)) (fun _ iv _ _ _ _ => s.size - (intOf iv).toNat)
  case atStart => exact ⟨w.heap.size, 0, fun k => k == 0, rfl, rfl, Nat.zero_le _, Nat.le_refl _, BRow.first w (q.size + 1), (Below.refl _ _).alloc (Nat.le_refl _) _, HT⟩
  case round =>
    clear HT hmc hmf
    revert wr
    intro W0 hrel
    obtain ⟨g, i, F, rfl, rfl, hi, hg, hR, hb, HR⟩ := hrel
    have HRow := Lib.hid hR
    have HB := Lib.hid hb
    have hgl := hR.lt
    have hwsz := hb.size
    clear hR hb
    by_cases h1 : i < s.size
    rotate_left
    · have h1i : ¬ (i : Int) < (s.size : Int) := by omega
      have hE : F q.size = T := by
        have := HR.out
        rw [List.drop_eq_nil_of_le (by simp; omega)] at this
        exact this.done
      have hc := HRow.out.cell (i := q.size) (by omega)
      rw [hE] at hc
      clear hE HR
      go_wp2
      go_ret
      exact ⟨rfl, HB.out⟩
    have h1i : (i : Int) < (s.size : Int) := by omega
    have hD := drop_one _ (at_byte s i h1)
    obtain ⟨x, hx⟩ : ∃ x : UInt8, s[i] = x := ⟨_, rfl⟩
    rw [hx] at hD
    obtain ⟨p, n, hp, hrun⟩ := HR.out.cut (by rw [hD]; simp)
    obtain ⟨hstar, hend⟩ := piece_end hD hp
    have hn := pieceL_pos hp
    rw [List.drop_drop] at hrun
    have hjn : i + n ≤ s.size := by
      have := hn.2
      rw [List.length_drop] at this
      have : s.data.toList.length = s.size := by simp
      omega
    have hij : i < i + n := by omega
    have CM0 := Lib.hid (fun k (hst : p.isStar = false) (hk : k < q.size) W => specAt s q i n k p hs hp hst hk hq W)
    generalize i + n = j at hrun hend hjn hij CM0
    have HN := Lib.hid hrun
    clear hrun hp HR hD hn
    rcases hend with ⟨h3, e0, hO, he⟩ | ⟨h3, he⟩ | ⟨h3, h4, he⟩
    · have c3 : ((x.toNat : Int) == 91) = true := byte_t h3
      have n4 : x.toNat ≠ 92 := by omega
      have c4 : ((x.toNat : Int) == 92) = false := byte_f n4
      clear n4
      have CS := Lib.hid (fun W => specSet_loop s i h1 hs W)
      rw [hO] at CS
      have CS2 := Lib.hid (show ∀ W : World, Calls Tryz.prog 164 #[.string s, .int .i64 i] W fun e w' => e = .returned (.int .i64 e0) ∧ W = w' from CS.out)
      have HZ := Lib.hid (show (e0 : Int) + 1 = (j : Int) by omega)
      have hsl := fun W => cutTo s j ((e0 : Int) + 1) HZ.out hjn W
      have he0i : (e0 : Int) ≤ 59 := by omega
      clear CS hO h3 he
      go_wp2_with fail
      refine (CS2.out _).mono ?_
      rintro e W1 ⟨rfl, rfl⟩
      clear CS2
      go_wp2_with fail
      go_loopw [9] (fun kv wr2 => ∃ k : Nat, kv = .int .i64 (k : Int) ∧ k ≤ q.size + 1 ∧ BRow wr2 g (q.size + 1) F ∧ BRow wr2 W0.heap.size (q.size + 1) (upto k (stepF q.data.toList p F)) ∧ Below w.heap.size w wr2) (fun kv _ => q.size + 1 - (intOf kv).toNat)
      case atStart => exact ⟨0, rfl, Nat.zero_le _, HRow.out.alloc _, BRow.made _ _ _, HB.out.alloc hwsz _⟩
      case round =>
        clear HRow HB hmk
        obtain ⟨k, rfl, hk, hR1, hR2, hb2⟩ := hrel
        have HR1 := Lib.hid hR1
        have HR2 := Lib.hid hR2
        have HB2 := Lib.hid hb2
        clear hR1 hR2 hb2
        by_cases hk1 : k ≤ q.size
        rotate_left
        · have hki : ¬ (k : Int) ≤ (q.size : Int) := by omega
          have hke : k = q.size + 1 := by omega
          have HF := Lib.hid (show BRow wr W0.heap.size (q.size + 1) (stepF q.data.toList p F) by have := HR2.out; rw [hke] at this; exact this.full)
          clear hke hk
          go_wp2
          go_roundw
          case rel => exact ⟨W0.heap.size, j, stepF q.data.toList p F, rfl, congrArg _ HZ.out, hjn, hwsz, HF.out, HB2.out, HN⟩
          case measure => simp [intOf]; have := HZ.out; omega
        have hki : (k : Int) ≤ (q.size : Int) := by omega
        have hkl : (k : Int) < (q.size : Int) + 1 := by omega
        obtain ⟨v0, hv0⟩ : ∃ v0, upto k (stepF q.data.toList p F) k = v0 := ⟨_, rfl⟩
        have hcn := HR2.out.cell (i := k) (by omega)
        rw [hv0] at hcn
        clear hv0
        have hfn := HR2.out.frozen k
        have HG := Lib.hid (show g ≠ W0.heap.size by omega)
        cases hst : p.isStar with
        | true =>
          rw [hst] at hstar
          have HS := Lib.hid (show stepF q.data.toList p F = starF F by unfold stepF; rw [hst]; rfl)
          have hcm := HR1.out.cell (i := k) (by omega)
          clear hst hsl CM0
          cases hF : F k with
          | true =>
            rw [hF] at hcm
            have HV := Lib.hid (show true = stepF q.data.toList p F k by rw [HS.out]; cases k <;> unfold starF <;> rw [hF] <;> rfl)
            clear hF
            go_wp2
            go_roundw
            case rel => exact ⟨k + 1, by go_num, by omega, HR1.out.other HG.out _, HR2.out.put true HV.out, HB2.out.setCell hwsz _⟩
            case measure => simp [intOf]; omega
          | false =>
            rw [hF] at hcm
            cases k with
            | zero =>
              have HV := Lib.hid (show false = stepF q.data.toList p F 0 by rw [HS.out]; unfold starF; rw [hF])
              clear hF
              go_wp2
              go_roundw
              case rel => exact ⟨0 + 1, by go_num, by omega, HR1.out.other HG.out _, HR2.out.put false HV.out, HB2.out.setCell hwsz _⟩
              case measure => simp [intOf]
            | succ k =>
              obtain ⟨b, hb⟩ : ∃ b, stepF q.data.toList p F k = b := ⟨_, rfl⟩
              have hcp := HR2.out.cell (i := k) (by omega)
              rw [show upto (k + 1) (stepF q.data.toList p F) k = b by simp [upto, hb]] at hcp
              have HV := Lib.hid (show b = stepF q.data.toList p F (k + 1) by rw [← hb, HS.out, starF, hF]; rfl)
              have hk0 : (k : Int) < (q.size : Int) := by omega
              clear hF hb
              go_wp2
              go_roundw
              case rel => exact ⟨k + 1 + 1, by go_num, by omega, HR1.out.other HG.out _, HR2.out.put b HV.out, HB2.out.setCell hwsz _⟩
              case measure => simp [intOf]; omega
        | false =>
          rw [hst] at hstar
          cases k with
          | zero =>
            have HV := Lib.hid (stepF_zero (name := q.data.toList) F hst)
            clear hst hsl CM0
            go_wp2
            go_roundw
            case rel => exact ⟨0 + 1, by go_num, by omega, HR1.out, HR2.out.skip HV.out, HB2.out⟩
            case measure => simp [intOf]
          | succ k =>
            have hcm := HR1.out.cell (i := k) (by omega)
            have hk0 : (k : Int) < (q.size : Int) := by omega
            cases hF : F k with
            | false =>
              rw [hF] at hcm
              have HV := Lib.hid (show stepF q.data.toList p F (k + 1) = false by rw [stepF_succ F k hst, hF]; rfl)
              clear hF hst hsl CM0
              go_wp2
              go_roundw
              case rel => exact ⟨k + 1 + 1, by go_num, by omega, HR1.out, HR2.out.skip HV.out, HB2.out⟩
              case measure => simp [intOf]; omega
            | true =>
              rw [hF] at hcm
              have HV := Lib.hid (show hasAt q.data.toList p k = stepF q.data.toList p F (k + 1) by rw [stepF_succ F k hst, hF]; rfl)
              have hw : IntKind.i64.wrap (k : Int) = (k : Int) := IntWalk.i64_in _ (by omega)
              have hkl2 : (k : Int) + 1 < (q.size : Int) + 1 := by omega
              have hkl3 : (0 : Int) ≤ (k : Int) + 1 := by omega
              have CM := Lib.hid (fun W => CM0.out k hst (by omega) W)
              rw [← hw] at CM
              clear hw
              have hslq := fun W => cutTo q (k + 1) ((k : Int) + 1) (by omega) (by omega) W
              generalize hasAt q.data.toList p k = b at CM HV
              clear hF hst CM0
              go_wp2_with fail
              go_region_held3 (fun _ => True) (trivial) (first | (go_at_call 165; go_fit (CM.out _); rintro e W2 ⟨rfl, rfl⟩))
              all_goals (go_wp2_with fail; go_roundw)
              all_goals first
                | exact ⟨k + 1 + 1, by go_num, by omega, (HR1.out.other HG.out _).drew, (HR2.out.put b HV.out).drew, (HB2.out.setCell hwsz _).drew⟩
                | (simp [intOf]; omega)
    · have n4 : x.toNat ≠ 91 := by omega
      have c3 : ((x.toNat : Int) == 91) = false := byte_f n4
      clear n4
      have c4 : ((x.toNat : Int) == 92) = true := byte_t h3
      have HZ := Lib.hid (show (i : Int) + 2 = (j : Int) by omega)
      have hsl := fun W => cutTo s j ((i : Int) + 2) HZ.out hjn W
      clear h3 he
      go_wp2_with fail
      go_loopw [9] (fun kv wr2 => ∃ k : Nat, kv = .int .i64 (k : Int) ∧ k ≤ q.size + 1 ∧ BRow wr2 g (q.size + 1) F ∧ BRow wr2 W0.heap.size (q.size + 1) (upto k (stepF q.data.toList p F)) ∧ Below w.heap.size w wr2) (fun kv _ => q.size + 1 - (intOf kv).toNat)
      case atStart => exact ⟨0, rfl, Nat.zero_le _, HRow.out.alloc _, BRow.made _ _ _, HB.out.alloc hwsz _⟩
      case round =>
        clear HRow HB hmk
        obtain ⟨k, rfl, hk, hR1, hR2, hb2⟩ := hrel
        have HR1 := Lib.hid hR1
        have HR2 := Lib.hid hR2
        have HB2 := Lib.hid hb2
        clear hR1 hR2 hb2
        by_cases hk1 : k ≤ q.size
        rotate_left
        · have hki : ¬ (k : Int) ≤ (q.size : Int) := by omega
          have hke : k = q.size + 1 := by omega
          have HF := Lib.hid (show BRow wr W0.heap.size (q.size + 1) (stepF q.data.toList p F) by have := HR2.out; rw [hke] at this; exact this.full)
          clear hke hk
          go_wp2
          go_roundw
          case rel => exact ⟨W0.heap.size, j, stepF q.data.toList p F, rfl, congrArg _ HZ.out, hjn, hwsz, HF.out, HB2.out, HN⟩
          case measure => simp [intOf]; have := HZ.out; omega
        have hki : (k : Int) ≤ (q.size : Int) := by omega
        have hkl : (k : Int) < (q.size : Int) + 1 := by omega
        obtain ⟨v0, hv0⟩ : ∃ v0, upto k (stepF q.data.toList p F) k = v0 := ⟨_, rfl⟩
        have hcn := HR2.out.cell (i := k) (by omega)
        rw [hv0] at hcn
        clear hv0
        have hfn := HR2.out.frozen k
        have HG := Lib.hid (show g ≠ W0.heap.size by omega)
        cases hst : p.isStar with
        | true =>
          rw [hst] at hstar
          have HS := Lib.hid (show stepF q.data.toList p F = starF F by unfold stepF; rw [hst]; rfl)
          have hcm := HR1.out.cell (i := k) (by omega)
          clear hst hsl CM0
          cases hF : F k with
          | true =>
            rw [hF] at hcm
            have HV := Lib.hid (show true = stepF q.data.toList p F k by rw [HS.out]; cases k <;> unfold starF <;> rw [hF] <;> rfl)
            clear hF
            go_wp2
            go_roundw
            case rel => exact ⟨k + 1, by go_num, by omega, HR1.out.other HG.out _, HR2.out.put true HV.out, HB2.out.setCell hwsz _⟩
            case measure => simp [intOf]; omega
          | false =>
            rw [hF] at hcm
            cases k with
            | zero =>
              have HV := Lib.hid (show false = stepF q.data.toList p F 0 by rw [HS.out]; unfold starF; rw [hF])
              clear hF
              go_wp2
              go_roundw
              case rel => exact ⟨0 + 1, by go_num, by omega, HR1.out.other HG.out _, HR2.out.put false HV.out, HB2.out.setCell hwsz _⟩
              case measure => simp [intOf]
            | succ k =>
              obtain ⟨b, hb⟩ : ∃ b, stepF q.data.toList p F k = b := ⟨_, rfl⟩
              have hcp := HR2.out.cell (i := k) (by omega)
              rw [show upto (k + 1) (stepF q.data.toList p F) k = b by simp [upto, hb]] at hcp
              have HV := Lib.hid (show b = stepF q.data.toList p F (k + 1) by rw [← hb, HS.out, starF, hF]; rfl)
              have hk0 : (k : Int) < (q.size : Int) := by omega
              clear hF hb
              go_wp2
              go_roundw
              case rel => exact ⟨k + 1 + 1, by go_num, by omega, HR1.out.other HG.out _, HR2.out.put b HV.out, HB2.out.setCell hwsz _⟩
              case measure => simp [intOf]; omega
        | false =>
          rw [hst] at hstar
          cases k with
          | zero =>
            have HV := Lib.hid (stepF_zero (name := q.data.toList) F hst)
            clear hst hsl CM0
            go_wp2
            go_roundw
            case rel => exact ⟨0 + 1, by go_num, by omega, HR1.out, HR2.out.skip HV.out, HB2.out⟩
            case measure => simp [intOf]
          | succ k =>
            have hcm := HR1.out.cell (i := k) (by omega)
            have hk0 : (k : Int) < (q.size : Int) := by omega
            cases hF : F k with
            | false =>
              rw [hF] at hcm
              have HV := Lib.hid (show stepF q.data.toList p F (k + 1) = false by rw [stepF_succ F k hst, hF]; rfl)
              clear hF hst hsl CM0
              go_wp2
              go_roundw
              case rel => exact ⟨k + 1 + 1, by go_num, by omega, HR1.out, HR2.out.skip HV.out, HB2.out⟩
              case measure => simp [intOf]; omega
            | true =>
              rw [hF] at hcm
              have HV := Lib.hid (show hasAt q.data.toList p k = stepF q.data.toList p F (k + 1) by rw [stepF_succ F k hst, hF]; rfl)
              have hw : IntKind.i64.wrap (k : Int) = (k : Int) := IntWalk.i64_in _ (by omega)
              have hkl2 : (k : Int) + 1 < (q.size : Int) + 1 := by omega
              have hkl3 : (0 : Int) ≤ (k : Int) + 1 := by omega
              have CM := Lib.hid (fun W => CM0.out k hst (by omega) W)
              rw [← hw] at CM
              clear hw
              have hslq := fun W => cutTo q (k + 1) ((k : Int) + 1) (by omega) (by omega) W
              generalize hasAt q.data.toList p k = b at CM HV
              clear hF hst CM0
              go_wp2_with fail
              go_region_held3 (fun _ => True) (trivial) (first | (go_at_call 165; go_fit (CM.out _); rintro e W2 ⟨rfl, rfl⟩))
              all_goals (go_wp2_with fail; go_roundw)
              all_goals first
                | exact ⟨k + 1 + 1, by go_num, by omega, (HR1.out.other HG.out _).drew, (HR2.out.put b HV.out).drew, (HB2.out.setCell hwsz _).drew⟩
                | (simp [intOf]; omega)
    · have c3 : ((x.toNat : Int) == 91) = false := byte_f h3
      have c4 : ((x.toNat : Int) == 92) = false := byte_f h4
      have HZ := Lib.hid (show (i : Int) + 1 = (j : Int) by omega)
      have hsl := fun W => cutTo s j ((i : Int) + 1) HZ.out hjn W
      clear h3 h4 he
      go_wp2_with fail
      go_loopw [9] (fun kv wr2 => ∃ k : Nat, kv = .int .i64 (k : Int) ∧ k ≤ q.size + 1 ∧ BRow wr2 g (q.size + 1) F ∧ BRow wr2 W0.heap.size (q.size + 1) (upto k (stepF q.data.toList p F)) ∧ Below w.heap.size w wr2) (fun kv _ => q.size + 1 - (intOf kv).toNat)
      case atStart => exact ⟨0, rfl, Nat.zero_le _, HRow.out.alloc _, BRow.made _ _ _, HB.out.alloc hwsz _⟩
      case round =>
        clear HRow HB hmk
        obtain ⟨k, rfl, hk, hR1, hR2, hb2⟩ := hrel
        have HR1 := Lib.hid hR1
        have HR2 := Lib.hid hR2
        have HB2 := Lib.hid hb2
        clear hR1 hR2 hb2
        by_cases hk1 : k ≤ q.size
        rotate_left
        · have hki : ¬ (k : Int) ≤ (q.size : Int) := by omega
          have hke : k = q.size + 1 := by omega
          have HF := Lib.hid (show BRow wr W0.heap.size (q.size + 1) (stepF q.data.toList p F) by have := HR2.out; rw [hke] at this; exact this.full)
          clear hke hk
          go_wp2
          go_roundw
          case rel => exact ⟨W0.heap.size, j, stepF q.data.toList p F, rfl, congrArg _ HZ.out, hjn, hwsz, HF.out, HB2.out, HN⟩
          case measure => simp [intOf]; have := HZ.out; omega
        have hki : (k : Int) ≤ (q.size : Int) := by omega
        have hkl : (k : Int) < (q.size : Int) + 1 := by omega
        obtain ⟨v0, hv0⟩ : ∃ v0, upto k (stepF q.data.toList p F) k = v0 := ⟨_, rfl⟩
        have hcn := HR2.out.cell (i := k) (by omega)
        rw [hv0] at hcn
        clear hv0
        have hfn := HR2.out.frozen k
        have HG := Lib.hid (show g ≠ W0.heap.size by omega)
        cases hst : p.isStar with
        | true =>
          rw [hst] at hstar
          have HS := Lib.hid (show stepF q.data.toList p F = starF F by unfold stepF; rw [hst]; rfl)
          have hcm := HR1.out.cell (i := k) (by omega)
          clear hst hsl CM0
          cases hF : F k with
          | true =>
            rw [hF] at hcm
            have HV := Lib.hid (show true = stepF q.data.toList p F k by rw [HS.out]; cases k <;> unfold starF <;> rw [hF] <;> rfl)
            clear hF
            go_wp2
            go_roundw
            case rel => exact ⟨k + 1, by go_num, by omega, HR1.out.other HG.out _, HR2.out.put true HV.out, HB2.out.setCell hwsz _⟩
            case measure => simp [intOf]; omega
          | false =>
            rw [hF] at hcm
            cases k with
            | zero =>
              have HV := Lib.hid (show false = stepF q.data.toList p F 0 by rw [HS.out]; unfold starF; rw [hF])
              clear hF
              go_wp2
              go_roundw
              case rel => exact ⟨0 + 1, by go_num, by omega, HR1.out.other HG.out _, HR2.out.put false HV.out, HB2.out.setCell hwsz _⟩
              case measure => simp [intOf]
            | succ k =>
              obtain ⟨b, hb⟩ : ∃ b, stepF q.data.toList p F k = b := ⟨_, rfl⟩
              have hcp := HR2.out.cell (i := k) (by omega)
              rw [show upto (k + 1) (stepF q.data.toList p F) k = b by simp [upto, hb]] at hcp
              have HV := Lib.hid (show b = stepF q.data.toList p F (k + 1) by rw [← hb, HS.out, starF, hF]; rfl)
              have hk0 : (k : Int) < (q.size : Int) := by omega
              clear hF hb
              go_wp2
              go_roundw
              case rel => exact ⟨k + 1 + 1, by go_num, by omega, HR1.out.other HG.out _, HR2.out.put b HV.out, HB2.out.setCell hwsz _⟩
              case measure => simp [intOf]; omega
        | false =>
          rw [hst] at hstar
          cases k with
          | zero =>
            have HV := Lib.hid (stepF_zero (name := q.data.toList) F hst)
            clear hst hsl CM0
            go_wp2
            go_roundw
            case rel => exact ⟨0 + 1, by go_num, by omega, HR1.out, HR2.out.skip HV.out, HB2.out⟩
            case measure => simp [intOf]
          | succ k =>
            have hcm := HR1.out.cell (i := k) (by omega)
            have hk0 : (k : Int) < (q.size : Int) := by omega
            cases hF : F k with
            | false =>
              rw [hF] at hcm
              have HV := Lib.hid (show stepF q.data.toList p F (k + 1) = false by rw [stepF_succ F k hst, hF]; rfl)
              clear hF hst hsl CM0
              go_wp2
              go_roundw
              case rel => exact ⟨k + 1 + 1, by go_num, by omega, HR1.out, HR2.out.skip HV.out, HB2.out⟩
              case measure => simp [intOf]; omega
            | true =>
              rw [hF] at hcm
              have HV := Lib.hid (show hasAt q.data.toList p k = stepF q.data.toList p F (k + 1) by rw [stepF_succ F k hst, hF]; rfl)
              have hw : IntKind.i64.wrap (k : Int) = (k : Int) := IntWalk.i64_in _ (by omega)
              have hkl2 : (k : Int) + 1 < (q.size : Int) + 1 := by omega
              have hkl3 : (0 : Int) ≤ (k : Int) + 1 := by omega
              have CM := Lib.hid (fun W => CM0.out k hst (by omega) W)
              rw [← hw] at CM
              clear hw
              have hslq := fun W => cutTo q (k + 1) ((k : Int) + 1) (by omega) (by omega) W
              generalize hasAt q.data.toList p k = b at CM HV
              clear hF hst CM0
              go_wp2_with fail
              go_region_held3 (fun _ => True) (trivial) (first | (go_at_call 165; go_fit (CM.out _); rintro e W2 ⟨rfl, rfl⟩))
              all_goals (go_wp2_with fail; go_roundw)
              all_goals first
                | exact ⟨k + 1 + 1, by go_num, by omega, (HR1.out.other HG.out _).drew, (HR2.out.put b HV.out).drew, (HB2.out.setCell hwsz _).drew⟩
                | (simp [intOf]; omega)
end Go.Proofs.YtipepbnmllbonaaGreatDoor
namespace Go.Proofs.YtipepbnmllbonaaGreatDoor
open Go.RowKit

/-- The first place that is true, or -1. -/
def FirstAt (n : Nat) (F : Nat → Bool) (q : Int) : Prop := (q = -1 ∧ ∀ i, i < n → F i = false) ∨ ∃ j : Nat, q = j ∧ j < n ∧ F j = true ∧ ∀ i, i < j → F i = false
def FirstRes (n : Nat) (F : Nat → Bool) (e : Ending) : Prop := ∃ q : Int, e = .returned (.int .i64 q) ∧ FirstAt n F q

set_option maxRecDepth 100000 in
set_option maxHeartbeats 4000000 in
theorem implIndexTrue (g n : Nat) (F : Nat → Bool) (w : World) (h : BRow w g n F) (hn : n ≤ 1000) :
    Calls Tryz.prog 160 #[.slice (some ⟨g, 0, none⟩) n n, .bool true] w fun e w' => FirstRes n F e ∧ w = w' := by
  have hni : (n : Int) ≤ 1000 := by omega
  have H := Lib.hid h
  clear h
  go_enter Tryz.func160, Tryz.ntmps160
  go_wp2
  go_loop [5, 8] (fun _ iv => ∃ k : Nat, iv = .int .i64 k ∧ k ≤ n ∧ Hid (∀ i, i < k → F i = false)) (fun _ iv => n - (intOf iv).toNat)
  case atStart => exact ⟨0, rfl, Nat.zero_le _, Lib.hid (fun i hi => absurd hi (by omega))⟩
  case round =>
    obtain ⟨k, rfl, hk, HR⟩ := hrel
    by_cases h1 : k < n
    · have h1i : (k : Int) < (n : Int) := by omega
      have hc := H.out.cell h1
      cases hF : F k with
      | true =>
        rw [hF] at hc
        have HF := Lib.hid hF
        clear hF
        go_wp2
        go_ret
        exact ⟨⟨k, rfl, .inr ⟨k, rfl, h1, HF.out, HR.out⟩⟩, rfl⟩
      | false =>
        rw [hF] at hc
        have HF := Lib.hid (show ∀ i, i < k + 1 → F i = false from fun i hi => by
          by_cases e : i = k
          · rw [e]; exact hF
          · exact HR.out i (by omega))
        clear hF
        go_wp2
        go_round
        case rel => exact ⟨k + 1, by go_num, by omega, HF⟩
        case measure => simp [intOf]; omega
    · have h1i : ¬ (k : Int) < (n : Int) := by omega
      go_wp2
      go_ret
      exact ⟨⟨-1, rfl, .inl ⟨rfl, fun i hi => HR.out i (by omega)⟩⟩, rfl⟩
end Go.Proofs.YtipepbnmllbonaaGreatDoor
