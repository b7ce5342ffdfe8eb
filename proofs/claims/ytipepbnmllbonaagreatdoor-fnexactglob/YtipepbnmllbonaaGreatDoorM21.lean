/- What a pattern stands for, as a plain function; a piece of a pattern cut short. Whether a piece stands for a byte: impl's closures. -/
import Derived.Test.YtipepbnmllbonaaGreatDoorM15
import Derived.Test.YtipepbnmllbonaaGreatDoorM20
namespace Go.Proofs.YtipepbnmllbonaaGreatDoor
open Go.RowKit

/-- From some place so far on. -/
def starF (f : Nat → Bool) : Nat → Bool
  | 0 => f 0
  | k + 1 => f (k + 1) || starF f k
def hasAt (name : List UInt8) (p : Pc) (k : Nat) : Bool :=
  match name[k]? with
  | some c => p.has c
  | none => false
/-- The places that a piece leads to. -/
def stepF (name : List UInt8) (p : Pc) (f : Nat → Bool) : Nat → Bool :=
  if p.isStar then starF f else fun k => match k with | 0 => false | k + 1 => f k && hasAt name p k
def runF (name : List UInt8) (ps : List Pc) (f : Nat → Bool) : Nat → Bool := ps.foldl (fun g p => stepF name p g) f
def matchV (l name : List UInt8) : Bool :=
  match piecesL l with
  | some ps => runF name ps (fun k => k == 0) name.length
  | none => false
theorem stepF_zero {name : List UInt8} {p : Pc} (f : Nat → Bool) (h : p.isStar = false) : stepF name p f 0 = false := by unfold stepF; rw [h]; rfl
theorem stepF_succ {name : List UInt8} {p : Pc} (f : Nat → Bool) (k : Nat) (h : p.isStar = false) : stepF name p f (k + 1) = (f k && hasAt name p k) := by unfold stepF; rw [h]; rfl
theorem stepF_star {name : List UInt8} (f : Nat → Bool) : stepF name .star f = starF f := rfl
theorem hasAt_some {name : List UInt8} {p : Pc} {k : Nat} {c : UInt8} (h : name[k]? = some c) : hasAt name p k = p.has c := by unfold hasAt; rw [h]
/-- The first place that is reached decides. -/
theorem starF_first {f : Nat → Bool} {j : Nat} (h : f j = true) (hb : ∀ i, i < j → f i = false) : ∀ k, starF f k = decide (j ≤ k)
  | 0 => by
    unfold starF
    cases j with
    | zero => simpa using h
    | succ j => rw [hb 0 (by omega)]; simp
  | k + 1 => by
    unfold starF
    rw [starF_first h hb k]
    by_cases h1 : j ≤ k
    · simp [h1, show j ≤ k + 1 by omega]
    · by_cases h2 : j = k + 1
      · subst h2; simp [h]
      · rw [hb (k + 1) (by omega)]; simp [h1, show ¬ j ≤ k + 1 by omega]
theorem starF_none {f : Nat → Bool} {n : Nat} (hb : ∀ i, i < n → f i = false) : ∀ k, k < n → starF f k = false
  | 0, h => hb 0 h
  | k + 1, h => by unfold starF; rw [hb (k + 1) h, starF_none hb k (by omega)]; rfl
theorem starF_congr {f g : Nat → Bool} {n : Nat} (h : ∀ i, i < n → f i = g i) : ∀ k, k < n → starF f k = starF g k
  | 0, hk => h 0 hk
  | k + 1, hk => by unfold starF; rw [h (k + 1) hk, starF_congr h k (by omega)]
theorem headIs_take1 {c : UInt8} {l : List UInt8} {m : Nat} (h : 1 ≤ m) : headIs c (l.take m) = headIs c l := by
  cases l with
  | nil => simp
  | cons d r =>
    cases m with
    | zero => omega
    | succ m => rfl
theorem pieceL_take {l : List UInt8} {p : Pc} {n : Nat} (h : pieceL l = some (p, n)) : pieceL (l.take n) = some (p, n) := by
  cases l with
  | nil => cases h
  | cons c r =>
    by_cases h1 : c = 42
    · subst h1; cases h; rfl
    by_cases h2 : c = 63
    · subst h2; cases h; rfl
    by_cases h3 : c = 91
    · subst h3
      rw [pieceL_set] at h
      obtain ⟨m, hm, he⟩ := Option.map_eq_some_iff.1 h
      simp only [Prod.mk.injEq] at he
      obtain ⟨rfl, rfl⟩ := he
      have h4 := setN_le r
      have hN : setN (r.take (m + setN r + 1)) = setN r := by unfold setN; rw [headIs_take1 (by omega)]
      have hH : headIs 33 (r.take (m + setN r + 1)) = headIs 33 r := headIs_take1 (by omega)
      have hB : setB (r.take (m + setN r + 1)) = (setB r).take (m + 1) := by
        rw [setB_eq, hN, setB_eq, List.drop_take]; congr 1; omega
      rw [List.take_succ_cons, pieceL_set, hN, hH, hB, endL_take _ _ _ _ (Nat.le_refl _) hm]
      simp only [Option.map_some]
      rw [List.take_take, Nat.min_eq_left (by omega)]
    by_cases h4 : c = 92
    · subst h4
      cases r with
      | nil => cases h
      | cons d t => cases h; rfl
    · rw [pieceL_sign r h1 h2 h3 h4] at h
      cases h
      exact pieceL_sign _ h1 h2 h3 h4
end Go.Proofs.YtipepbnmllbonaaGreatDoor
namespace Go.Proofs.YtipepbnmllbonaaGreatDoor
open Go.RowKit

theorem RangeRow.blk {w : World} {B : Nat} {v : Value} {ps : List (UInt8 × UInt8)} (h : RangeRow w B v ps) (hne : ps ≠ []) : ∃ g cap, v = .slice (some ⟨g, 0, none⟩) ps.length cap ∧ ps.length ≤ cap ∧ g < w.heap.size ∧ ∀ (j : Nat) (p : UInt8 × UInt8), ps[j]? = some p → w.cell? ⟨g, j * 2, none⟩ = some (.int .u8 (p.1.toNat : Int)) ∧ w.cell? ⟨g, j * 2 + 1, none⟩ = some (.int .u8 (p.2.toNat : Int)) := by
  rcases h.2 with ⟨hv, hn⟩ | ⟨g, cap, cur, hv, hb, hg, hle, rest⟩
  · exact (hne (List.eq_nil_of_length_eq_zero hn)).elim
  · refine ⟨g, cap, hv, hle, (Array.getElem?_eq_some_iff.1 hg).1, fun j p hp => ?_⟩
    obtain ⟨h1, h2⟩ := rangeVals_at ps j p hp
    have q1 := h.own.cells (g := g) (by rw [hv]; rfl) (j * 2) _ h1
    have q2 := h.own.cells (g := g) (by rw [hv]; rfl) (j * 2 + 1) _ h2
    rw [Addr.add_lit] at q1 q2
    exact ⟨by simpa using q1, by simpa using q2⟩

set_option maxRecDepth 100000 in
set_option maxHeartbeats 4000000 in
theorem implAmong (lo hi c : UInt8) (b : Nat) (w : World) (hb : Box w b 5 (.int .u8 (c.toNat : Int))) :
    Calls Tryz.prog 217 #[.agg #[.int .u8 (lo.toNat : Int), .int .u8 (hi.toNat : Int)], .pointer (some ⟨b, 0, none⟩)] w fun e w' => e = .returned (.bool (inR c (lo, hi))) ∧ Below w.heap.size w w' := by
  obtain ⟨k1, k2⟩ := hb.cell
  have hlt := hb.lt
  have hne : b ≠ w.heap.size := by omega
  clear hb
  have HV := Lib.hid (show inR c (lo, hi) = (decide (lo.toNat ≤ c.toNat) && decide (c.toNat ≤ hi.toNat)) from rfl)
  by_cases z1 : lo.toNat ≤ c.toNat
  · have z1i : (lo.toNat : Int) ≤ (c.toNat : Int) := by omega
    go_enter Tryz.func217, Tryz.ntmps217
    go_wp2
    go_ret
    exact ⟨ret_bool (by rw [HV.out]; simp [z1]), (Below.refl _ _).alloc (Nat.le_refl _) _⟩
  · have z1i : ¬ (lo.toNat : Int) ≤ (c.toNat : Int) := by omega
    go_enter Tryz.func217, Tryz.ntmps217
    go_wp2
    go_ret
    exact ⟨ret_bool (by rw [HV.out]; simp [z1]), (Below.refl _ _).alloc (Nat.le_refl _) _⟩

theorem any_snoc {rs : List (UInt8 × UInt8)} {k : Nat} {p : UInt8 × UInt8} {c : UInt8} (h : (rs.take k).any (inR c) = false) (hp : rs[k]? = some p) : (rs.take (k + 1)).any (inR c) = inR c p := by
  obtain ⟨h1, h2⟩ := List.getElem?_eq_some_iff.1 hp
  rw [List.take_succ_eq_append_getElem h1, List.any_append, h, h2]; simp
theorem any_upto {rs : List (UInt8 × UInt8)} {k : Nat} {c : UInt8} (h : (rs.take k).any (inR c) = true) : rs.any (inR c) = true := by
  rw [← List.take_append_drop k rs, List.any_append, h]; rfl
/-- What IndexFunc answers. -/
def IdxRes (b : Bool) (e : Ending) : Prop := ∃ q : Int, e = .returned (.int .i64 q) ∧ decide (0 ≤ q) = b

set_option maxRecDepth 100000 in
set_option maxHeartbeats 4000000 in
theorem implIndexFunc (rs : List (UInt8 × UInt8)) (c : UInt8) (b B : Nat) (v : Value) (w : World) (hb : Box w b 5 (.int .u8 (c.toNat : Int))) (hR : RangeRow w B v rs) (hl : rs.length ≤ 60) :
    Calls Tryz.prog 232 #[v, .func (.func 217) #[] #[.pointer (some ⟨b, 0, none⟩)]] w fun e w' => IdxRes (rs.any (inR c)) e ∧ Below w.heap.size w w' := by
  have hli : (rs.length : Int) ≤ 60 := by omega
  by_cases hn : rs = []
  · obtain ⟨a, cap, rfl⟩ := hR.shape
    subst hn
    clear hR hb
    go_enter Tryz.func232, Tryz.ntmps232
    go_wp2
    go_loop [5, 8] (fun _ iv => iv = .int .i64 0) (fun _ _ => 0)
    case atStart => rfl
    case round =>
      subst hrel
      go_wp2
      go_ret
      exact ⟨⟨-1, rfl, rfl⟩, Below.refl _ _⟩
  obtain ⟨g, cap, rfl, hcap, hg, hcell⟩ := hR.blk hn
  have HC := Lib.hid hcell
  have HX := Lib.hid hb
  clear hcell hR hb hn
  go_enter Tryz.func232, Tryz.ntmps232
  go_wp2
  go_loopw [5, 8] (fun _ iv W => ∃ k : Nat, iv = .int .i64 k ∧ k ≤ rs.length ∧ Below w.heap.size w W ∧ Hid ((rs.take k).any (inR c) = false)) (fun _ iv _ => rs.length - (intOf iv).toNat)
  case atStart => exact ⟨0, rfl, Nat.zero_le _, Below.refl _ _, Lib.hid (by simp)⟩
  case round =>
    obtain ⟨k, rfl, hk, hbl, HR⟩ := hrel
    by_cases h1 : k < rs.length
    · have h1i : (k : Int) < (rs.length : Int) := by omega
      obtain ⟨p, hp⟩ : ∃ p, rs[k]? = some p := ⟨rs[k], List.getElem?_eq_getElem h1⟩
      obtain ⟨q1, q2⟩ := HC.out k p hp
      have q3 := (hbl.cell (p := ⟨g, k * 2, none⟩) hg).trans q1
      have q4 := (hbl.cell (p := ⟨g, k * 2 + 1, none⟩) hg).trans q2
      have HA := Lib.hid (any_snoc HR.out hp)
      have CM := Lib.hid (fun W hW => implAmong p.1 p.2 c b W hW)
      have HX1 := Lib.hid (show Box wr b 5 (.int .u8 (c.toNat : Int)) from (hbl.block b HX.out.lt).trans HX.out)
      have HBL := Lib.hid hbl
      clear q1 q2 hp hbl HR
      go_wp2_with fail
      refine (CM.out _ HX1.out).mono ?_
      rintro e W1 ⟨rfl, hb1⟩
      cases hin : inR c (p.1, p.2) with
      | true =>
        have HE := Lib.hid (show rs.any (inR c) = true from any_upto (k := k + 1) (by rw [HA.out]; exact hin))
        have HB1 := Lib.hid (HBL.out.trans (hb1.mono HBL.out.size))
        clear hb1 hin
        go_wp2
        go_ret
        exact ⟨⟨k, rfl, by rw [HE.out]; simp⟩, HB1.out⟩
      | false =>
        have HE := Lib.hid (show (rs.take (k + 1)).any (inR c) = false by rw [HA.out]; exact hin)
        have HB1 := Lib.hid (HBL.out.trans (hb1.mono HBL.out.size))
        clear hb1 hin
        go_wp2
        go_roundw
        case rel => exact ⟨k + 1, by go_num, by omega, HB1.out, HE⟩
        case measure => simp [intOf]; omega
    · have h1i : ¬ (k : Int) < (rs.length : Int) := by omega
      have HE := Lib.hid (show rs.any (inR c) = false by have := HR.out; rwa [List.take_of_length_le (by omega)] at this)
      have HBL := Lib.hid hbl
      clear hbl HR
      go_wp2
      go_ret
      exact ⟨⟨-1, rfl, by rw [HE.out]; rfl⟩, HBL.out⟩

theorem implContainsFunc (rs : List (UInt8 × UInt8)) (c : UInt8) (b B : Nat) (v : Value) (w : World) (hb : Box w b 5 (.int .u8 (c.toNat : Int))) (hR : RangeRow w B v rs) (hl : rs.length ≤ 60) :
    Calls Tryz.prog 218 #[v, .func (.func 217) #[] #[.pointer (some ⟨b, 0, none⟩)]] w fun e w' => e = .returned (.bool (rs.any (inR c))) ∧ Below w.heap.size w w' := by
  have CI := Lib.hid (implIndexFunc rs c b B v w hb hR hl)
  generalize rs.any (inR c) = y at CI
  clear hb hR
  go_enter Tryz.func218, Tryz.ntmps218
  go_wp2_with fail
  refine CI.out.mono ?_
  rintro e W1 ⟨⟨q, rfl, hq⟩, hb1⟩
  have HQ := Lib.hid hq
  clear hq
  go_wp2
  go_ret
  exact ⟨ret_bool HQ.out, hb1⟩
end Go.Proofs.YtipepbnmllbonaaGreatDoor
