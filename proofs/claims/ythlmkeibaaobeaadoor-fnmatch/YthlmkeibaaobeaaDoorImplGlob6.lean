/- impl.piecesOf and impl.PatternOk. -/
import Derived.Test.YthlmkeibaaobeaaDoorImplGlob5
import Derived.Test.YthlmkeibaaobeaaDoorAnyTwo
import Derived.Test.YthlmkeibaaobeaaDoorSpecGlob2
namespace Go.Proofs.YthlmkeibaaobeaaDoor
open Go.RowKit

theorem PcAt.shape {W : World} {B : Nat} {v : Value} {p : Pc} (h : PcAt W B v p) : ∃ t c, v = .iface t c := by
  cases p with
  | star => exact ⟨_, _, h⟩
  | any => exact ⟨_, _, h⟩
  | sign b => exact ⟨_, _, h⟩
  | set t rs => obtain ⟨c, h1, _⟩ := h; exact ⟨_, _, h1⟩
/-- A row of pieces is written: what the pieces stand on isn't. -/
theorem PcAt.grown {W W1 : World} {B : Nat} {v : Value} {p : Pc} {row : Option Nat} (h : PcAt W B v p) (hg : W.grownBy W1 row) (hr : ∀ g, row = some g → ∃ cur, W.heap[g]? = some (.cells cur 39 (0, 0))) : PcAt W1 B v p := by
  cases p with
  | star => exact h
  | any => exact h
  | sign b => exact h
  | set t rs =>
    obtain ⟨c, h1, n1, n2, sv, h2, h3, h4, h5, h6, h7⟩ := h
    refine ⟨c, h1, n1, n2, sv, h2, h3, h4, ?_, ?_, ?_⟩
    · refine (hg.block _ h5.lt fun e => ?_).trans h5
      obtain ⟨cur, hc⟩ := hr n1 e.symm
      unfold Box at h5; rw [hc] at h5; cases h5
    · refine (hg.block _ h6.lt fun e => ?_).trans h6
      obtain ⟨cur, hc⟩ := hr n2 e.symm
      unfold Box at h6; rw [hc] at h6; cases h6
    · refine World.ownsRow.kept h7 hg ?_
      rcases h7.2 with ⟨hv, hn⟩ | ⟨g, cap, cur, hv, hb, hgg, rest⟩
      · exact .inl (by rw [hv]; rfl)
      · refine .inr fun e => ?_
        rw [hv] at e
        obtain ⟨cur2, hc⟩ := hr g (by simp [Value.ownBlock] at e; exact e.symm)
        rw [hgg] at hc; cases hc
/-- The values of pieces. -/
def Pcs (W : World) (B : Nat) (vs : List Value) (ps : List Pc) : Prop := vs.length = ps.length ∧ ∀ (j : Nat) (p : Pc), ps[j]? = some p → ∃ u, vs[j]? = some u ∧ PcAt W B u p
theorem Pcs.nil (W : World) (B : Nat) : Pcs W B [] [] := ⟨rfl, fun j p h => by simp at h⟩
theorem Pcs.on {W W' : World} {B : Nat} {vs : List Value} {ps : List Pc} (h : Pcs W B vs ps) (hb : Below W.heap.size W W') : Pcs W' B vs ps :=
  ⟨h.1, fun j p hp => by obtain ⟨u, h1, h2⟩ := h.2 j p hp; exact ⟨u, h1, h2.on hb⟩⟩
theorem Pcs.snoc {W W1 : World} {B : Nat} {vs : List Value} {ps : List Pc} {row : Option Nat} {u : Value} {p : Pc} (h : Pcs W B vs ps) (hu : PcAt W B u p) (hg : W.grownBy W1 row) (hr : ∀ g, row = some g → ∃ cur, W.heap[g]? = some (.cells cur 39 (0, 0))) : Pcs W1 B (vs ++ [u]) (ps ++ [p]) := by
  refine ⟨by simp [h.1], fun j q hq => ?_⟩
  by_cases hj : j < ps.length
  · rw [List.getElem?_append_left hj] at hq
    obtain ⟨x, h1, h2⟩ := h.2 j q hq
    exact ⟨x, by rw [List.getElem?_append_left (by rw [h.1]; exact hj)]; exact h1, h2.grown hg hr⟩
  · rw [List.getElem?_append_right (by omega)] at hq
    have hz : j - ps.length = 0 := by
      by_cases hz : j - ps.length = 0
      · exact hz
      · rw [List.getElem?_eq_none (by simp; omega)] at hq; cases hq
    rw [hz] at hq
    simp at hq
    subst hq
    exact ⟨u, by rw [List.getElem?_append_right (by rw [h.1]; omega), h.1, hz]; rfl, hu.grown hg hr⟩
def PRow (W : World) (B : Nat) (v : Value) (vs : List Value) : Prop := W.ownsRow B 39 1 v vs.length vs
theorem PRow.own {W : World} {B : Nat} {v : Value} {vs : List Value} (h : PRow W B v vs) : W.ownsRow B 39 1 v vs.length vs := h
theorem PRow.snoc {W : World} {B : Nat} {v : Value} {vs : List Value} {u : Value} (h : W.ownsRow B 39 1 v (vs.length + 1) (vs ++ [u])) : PRow W B v (vs ++ [u]) := by
  unfold PRow; rw [List.length_append]; exact h
theorem PRow.on {W W' : World} {B : Nat} {v : Value} {vs : List Value} (h : PRow W B v vs) (hb : Below W.heap.size W W') : PRow W' B v vs := owns_on h hb
theorem PRow.blk {W : World} {B : Nat} {v : Value} {vs : List Value} (h : PRow W B v vs) : ∀ g, v.ownBlock = some g → ∃ cur, W.heap[g]? = some (.cells cur 39 (0, 0)) := by
  intro g e
  rcases h.2 with ⟨hv, hn⟩ | ⟨g2, cap, cur, hv, hb, hgg, rest⟩
  · rw [hv] at e; cases e
  · rw [hv] at e
    have : g2 = g := by simpa [Value.ownBlock] using e
    subst this
    exact ⟨cur, hgg⟩
theorem infoP : (Tryd.prog.info? 39).map (fun i => (i.zero, i.size, i.bytes)) = some (some .nilIface, 1, 16) := by kernel_rfl
/-- What piecesOf tells. -/
def psO (l : List UInt8) : Option (List Pc) := if l.length ≤ 60 ∧ l.all okP = true then piecesL l else none
theorem psO_some (l : List UInt8) : (psO l).isSome = patB l := by
  unfold psO patB
  by_cases h1 : l.length ≤ 60
  · cases h2 : l.all okP with
    | true => rw [if_pos ⟨h1, rfl⟩]; simp [h1]
    | false => rw [if_neg (by rintro ⟨_, e⟩; cases e)]; simp
  · rw [if_neg (fun e => h1 e.1)]; simp [h1]
def PsRes (B : Nat) (T : Option (List Pc)) (e : Ending) (w' : World) : Prop :=
  (T = none ∧ ∃ v, e = .returned (.tuple #[v, .bool false])) ∨
  ∃ ps v vs, T = some ps ∧ e = .returned (.tuple #[v, .bool true]) ∧ PRow w' B v vs ∧ Pcs w' B vs ps ∧ vs.length ≤ 60
theorem str_empty : (strOf []).toList.isEmpty = true := by rw [Lib.toList_data, strOf_data]; rfl
theorem cell_one_at (w : World) (o : Obj) (x : Value) (t : TypeId) : ∀ j u, [x][j]? = some u → ((w.alloc o).alloc (.cells #[x] t)).cell? ((⟨w.heap.size + 1, 0, none⟩ : Addr).add j) = some u := by
  intro j u hj
  match j, hj with
  | 0, hj => simp at hj; subst hj; simp [Addr.add]
  | j + 1, hj => simp at hj

set_option maxRecDepth 100000 in
set_option maxHeartbeats 8000000 in
theorem implPiecesOf (s : ByteArray) (hm : s.size ≤ maxLen) (w : World) :
    Calls Tryd.prog 19 #[.string s] w fun e w' => PsRes w.heap.size (psO s.data.toList) e w' ∧ Below w.heap.size w w' := by
  unfold maxLen at hm
  have hsz : s.data.toList.length = s.size := by simp
  by_cases hs : s.size ≤ 60
  rotate_left
  · have hsi : ¬ (s.size : Int) ≤ 60 := by omega
    have HE := Lib.hid (show psO s.data.toList = none by unfold psO; rw [if_neg (by rintro ⟨e, _⟩; omega)])
    clear hs hsz
    go_enter Tryd.func19, Tryd.ntmps19
    go_wp2
    go_ret2
    exact ⟨.inl ⟨HE.out, _, rfl⟩, Below.refl _ _⟩
  have hsi : (s.size : Int) ≤ 60 := by omega
  have CA := Lib.hid (fun W => containsAny2 s W hs)
  cases ha : s.data.toList.all okP with
  | false =>
    have HE := Lib.hid (show psO s.data.toList = none by unfold psO; rw [if_neg (by rintro ⟨_, e⟩; rw [ha] at e; cases e)])
    rw [ha] at CA
    clear hs hsz ha
    go_enter Tryd.func19, Tryd.ntmps19
    go_wp2_with fail
    refine (CA.out _).mono ?_
    rintro e W1 ⟨rfl, hb1⟩
    go_wp2
    go_ret2
    exact ⟨.inl ⟨HE.out, _, rfl⟩, hb1⟩
  | true =>
    obtain ⟨j0, kj, kz0, kz1, kz2⟩ := info_parts infoP
    obtain ⟨T, hT⟩ : ∃ T, psO s.data.toList = T := ⟨_, rfl⟩
    have HT := Lib.hid (show T = (piecesL s.data.toList).map ([] ++ ·) by
      rw [← hT]; unfold psO; rw [if_pos ⟨by omega, ha⟩]
      cases piecesL s.data.toList <;> rfl)
    rw [hT]
    rw [ha] at CA
    have hss : s = strOf s.data.toList := by simp [strOf]
    have HSS := Lib.hid hss
    clear hT ha hss
    go_enter Tryd.func19, Tryd.ntmps19
    go_wp2_with fail
    refine (CA.out _).mono ?_
    rintro e W1 ⟨rfl, hb1⟩
    go_wp2
    go_loopw [4, 5, 6, 7, 8] (fun pv rv _ _ _ wr => ∃ ps vs l, rv = .string (strOf l) ∧ PRow wr w.heap.size pv vs ∧ Pcs wr w.heap.size vs ps ∧ Below w.heap.size w wr ∧ vs.length + l.length ≤ 60 ∧ Hid (T = (piecesL l).map (ps ++ ·))) (fun _ rv _ _ _ _ => strN rv)
    case atStart => exact ⟨[], [], s.data.toList, by rw [← HSS.out], World.ownsRow_nil _ _ _ _, Pcs.nil _ _, hb1, by simpa using hs, HT⟩
    case round =>
      clear HT CA HSS hb1
      obtain ⟨ps, vs, l, rfl, hP, hC, hb, hlen, HR⟩ := hrel
      have HP := Lib.hid hP
      have HC := Lib.hid hC
      have HB := Lib.hid hb
      have hwsz := hb.size
      clear hP hC hb
      cases l with
      | nil =>
        have HE := Lib.hid (show T = some ps by rw [HR.out, piecesL_nil]; simp)
        have he : (strOf []).toList.isEmpty = true := str_empty
        clear HR
        generalize strOf [] = y at he
        go_wp2
        go_ret2
        exact ⟨.inr ⟨ps, _, vs, HE.out, rfl, HP.out, HC.out, by simp at hlen; omega⟩, HB.out⟩
      | cons c r =>
        have he : (strOf (c :: r)).toList.isEmpty = false := empty_f (strOf_data _)
        have CK := Lib.hid (fun W => implCutPiece (strOf (c :: r)) (by rw [strOf_size]; omega) (by rw [strOf_data]; simp) W)
        rw [strOf_data] at CK
        have hlsz : (strOf (c :: r)).size = r.length + 1 := by rw [strOf_size]; rfl
        generalize strOf (c :: r) = y at he CK hlsz
        go_wp2_with fail
        refine (CK.out _).mono ?_
        rintro e W2 ⟨hres, hb2⟩
        have HB2 := Lib.hid (HB.out.trans (hb2.mono hwsz))
        have HP2 := Lib.hid (HP.out.on hb2)
        have HC2 := Lib.hid (HC.out.on hb2)
        have hwsz2 := HB2.out.size
        have hmn := hb2.size
        clear hb2 HB HP HC CK
        rcases hres with ⟨ht, v, q, rfl⟩ | ⟨p, k, v, ht, rfl, hpc⟩
        · have HE := Lib.hid (show T = none by rw [HR.out, piecesL_none (by simp) ht]; rfl)
          clear ht HR
          go_wp2
          go_ret2
          exact ⟨.inl ⟨HE.out, _, rfl⟩, HB2.out⟩
        · have HE := Lib.hid (show T = (piecesL ((c :: r).drop k)).map ((ps ++ [p]) ++ ·) by
            rw [HR.out, piecesL_some ht, Option.map_map]
            congr 1; funext z; simp)
          obtain ⟨g1, g2⟩ := pieceL_pos ht
          have HPC := Lib.hid (hpc.mono (by omega : w.heap.size ≤ wr.heap.size))
          obtain ⟨t0, c0, rfl⟩ := hpc.shape
          have hdl : ((c :: r).drop k).length + 1 ≤ r.length + 1 := by rw [List.length_drop]; simp at g2 ⊢; omega
          simp only [List.length_cons] at hlen
          clear ht HR hpc g2
          generalize (c :: r).drop k = l2 at HE hdl
          go_wp2_with (at_builtin; refine wpList_append_own _ rfl _ _ 34 rfl w.heap.size 39 j0 .nilIface 1 16 Tryd.underlying34 kj kz0 kz1 kz2 rfl (by decide) _ _ _ rfl (HP2.out.own.alloc _) ⟨W2.heap.size, 0, none⟩ 1 1 [.iface t0 c0] rfl rfl (cell_one_new _ _ _) (by simp [Value.oneCell']) (by unfold maxLen; omega) (by omega) (by simp; omega) ?_; intro v' w1 hown' hgrow _; have HP3 := Lib.hid (PRow.snoc hown'); have hal := (Below.refl W2.heap.size W2).alloc (Nat.le_refl _) (.cells #[.iface t0 c0] 39); have HC3 := Lib.hid ((HC2.out.on hal).snoc (HPC.out.on hal) hgrow (HP2.out.on hal).blk); have HB3 := Lib.hid ((HB2.out.alloc hwsz2 (.cells #[.iface t0 c0] 39)).grown hgrow (by simp; omega) (fun k e => (World.ownsRow.lt HP2.out.own k e).1)); clear hown' hgrow hal)
          go_roundw
          case rel => exact ⟨ps ++ [p], vs ++ [.iface t0 c0], l2, rfl, HP3.out, HC3.out, HB3.out, by simp; omega, HE⟩
          case measure => simp [strN, strOf_size]; omega

theorem implPatternOk (s : ByteArray) (hm : s.size ≤ maxLen) (w : World) :
    Calls Tryd.prog 9 #[.string s] w fun e w' => e = .returned (.bool (patB s.data.toList)) ∧ Below w.heap.size w w' := by
  have CP := Lib.hid (fun W => implPiecesOf s hm W)
  have HP := Lib.hid (psO_some s.data.toList)
  generalize psO s.data.toList = T at CP HP
  generalize patB s.data.toList = b at HP
  go_enter Tryd.func9, Tryd.ntmps9
  go_wp2_with fail
  refine (CP.out _).mono ?_
  rintro e W1 ⟨hres, hb1⟩
  rcases hres with ⟨ht, v, rfl⟩ | ⟨ps, v, vs, ht, rfl, _, _, _⟩
  · have hb : b = false := by rw [← HP.out, ht]; rfl
    subst hb
    clear HP ht
    go_wp2
    go_ret
    exact ⟨rfl, hb1⟩
  · have hb : b = true := by rw [← HP.out, ht]; rfl
    subst hb
    clear HP ht
    go_wp2
    go_ret
    exact ⟨rfl, hb1⟩
end Go.Proofs.YthlmkeibaaobeaaDoor
