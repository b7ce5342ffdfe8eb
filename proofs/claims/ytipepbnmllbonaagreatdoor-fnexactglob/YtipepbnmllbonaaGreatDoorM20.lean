/- The contract of spec.PatternOk. impl.piecesOf and impl.PatternOk. -/
import Derived.Test.YtipepbnmllbonaaGreatDoorM19
import Derived.Test.YtipepbnmllbonaaGreatDoorM18
namespace Go.Proofs.YtipepbnmllbonaaGreatDoor
open Go.RowKit

theorem restB_go {l : List UInt8} {c : UInt8} {r : List UInt8} (hd : l = c :: r) (h1 : c.toNat ≠ 91) (h2 : c.toNat ≠ 92) (h : okP c = true) : restB l = restB r := by
  subst hd
  have g1 : c ≠ 91 := fun e => h1 (by rw [e]; rfl)
  have g2 : c ≠ 92 := fun e => h2 (by rw [e]; rfl)
  obtain ⟨p, hp⟩ : ∃ p, pieceL (c :: r) = some (p, 1) := by
    by_cases h3 : c = 42
    · subst h3; exact ⟨_, rfl⟩
    by_cases h4 : c = 63
    · subst h4; exact ⟨_, rfl⟩
    exact ⟨_, pieceL_sign r h3 h4 g1 g2⟩
  rw [restB_some hp]
  simp [h]
theorem restB_esc {l : List UInt8} {d : UInt8} {r : List UInt8} (hd : l = 92 :: d :: r) : restB l = (okP d && restB r) := by
  subst hd
  rw [restB_some (pieceL_esc d r)]
  simp [show okP 92 = true from rfl]
theorem restB_last {l : List UInt8} (hd : l = [92]) : restB l = false := restB_none (by rw [hd]; simp) (by rw [hd]; rfl)
theorem setO_none {l : List UInt8} {k : Nat} (hd : l.drop k = 91 :: l.drop (k + 1)) (h : setO l k = none) : pieceL (l.drop k) = none := by
  unfold setO at h
  rw [hd, pieceL_set, setB_eq, List.drop_drop]
  rw [Option.map_eq_none_iff] at h ⊢
  exact h
theorem setO_some {l : List UInt8} {k e : Nat} (hd : l.drop k = 91 :: l.drop (k + 1)) (h : setO l k = some e) : ∃ m, endL true (l.drop (k + 1 + setN (l.drop (k + 1)))) = some m ∧ e = m + (k + 1 + setN (l.drop (k + 1))) ∧ pieceL (l.drop k) = some (.set (headIs 33 (l.drop (k + 1))) (bodyL ((l.drop (k + 1 + setN (l.drop (k + 1)))).take m)), e + 1 - k) ∧ e < l.length ∧ l[e]? = some 93 ∧ k < e := by
  unfold setO at h
  obtain ⟨m, hm, he⟩ := Option.map_eq_some_iff.1 h
  obtain ⟨g1, g2, g3⟩ := endL_facts _ _ _ _ (Nat.le_refl _) hm
  refine ⟨m, hm, he.symm, ?_, ?_, ?_, by omega⟩
  · rw [hd, pieceL_set, setB_eq, List.drop_drop, hm]
    simp only [Option.map_some]
    rw [show m + setN (l.drop (k + 1)) + 2 = e + 1 - k by omega]
  · rw [List.length_drop] at g1; omega
  · rw [List.getElem?_drop] at g2
    rw [← g2]; congr 1; omega
theorem all_more {l : List UInt8} {k j : Nat} {c : UInt8} (h : ((l.drop k).take (j - k)).all okP = true) (hk : k ≤ j) (hc : l[j]? = some c) : ((l.drop k).take (j + 1 - k)).all okP = okP c := by
  have e : (l.drop k)[j - k]? = some c := by rw [List.getElem?_drop, show k + (j - k) = j by omega]; exact hc
  obtain ⟨e1, e2⟩ := List.getElem?_eq_some_iff.1 e
  rw [show j + 1 - k = (j - k) + 1 by omega, List.take_succ_eq_append_getElem e1, List.all_append, h, e2]
  simp
theorem all_short {l : List UInt8} {n m : Nat} (hnm : n ≤ m) (h : (l.take n).all okP = false) : (l.take m).all okP = false := by
  rw [show m = n + (m - n) by omega, List.take_add, List.all_append, h]; rfl
theorem patB_eq (s : ByteArray) (h : s.size ≤ 60) : patB s.data.toList = restB s.data.toList := by
  unfold patB restB
  rw [show decide (s.data.toList.length ≤ 60) = true from decide_eq_true (by simpa using h)]; simp
theorem patB_long (s : ByteArray) (h : ¬ s.size ≤ 60) : patB s.data.toList = false := by
  unfold patB
  rw [show decide (s.data.toList.length ≤ 60) = false from decide_eq_false (by simpa using h)]; simp

set_option maxRecDepth 100000 in
set_option maxHeartbeats 8000000 in
theorem specPatternOk (s : ByteArray) (hm : s.size ≤ maxLen) (w : World) :
    Calls Tryz.prog 161 #[.string s] w fun e w' => e = .returned (.bool (patB s.data.toList)) ∧ w = w' := by
  unfold maxLen at hm
  by_cases hs : s.size ≤ 60
  rotate_left
  · have hsi : ¬ (s.size : Int) ≤ 60 := by omega
    have HP := Lib.hid (patB_long s hs)
    clear hs
    go_enter Tryz.func161, Tryz.ntmps161
    go_wp2
    go_ret
    exact ⟨ret_bool HP.out.symm, rfl⟩
  obtain ⟨T, hT⟩ : ∃ T, patB s.data.toList = T := ⟨_, rfl⟩
  rw [hT]
  have HT := Lib.hid (hT.symm.trans (patB_eq s hs))
  have hsi : (s.size : Int) ≤ 60 := by omega
  clear hT
  go_enter Tryz.func161, Tryz.ntmps161
  go_wp2
  go_loop [3, 4, 5] (fun iv _ _ => ∃ k : Nat, iv = .int .i64 k ∧ k ≤ s.size ∧ Hid (T = restB (s.data.toList.drop k))) (fun iv _ _ => s.size - (intOf iv).toNat)
  case atStart => exact ⟨0, rfl, Nat.zero_le _, Lib.hid (by rw [List.drop_zero, HT.out])⟩
  case round =>
    clear HT
    obtain ⟨k, rfl, hk, HR⟩ := hrel
    by_cases h3 : k < s.size
    rotate_left
    · have HE := Lib.hid (show T = true by rw [HR.out, drop_end s k h3]; rfl)
      have h3i : ¬ (k : Int) < (s.size : Int) := by omega
      go_wp2
      go_ret
      exact ⟨ret_bool HE.out.symm, rfl⟩
    have HD := Lib.hid (drop_one _ (at_byte s k h3))
    have h3i : (k : Int) < (s.size : Int) := by omega
    obtain ⟨x, hx⟩ : ∃ x : UInt8, s[k] = x := ⟨_, rfl⟩
    rw [hx] at HD
    by_cases h4 : x.toNat = 47
    · have c1 : ((x.toNat : Int) == 47) = true := byte_t h4
      have HE := Lib.hid (show T = false by rw [HR.out]; exact restB_bad HD.out (okP_f (.inl h4)))
      clear h4 HR
      go_wp2
      go_ret
      exact ⟨ret_bool HE.out.symm, rfl⟩
    have c1 : ((x.toNat : Int) == 47) = false := byte_f h4
    by_cases h5 : x.toNat = 10
    · have c2 : ((x.toNat : Int) == 10) = true := byte_t h5
      have HE := Lib.hid (show T = false by rw [HR.out]; exact restB_bad HD.out (okP_f (.inr h5)))
      clear h4 h5 HR
      go_wp2
      go_ret
      exact ⟨ret_bool HE.out.symm, rfl⟩
    have c2 : ((x.toNat : Int) == 10) = false := byte_f h5
    have HOK := Lib.hid (okP_t h4 h5)
    clear h4 h5
    by_cases h6 : x.toNat = 92
    · have c3 : ((x.toNat : Int) == 92) = true := byte_t h6
      rw [u8_is (c := 92) h6] at HD
      clear h6
      by_cases h7 : k + 1 < s.size
      · have h7i : (k : Int) + 1 < (s.size : Int) := by omega
        have h7e : (((k : Int) + 1) == (s.size : Int)) = false := by simp; omega
        have HD2 := Lib.hid (drop_one _ (at_byte s (k + 1) h7))
        obtain ⟨y, hy⟩ : ∃ y : UInt8, s[k + 1] = y := ⟨_, rfl⟩
        rw [hy] at HD2
        have HQ := Lib.hid (show T = (okP y && restB (s.data.toList.drop (k + 2))) by rw [HR.out]; exact restB_esc (by rw [HD.out, HD2.out]))
        by_cases g4 : y.toNat = 47
        · have d1 : ((y.toNat : Int) == 47) = true := byte_t g4
          have HE := Lib.hid (show T = false by rw [HQ.out, okP_f (.inl g4)]; rfl)
          clear g4 HR
          go_wp2
          go_ret
          exact ⟨ret_bool HE.out.symm, rfl⟩
        have d1 : ((y.toNat : Int) == 47) = false := byte_f g4
        by_cases g5 : y.toNat = 10
        · have d2 : ((y.toNat : Int) == 10) = true := byte_t g5
          have HE := Lib.hid (show T = false by rw [HQ.out, okP_f (.inr g5)]; rfl)
          clear g4 g5 HR
          go_wp2
          go_ret
          exact ⟨ret_bool HE.out.symm, rfl⟩
        have d2 : ((y.toNat : Int) == 10) = false := byte_f g5
        have HE := Lib.hid (show T = restB (s.data.toList.drop (k + 2)) by rw [HQ.out, okP_t g4 g5]; rfl)
        clear g4 g5 HR
        go_wp2
        go_round
        case rel => exact ⟨k + 2, by go_num, by omega, HE⟩
        case measure => simp [intOf]; omega
      · have h7e : (((k : Int) + 1) == (s.size : Int)) = true := by simp; omega
        have HE := Lib.hid (show T = false by rw [HR.out]; exact restB_last (by rw [HD.out, drop_end s (k + 1) h7]))
        clear HR
        go_wp2
        go_ret
        exact ⟨ret_bool HE.out.symm, rfl⟩
    have c3 : ((x.toNat : Int) == 92) = false := byte_f h6
    by_cases h8 : x.toNat = 91
    rotate_left
    · have c4 : ((x.toNat : Int) == 91) = false := byte_f h8
      have HE := Lib.hid (show T = restB (s.data.toList.drop (k + 1)) by rw [HR.out]; exact restB_go HD.out h8 h6 HOK.out)
      clear h6 h8 HR
      go_wp2
      go_round
      case rel => exact ⟨k + 1, by go_num, by omega, HE⟩
      case measure => simp [intOf]; omega
    have c4 : ((x.toNat : Int) == 91) = true := byte_t h8
    rw [u8_is (c := 91) h8] at HD
    clear h6 h8
    have CS := Lib.hid (fun W => specSet_loop s k h3 hs W)
    cases hO : setO s.data.toList k with
    | none =>
      have HE := Lib.hid (show T = false by rw [HR.out]; exact restB_none (by rw [HD.out]; simp) (setO_none HD.out hO))
      rw [hO] at CS
      have CS2 := Lib.hid (show ∀ W : World, Calls Tryz.prog 164 #[.string s, .int .i64 k] W fun e w' => e = .returned (.int .i64 (-1)) ∧ W = w' from CS.out)
      clear CS hO HR
      go_wp2_with fail
      refine (CS2.out _).mono ?_
      rintro e W1 ⟨rfl, rfl⟩
      go_wp2
      go_ret
      exact ⟨ret_bool HE.out.symm, rfl⟩
    | some e0 =>
      obtain ⟨m, hm1, hm2, hp, he1, he2, he3⟩ := setO_some HD.out hO
      have he4 : e0 < s.size := by simpa using he1
      have he4i : (e0 : Int) < (s.size : Int) := by omega
      have he3i : (k : Int) < (e0 : Int) := by omega
      have HQ := Lib.hid (show T = (((s.data.toList.drop k).take (e0 + 1 - k)).all okP && restB (s.data.toList.drop (e0 + 1))) by
        rw [HR.out, restB_some hp, List.drop_drop, show k + (e0 + 1 - k) = e0 + 1 by omega])
      have HE2 := Lib.hid he2
      rw [hO] at CS
      have CS2 := Lib.hid (show ∀ W : World, Calls Tryz.prog 164 #[.string s, .int .i64 k] W fun e w' => e = .returned (.int .i64 e0) ∧ W = w' from CS.out)
      clear CS hO HR hm1 hm2 hp he1 he2 HOK
      go_wp2_with fail
      refine (CS2.out _).mono ?_
      rintro e W1 ⟨rfl, rfl⟩
      go_wp2
      go_loop [5] (fun jv => ∃ j : Nat, jv = .int .i64 j ∧ k ≤ j ∧ j ≤ e0 ∧ Hid (((s.data.toList.drop k).take (j - k)).all okP = true)) (fun jv => e0 - (intOf jv).toNat)
      case atStart => exact ⟨k, rfl, Nat.le_refl _, by omega, Lib.hid (by simp)⟩
      case round =>
        obtain ⟨j, rfl, hj1, hj2, HJ⟩ := hrel
        by_cases hj3 : j < e0
        · have hj3i : (j : Int) < (e0 : Int) := by omega
          have hj4 : j < s.size := by omega
          have hj4i : (j : Int) < (s.size : Int) := by omega
          have HA := Lib.hid (fun c hc => all_more HJ.out hj1 (c := c) hc)
          have hat := Lib.hid (at_byte s j hj4)
          obtain ⟨y, hy⟩ : ∃ y : UInt8, s[j] = y := ⟨_, rfl⟩
          rw [hy] at hat
          by_cases g4 : y.toNat = 47
          · have d1 : ((y.toNat : Int) == 47) = true := byte_t g4
            have HE := Lib.hid (show T = false by rw [HQ.out, all_short (n := j + 1 - k) (by omega) (by rw [HA.out y hat.out]; exact okP_f (.inl g4))]; rfl)
            clear g4
            go_wp2
            go_ret
            exact ⟨ret_bool HE.out.symm, rfl⟩
          have d1 : ((y.toNat : Int) == 47) = false := byte_f g4
          by_cases g5 : y.toNat = 10
          · have d2 : ((y.toNat : Int) == 10) = true := byte_t g5
            have HE := Lib.hid (show T = false by rw [HQ.out, all_short (n := j + 1 - k) (by omega) (by rw [HA.out y hat.out]; exact okP_f (.inr g5))]; rfl)
            clear g4 g5
            go_wp2
            go_ret
            exact ⟨ret_bool HE.out.symm, rfl⟩
          have d2 : ((y.toNat : Int) == 10) = false := byte_f g5
          have HE := Lib.hid (show ((s.data.toList.drop k).take (j + 1 - k)).all okP = true by rw [HA.out y hat.out]; exact okP_t g4 g5)
          clear g4 g5
          go_wp2
          go_round
          case rel => exact ⟨j + 1, by go_num, by omega, by omega, HE⟩
          case measure => simp [intOf]; omega
        · have hj3i : ¬ (j : Int) < (e0 : Int) := by omega
          have HE := Lib.hid (show T = restB (s.data.toList.drop (e0 + 1)) by
            rw [HQ.out, show e0 = j by omega, all_more HJ.out hj1 (c := 93) (by rw [show j = e0 by omega]; exact HE2.out)]; rfl)
          go_wp2
          go_round
          case rel => exact ⟨e0 + 1, by go_num, by omega, HE⟩
          case measure => simp [intOf]; omega
end Go.Proofs.YtipepbnmllbonaaGreatDoor
namespace Go.Proofs.YtipepbnmllbonaaGreatDoor
open Go.RowKit

theorem PcAt.shape {W : World} {B : Nat} {v : Value} {p : Pc} (h : PcAt W B v p) : ∃ t c, v = .iface t c := by
  cases p with
  | star => exact ⟨_, _, h⟩
  | any => exact ⟨_, _, h⟩
  | sign b => exact ⟨_, _, h⟩
  | set t rs => obtain ⟨c, h1, _⟩ := h; exact ⟨_, _, h1⟩
/-- A row of pieces is written: what the pieces stand on isn't. -/
theorem PcAt.grown {W W1 : World} {B : Nat} {v : Value} {p : Pc} {row : Option Nat} (h : PcAt W B v p) (hg : W.grownBy W1 row) (hr : ∀ g, row = some g → ∃ cur, W.heap[g]? = some (.cells cur 138 (0, 0))) : PcAt W1 B v p := by
  cases p with
  | star => exact h
  | any => exact h
  | sign b => exact h
  | set t rs =>
    obtain ⟨c, h1, n1, n2, sv, h2, h3, h4, h5, h6, h7⟩ := h
    refine ⟨c, h1, n1, n2, sv, h2, h3, h4, ?_, ?_, ?_⟩
    · refine (hg.block _ h5.lt fun e => ?_).trans h5
      obtain ⟨cur, hc⟩ := hr n1 e.symm
      unfold Box at h5; rw [hc] at h5; cases h5
    · refine (hg.block _ h6.lt fun e => ?_).trans h6
      obtain ⟨cur, hc⟩ := hr n2 e.symm
      unfold Box at h6; rw [hc] at h6; cases h6
    · refine World.ownsRow.kept h7 hg ?_
      rcases h7.2 with ⟨hv, hn⟩ | ⟨g, cap, cur, hv, hb, hgg, rest⟩
      · exact .inl (by rw [hv]; rfl)
      · refine .inr fun e => ?_
        rw [hv] at e
        obtain ⟨cur2, hc⟩ := hr g (by simp [Value.ownBlock] at e; exact e.symm)
        rw [hgg] at hc; cases hc
/-- The values of pieces. -/
def Pcs (W : World) (B : Nat) (vs : List Value) (ps : List Pc) : Prop := vs.length = ps.length ∧ ∀ (j : Nat) (p : Pc), ps[j]? = some p → ∃ u, vs[j]? = some u ∧ PcAt W B u p
theorem Pcs.nil (W : World) (B : Nat) : Pcs W B [] [] := ⟨rfl, fun j p h => by simp at h⟩
theorem Pcs.on {W W' : World} {B : Nat} {vs : List Value} {ps : List Pc} (h : Pcs W B vs ps) (hb : Below W.heap.size W W') : Pcs W' B vs ps :=
  ⟨h.1, fun j p hp => by obtain ⟨u, h1, h2⟩ := h.2 j p hp; exact ⟨u, h1, h2.on hb⟩⟩
theorem Pcs.snoc {W W1 : World} {B : Nat} {vs : List Value} {ps : List Pc} {row : Option Nat} {u : Value} {p : Pc} (h : Pcs W B vs ps) (hu : PcAt W B u p) (hg : W.grownBy W1 row) (hr : ∀ g, row = some g → ∃ cur, W.heap[g]? = some (.cells cur 138 (0, 0))) : Pcs W1 B (vs ++ [u]) (ps ++ [p]) := by
  refine ⟨by simp [h.1], fun j q hq => ?_⟩
  by_cases hj : j < ps.length
  · rw [List.getElem?_append_left hj] at hq
    obtain ⟨x, h1, h2⟩ := h.2 j q hq
    exact ⟨x, by rw [List.getElem?_append_left (by rw [h.1]; exact hj)]; exact h1, h2.grown hg hr⟩
  · rw [List.getElem?_append_right (by omega)] at hq
    have hz : j - ps.length = 0 := by
      by_cases hz : j - ps.length = 0
      · exact hz
      · rw [List.getElem?_eq_none (by simp; omega)] at hq; cases hq
    rw [hz] at hq
    simp at hq
    subst hq
    exact ⟨u, by rw [List.getElem?_append_right (by rw [h.1]; omega), h.1, hz]; rfl, hu.grown hg hr⟩
def PRow (W : World) (B : Nat) (v : Value) (vs : List Value) : Prop := W.ownsRow B 138 1 v vs.length vs
theorem PRow.own {W : World} {B : Nat} {v : Value} {vs : List Value} (h : PRow W B v vs) : W.ownsRow B 138 1 v vs.length vs := h
theorem PRow.snoc {W : World} {B : Nat} {v : Value} {vs : List Value} {u : Value} (h : W.ownsRow B 138 1 v (vs.length + 1) (vs ++ [u])) : PRow W B v (vs ++ [u]) := by
  unfold PRow; rw [List.length_append]; exact h
theorem PRow.on {W W' : World} {B : Nat} {v : Value} {vs : List Value} (h : PRow W B v vs) (hb : Below W.heap.size W W') : PRow W' B v vs := owns_on h hb
theorem PRow.blk {W : World} {B : Nat} {v : Value} {vs : List Value} (h : PRow W B v vs) : ∀ g, v.ownBlock = some g → ∃ cur, W.heap[g]? = some (.cells cur 138 (0, 0)) := by
  intro g e
  rcases h.2 with ⟨hv, hn⟩ | ⟨g2, cap, cur, hv, hb, hgg, rest⟩
  · rw [hv] at e; cases e
  · rw [hv] at e
    have : g2 = g := by simpa [Value.ownBlock] using e
    subst this
    exact ⟨cur, hgg⟩
theorem infoP : (Tryz.prog.info? 138).map (fun i => (i.zero, i.size, i.bytes)) = some (some .nilIface, 1, 16) := by kernel_rfl
/-- What piecesOf tells. -/
def psO (l : List UInt8) : Option (List Pc) := if l.length ≤ 60 ∧ l.all okP = true then piecesL l else none
theorem psO_some (l : List UInt8) : (psO l).isSome = patB l := by
  unfold psO patB
  by_cases h1 : l.length ≤ 60
  · cases h2 : l.all okP with
    | true => rw [if_pos ⟨h1, rfl⟩]; simp [h1]
    | false => rw [if_neg (by rintro ⟨_, e⟩; cases e)]; simp
  · rw [if_neg (fun e => h1 e.1)]; simp [h1]
def PsRes (B : Nat) (T : Option (List Pc)) (e : Ending) (w' : World) : Prop :=
  (T = none ∧ ∃ v, e = .returned (.tuple #[v, .bool false])) ∨
  ∃ ps v vs, T = some ps ∧ e = .returned (.tuple #[v, .bool true]) ∧ PRow w' B v vs ∧ Pcs w' B vs ps ∧ vs.length ≤ 60
theorem str_empty : (strOf []).toList.isEmpty = true := by rw [Lib.toList_data, strOf_data]; rfl
theorem cell_one_at (w : World) (o : Obj) (x : Value) (t : TypeId) : ∀ j u, [x][j]? = some u → ((w.alloc o).alloc (.cells #[x] t)).cell? ((⟨w.heap.size + 1, 0, none⟩ : Addr).add j) = some u := by
  intro j u hj
  match j, hj with
  | 0, hj => simp at hj; subst hj; simp [Addr.add]
  | j + 1, hj => simp at hj

set_option maxRecDepth 100000 in
set_option maxHeartbeats 8000000 in
theorem implPiecesOf (s : ByteArray) (hm : s.size ≤ maxLen) (w : World) :
    Calls Tryz.prog 119 #[.string s] w fun e w' => PsRes w.heap.size (psO s.data.toList) e w' ∧ Below w.heap.size w w' := by
  unfold maxLen at hm
  have hsz : s.data.toList.length = s.size := by simp
  by_cases hs : s.size ≤ 60
  rotate_left
  · have hsi : ¬ (s.size : Int) ≤ 60 := by omega
    have HE := Lib.hid (show psO s.data.toList = none by unfold psO; rw [if_neg (by rintro ⟨e, _⟩; omega)])
    clear hs hsz
    go_enter Tryz.func119, Tryz.ntmps119
    go_wp2
    go_ret2
    exact ⟨.inl ⟨HE.out, _, rfl⟩, Below.refl _ _⟩
  have hsi : (s.size : Int) ≤ 60 := by omega
  have CA := Lib.hid (fun W => containsAny2 s W hs)
  cases ha : s.data.toList.all okP with
  | false =>
    have HE := Lib.hid (show psO s.data.toList = none by unfold psO; rw [if_neg (by rintro ⟨_, e⟩; rw [ha] at e; cases e)])
    rw [ha] at CA
    clear hs hsz ha
    go_enter Tryz.func119, Tryz.ntmps119
    go_wp2_with fail
    refine (CA.out _).mono ?_
    rintro e W1 ⟨rfl, hb1⟩
    go_wp2
    go_ret2
    exact ⟨.inl ⟨HE.out, _, rfl⟩, hb1⟩
  | true =>
    obtain ⟨j0, kj, kz0, kz1, kz2⟩ := info_parts infoP
    obtain ⟨T, hT⟩ : ∃ T, psO s.data.toList = T := ⟨_, rfl⟩
    have HT := Lib.hid (show T = (piecesL s.data.toList).map ([] ++ ·) by
      rw [← hT]; unfold psO; rw [if_pos ⟨by omega, ha⟩]
      cases piecesL s.data.toList <;> rfl)
    rw [hT]
    rw [ha] at CA
    have hss : s = strOf s.data.toList := by simp [strOf]
    have HSS := Lib.hid hss
    clear hT ha hss
    go_enter Tryz.func119, Tryz.ntmps119
    go_wp2_with fail
    refine (CA.out _).mono ?_
    rintro e W1 ⟨rfl, hb1⟩
    go_wp2
    go_loopw [4, 5, 6, 7, 8] (fun pv rv _ _ _ wr => ∃ ps vs l, rv = .string (strOf l) ∧ PRow wr w.heap.size pv vs ∧ Pcs wr w.heap.size vs ps ∧ Below w.heap.size w wr ∧ vs.length + l.length ≤ 60 ∧ Hid (T = (piecesL l).map (ps ++ ·))) (fun _ rv _ _ _ _ => strN rv)
    case atStart => exact ⟨[], [], s.data.toList, by rw [← HSS.out], World.ownsRow_nil _ _ _ _, Pcs.nil _ _, hb1, by simpa using hs, HT⟩
    case round =>
      clear HT CA HSS hb1
      obtain ⟨ps, vs, l, rfl, hP, hC, hb, hlen, HR⟩ := hrel
      have HP := Lib.hid hP
      have HC := Lib.hid hC
      have HB := Lib.hid hb
      have hwsz := hb.size
      clear hP hC hb
      cases l with
      | nil =>
        have HE := Lib.hid (show T = some ps by rw [HR.out, piecesL_nil]; simp)
        have he : (strOf []).toList.isEmpty = true := str_empty
        clear HR
        generalize strOf [] = y at he
        go_wp2
        go_ret2
        exact ⟨.inr ⟨ps, _, vs, HE.out, rfl, HP.out, HC.out, by simp at hlen; omega⟩, HB.out⟩
      | cons c r =>
        have he : (strOf (c :: r)).toList.isEmpty = false := empty_f (strOf_data _)
        have CK := Lib.hid (fun W => implCutPiece (strOf (c :: r)) (by rw [strOf_size]; omega) (by rw [strOf_data]; simp) W)
        rw [strOf_data] at CK
        have hlsz : (strOf (c :: r)).size = r.length + 1 := by rw [strOf_size]; rfl
        generalize strOf (c :: r) = y at he CK hlsz
        go_wp2_with fail
        refine (CK.out _).mono ?_
        rintro e W2 ⟨hres, hb2⟩
        have HB2 := Lib.hid (HB.out.trans (hb2.mono hwsz))
        have HP2 := Lib.hid (HP.out.on hb2)
        have HC2 := Lib.hid (HC.out.on hb2)
        have hwsz2 := HB2.out.size
        have hmn := hb2.size
        clear hb2 HB HP HC CK
        rcases hres with ⟨ht, v, q, rfl⟩ | ⟨p, k, v, ht, rfl, hpc⟩
        · have HE := Lib.hid (show T = none by rw [HR.out, piecesL_none (by simp) ht]; rfl)
          clear ht HR
          go_wp2
          go_ret2
          exact ⟨.inl ⟨HE.out, _, rfl⟩, HB2.out⟩
        · have HE := Lib.hid (show T = (piecesL ((c :: r).drop k)).map ((ps ++ [p]) ++ ·) by
            rw [HR.out, piecesL_some ht, Option.map_map]
            congr 1; funext z; simp)
          obtain ⟨g1, g2⟩ := pieceL_pos ht
          have HPC := Lib.hid (hpc.mono (by omega : w.heap.size ≤ wr.heap.size))
          obtain ⟨t0, c0, rfl⟩ := hpc.shape
          have hdl : ((c :: r).drop k).length + 1 ≤ r.length + 1 := by rw [List.length_drop]; simp at g2 ⊢; omega
          simp only [List.length_cons] at hlen
          clear ht HR hpc g2
          generalize (c :: r).drop k = l2 at HE hdl
          go_wp2_with (at_builtin; refine wpList_append_own _ rfl _ _ 133 rfl w.heap.size 138 j0 .nilIface 1 16 Tryz.underlying133 kj kz0 kz1 kz2 rfl (by decide) _ _ _ rfl (HP2.out.own.alloc _) ⟨W2.heap.size, 0, none⟩ 1 1 [.iface t0 c0] rfl rfl (cell_one_new _ _ _) (by simp [Value.oneCell']) (by unfold maxLen; omega) (by omega) (by simp; omega) ?_; intro v' w1 hown' hgrow _; have HP3 := Lib.hid (PRow.snoc hown'); have hal := (Below.refl W2.heap.size W2).alloc (Nat.le_refl _) (.cells #[.iface t0 c0] 138); have HC3 := Lib.hid ((HC2.out.on hal).snoc (HPC.out.on hal) hgrow (HP2.out.on hal).blk); have HB3 := Lib.hid ((HB2.out.alloc hwsz2 (.cells #[.iface t0 c0] 138)).grown hgrow (by simp; omega) (fun k e => (World.ownsRow.lt HP2.out.own k e).1)); clear hown' hgrow hal)
          go_roundw
          case rel => exact ⟨ps ++ [p], vs ++ [.iface t0 c0], l2, rfl, HP3.out, HC3.out, HB3.out, by simp; omega, HE⟩
          case measure => simp [strN, strOf_size]; omega

end Go.Proofs.YtipepbnmllbonaaGreatDoor
