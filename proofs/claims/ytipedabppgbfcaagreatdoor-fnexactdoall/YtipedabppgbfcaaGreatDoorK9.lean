/- Contracts over the tree that is worked on: base, comparePath, isFolder, the binary search, placeOf, hasFolder, fileAt. Contracts of spec.Find and impl.Find: the place of the first node of a path. -/
import Derived.Test.YtipedabppgbfcaaGreatDoorK8
import Derived.Test.YtipedabppgbfcaaGreatDoorShelf
import Derived.Test.YtipedabppgbfcaaGreatDoorK6
set_option linter.all false
namespace Go.Proofs.YtipedabppgbfcaaGreatDoor
open Go.RowKit
variable {R : World}

theorem cmp_cons (x y : UInt8) (a b : List UInt8) : Lib.compareBytes (x :: a) (y :: b) = if x < y then -1 else if y < x then 1 else Lib.compareBytes a b := rfl
theorem cmp_lt : ∀ (a b : List UInt8), decide (Lib.compareBytes a b < 0) = lessB a b
  | [], [] => rfl
  | [], _ :: _ => rfl
  | _ :: _, [] => rfl
  | x :: a, y :: b => by
    rw [less_cons, ← cmp_lt a b, cmp_cons]
    by_cases h1 : x < y
    · simp [h1]
    · by_cases h2 : y < x
      · have : ¬ x = y := fun e => h1 (by rw [e] at h2 ⊢; exact h2)
        simp [h1, h2, this]
      · have e : x = y := UInt8.le_antisymm (UInt8.not_lt.1 h2) (UInt8.not_lt.1 h1)
        subst e
        simp [h1]
theorem cmp_eq : ∀ (a b : List UInt8), decide (Lib.compareBytes a b = 0) = decide (a = b)
  | [], [] => rfl
  | [], _ :: _ => by simp [Lib.compareBytes]
  | _ :: _, [] => by simp [Lib.compareBytes]
  | x :: a, y :: b => by
    have ih := cmp_eq a b
    rw [cmp_cons]
    by_cases h1 : x < y
    · have : ¬ x = y := fun e => by subst e; exact absurd h1 (UInt8.lt_irrefl x)
      simp [h1, this]
    · by_cases h2 : y < x
      · have : ¬ x = y := fun e => by subst e; exact absurd h2 (UInt8.lt_irrefl x)
        simp [h1, h2, this]
      · have e : x = y := UInt8.le_antisymm (UInt8.not_lt.1 h2) (UInt8.not_lt.1 h1)
        subst e
        simp only [h1, if_false, List.cons.injEq, true_and]
        exact ih

theorem wkBase (b : Nat) (w : World) : Calls Tryz.prog 254 #[.pointer (some ⟨b, 0, none⟩)] w fun e w' => e = .returned (.pointer (some ⟨b, 0, none⟩)) ∧ w = w' := by
  go_enter Tryz.func254, Tryz.ntmps254
  go_wp2
  go_ret
  exact ⟨rfl, rfl⟩
theorem wkCompare (b : Nat) (n : Nd) (p : List UInt8) (w : World) (h : WkAt w b n) : Calls Tryz.prog 163 #[wkVal (b, n), .string (strOf p)] w fun e w' => e = .returned (.int .i64 (Lib.compareBytes n.path p)) ∧ w = w' := by
  have c0 := h.cells.1
  have CB := fun W => wkBase b W
  have CC := fun W => Tryz.strings_Compare (strOf n.path) (strOf p) W
  simp only [strOf_data] at CC
  have n1 := fun W => nil_folder "loop.example/g00704/impl.base" b W (.inl rfl)
  have n2 := fun W => nil_file "loop.example/g00704/impl.base" b W (.inl rfl)
  have m1 := fun W => base_folder b W
  have m2 := fun W => base_file b W
  generalize Lib.compareBytes n.path p = z at CC ⊢
  cases hd : n.dir with
  | true =>
    rw [wkVal_dir hd]
    clear h hd
    go_enter Tryz.func163, Tryz.ntmps163
    go_wp2_with (first | (go_at_call 254; refine (CB _).mono ?_; rintro e w' ⟨rfl, rfl⟩) | (go_at_call 185; refine (CC _).mono ?_; rintro e w' ⟨rfl, rfl⟩))
    go_ret
    exact ⟨rfl, rfl⟩
  | false =>
    rw [wkVal_file hd]
    clear h hd
    go_enter Tryz.func163, Tryz.ntmps163
    go_wp2_with (first | (go_at_call 254; refine (CB _).mono ?_; rintro e w' ⟨rfl, rfl⟩) | (go_at_call 185; refine (CC _).mono ?_; rintro e w' ⟨rfl, rfl⟩))
    go_ret
    exact ⟨rfl, rfl⟩
theorem as_dir_dir (b : Nat) (W : World) : (Instr.typeAssert (.iface 140 (.pointer (some ⟨b, 0, none⟩))) 149 140 true).run Tryz.prog W = .ok (.tuple #[.pointer (some ⟨b, 0, none⟩), .bool true]) W := by kernel_rfl
theorem as_file_dir (b : Nat) (W : World) : (Instr.typeAssert (.iface 143 (.pointer (some ⟨b, 0, none⟩))) 149 140 true).run Tryz.prog W = .ok (.tuple #[.pointer none, .bool false]) W := by kernel_rfl
theorem as_dir_file (b : Nat) (W : World) : (Instr.typeAssert (.iface 140 (.pointer (some ⟨b, 0, none⟩))) 149 143 true).run Tryz.prog W = .ok (.tuple #[.pointer none, .bool false]) W := by kernel_rfl
theorem as_file_file (b : Nat) (W : World) : (Instr.typeAssert (.iface 143 (.pointer (some ⟨b, 0, none⟩))) 149 143 true).run Tryz.prog W = .ok (.tuple #[.pointer (some ⟨b, 0, none⟩), .bool true]) W := by kernel_rfl
set_option maxRecDepth 100000 in
theorem wkFolder (b : Nat) (n : Nd) (w : World) : Calls Tryz.prog 154 #[wkVal (b, n)] w fun e w' => e = .returned (.bool n.dir) ∧ w = w' := by
  have a1 := as_dir_dir b
  have a2 := as_file_dir b
  cases hd : n.dir with
  | true =>
    rw [wkVal_dir hd]
    clear hd
    go_enter Tryz.func154, Tryz.ntmps154
    go_wp2
    go_ret
    exact ⟨rfl, rfl⟩
  | false =>
    rw [wkVal_file hd]
    clear hd
    go_enter Tryz.func154, Tryz.ntmps154
    go_wp2
    go_ret
    exact ⟨rfl, rfl⟩

theorem place_is {p : List UInt8} {ns : List Nd} {i : Nat} (hi : i ≤ ns.length) (h1 : ∀ t (ht : t < ns.length), t < i → lessB ns[t].path p = true) (h2 : ∀ t (ht : t < ns.length), i ≤ t → lessB ns[t].path p = false) : placeV p ns = i := by
  unfold placeV
  conv => lhs; rw [← List.take_append_drop i ns]
  rw [List.countP_append, List.countP_eq_length.2, List.countP_eq_zero.2]
  · simp; omega
  · intro m hm
    obtain ⟨j, hj, rfl⟩ := List.getElem_of_mem hm
    rw [List.getElem_drop, h2 _ (by simp at hj; omega) (by omega)]; simp
  · intro m hm
    obtain ⟨j, hj, rfl⟩ := List.getElem_of_mem hm
    rw [List.getElem_take, h1 _ (by simp at hj; omega) (by simp at hj; omega)]
theorem nds_at (ps : List (Nat × Nd)) (i : Nat) (h : i < (nds ps).length) : (nds ps)[i] = (ps[i]'(by simpa [nds] using h)).2 := by simp [nds]
theorem up_lt {ns : List Nd} (hu : Up ns) {i j : Nat} (hj : j < ns.length) (hij : i ≤ j) {p : List UInt8} (h : lessB ns[j].path p = true) : lessB (ns[i]'(by omega)).path p = true := by
  by_cases e : i = j
  · subst e; exact h
  · exact less_trans (List.pairwise_iff_getElem.1 hu i j (by omega) hj (by omega)) h

set_option maxRecDepth 100000 in
set_option maxHeartbeats 2000000 in
theorem wkSearch (w : World) (B p : Nat) (v : Value) (ps : List (Nat × Nd)) (next : Int) (path : List UInt8) (h : Work R w B p v ps next) (hu : Up (nds ps)) (hlen : ps.length ≤ 60) :
    Calls Tryz.prog 179 #[v, .string (strOf path), .func (.func 163) #[] #[]] w fun e w' => e = .returned (.tuple #[.int .i64 (placeV path (nds ps)), .bool (findV path (nds ps)).isSome]) ∧ w = w' := by
  have eg : ∀ args w, (callFunc 163 args).run Tryz.prog w = .ok (.enter 163 args) w := enters_of Tryz.func163 (by kernel_rfl) rfl
  rcases h.form with ⟨rfl, rfl⟩ | ⟨g, cap, rfl, hB, hg, hc, hf, hl, hm, _⟩
  · clear h hu
    go_enter Tryz.func179, Tryz.ntmps179
    go_wp2
    go_loop [9, 10] (fun i j => i = .int .i64 0 ∧ j = .int .i64 0) (fun _ _ => 0)
    case atStart => exact ⟨rfl, rfl⟩
    case round =>
      obtain ⟨rfl, rfl⟩ := hrel
      go_wp2
      go_ret2
      exact ⟨rfl, rfl⟩
  · unfold maxLen at hm
    have HH := Lib.hid h
    have HU := Lib.hid hu
    have HC := Lib.hid hc
    have HL := Lib.hid (show (nds ps).length = ps.length by simp [nds])
    clear h hu hc hf
    go_enter Tryz.func179, Tryz.ntmps179
    go_wp2
    go_loop [9, 10] (fun i j => ∃ lo hi : Nat, i = .int .i64 lo ∧ j = .int .i64 hi ∧ lo ≤ hi ∧ hi ≤ ps.length ∧ Hid ((∀ t (ht : t < (nds ps).length), t < lo → lessB (nds ps)[t].path path = true) ∧ (∀ t (ht : t < (nds ps).length), hi ≤ t → lessB (nds ps)[t].path path = false))) (fun i j => (intOf j).toNat - (intOf i).toNat)
    case atStart => exact ⟨0, ps.length, rfl, rfl, Nat.zero_le _, Nat.le_refl _, Lib.hid ⟨fun t _ ht => absurd ht (Nat.not_lt_zero _), fun t ht h1 => by have := HL.out; omega⟩⟩
    case round =>
      obtain ⟨lo, hi, rfl, rfl, hlh, hin, HI⟩ := hrel
      by_cases hlt : lo < hi
      · have hltI : (lo : Int) < (hi : Int) := by omega
        have hmid : (lo + hi) / 2 < ps.length := by omega
        have cm := HC.out ((lo + hi) / 2) hmid
        have hn := (HH.out.node _ (List.getElem_mem hmid)).2
        have HA := Lib.hid (nds_at ps ((lo + hi) / 2) (by have := HL.out; omega))
        generalize hq : ps[(lo + hi) / 2] = q at cm hn
        have CC := wkCompare q.1 q.2 path w hn
        have HQ := Lib.hid hq
        have hlb := cmp_lt q.2.path path
        generalize Lib.compareBytes q.2.path path = z at CC hlb
        obtain ⟨b, n⟩ := q
        clear hq hn
        cases hz : lessB n.path path with
        | true =>
          have hz0 : z < 0 := by rw [hz] at hlb; exact of_decide_eq_true hlb
          have HZ := Lib.hid hz
          clear hlb hz
          go_wp2_with (go_at_fn 163; refine CC.mono ?_; rintro e w' ⟨rfl, rfl⟩)
          go_round
          case rel =>
            refine ⟨(lo + hi) / 2 + 1, hi, by rw [show ((lo : Int) + (hi : Int)) / 2 + 1 = (((lo + hi) / 2 + 1 : Nat) : Int) by omega], rfl, by omega, hin, Lib.hid ⟨fun t ht h1 => ?_, HI.out.2⟩⟩
            refine up_lt HU.out (j := (lo + hi) / 2) (by have := HL.out; omega) (by omega) ?_
            rw [HA.out, HQ.out]; exact HZ.out
          case measure => simp [intOf]; omega
        | false =>
          have hz0 : ¬ z < 0 := by rw [hz] at hlb; exact of_decide_eq_false hlb
          have HZ := Lib.hid hz
          clear hlb hz
          go_wp2_with (go_at_fn 163; refine CC.mono ?_; rintro e w' ⟨rfl, rfl⟩)
          go_round
          case rel =>
            refine ⟨lo, (lo + hi) / 2, rfl, by rw [show ((lo : Int) + (hi : Int)) / 2 = (((lo + hi) / 2 : Nat) : Int) by omega], by omega, by omega, Lib.hid ⟨HI.out.1, fun t ht h1 => ?_⟩⟩
            cases hq : lessB (nds ps)[t].path path with
            | false => rfl
            | true =>
              have := up_lt HU.out (i := (lo + hi) / 2) ht h1 hq
              rw [HA.out, HQ.out, HZ.out] at this; cases this
          case measure => simp [intOf]; omega
      · have hle : lo = hi := by omega
        subst hle
        have hltI : ¬ (lo : Int) < (lo : Int) := by omega
        have hpl := place_is (p := path) (ns := nds ps) (i := lo) (by have := HL.out; omega) HI.out.1 HI.out.2
        have HP := Lib.hid hpl
        clear hpl
        by_cases hn : lo < ps.length
        · have hnI : (lo : Int) < (ps.length : Int) := by omega
          have cm := HC.out lo hn
          have hk := (HH.out.node _ (List.getElem_mem hn)).2
          have HA := Lib.hid (nds_at ps lo (by have := HL.out; omega))
          generalize hq : ps[lo] = q at cm hk
          have CC := wkCompare q.1 q.2 path w hk
          have hlb := cmp_eq q.2.path path
          have HQ := Lib.hid hq
          generalize Lib.compareBytes q.2.path path = z at CC hlb
          obtain ⟨b, n⟩ := q
          clear hq hk
          by_cases he : n.path = path
          · have hz0 : z = 0 := by rw [decide_eq_true he] at hlb; exact of_decide_eq_true hlb
            have HF := Lib.hid (place_hit HU.out (by rw [HP.out]; have := HL.out; omega) (by simp only [HP.out]; rw [HA.out, HQ.out]; exact he))
            subst hz0
            clear hlb he
            go_wp2_with (go_at_fn 163; refine CC.mono ?_; rintro e w' ⟨rfl, rfl⟩)
            go_ret2
            exact ⟨by rw [HF.out, HP.out]; simp, rfl⟩
          · have hz0 : ¬ z = 0 := by rw [decide_eq_false he] at hlb; exact of_decide_eq_false hlb
            have HF := Lib.hid (place_miss (p := path) HU.out (fun h => by simp only [HP.out]; rw [HA.out, HQ.out]; exact he))
            clear hlb he
            go_wp2_with (go_at_fn 163; refine CC.mono ?_; rintro e w' ⟨rfl, rfl⟩)
            go_ret2
            exact ⟨by rw [HF.out, HP.out]; simp [hz0], rfl⟩
        · have hnI : ¬ (lo : Int) < (ps.length : Int) := by omega
          have HF := Lib.hid (place_miss (p := path) HU.out (fun h => by exfalso; rw [HP.out] at h; have := HL.out; omega))
          go_wp2
          go_ret2
          exact ⟨by rw [HF.out, HP.out]; rfl, rfl⟩
end Go.Proofs.YtipedabppgbfcaaGreatDoor
namespace Go.Proofs.YtipedabppgbfcaaGreatDoor
open Go.RowKit

theorem str_t {a b : List UInt8} (h : a = b) : ((strOf a).toList == (strOf b).toList) = true := by subst h; simp
theorem str_f {a b : List UInt8} (h : a ≠ b) : ((strOf a).toList == (strOf b).toList) = false := by
  rw [Lib.toList_data, Lib.toList_data, strOf_data, strOf_data]
  simpa using h
theorem findI_hit {p : List UInt8} {ns : List Nd} {k : Nat} (h : k < ns.length) (h1 : ∀ j (hj : j < ns.length), j < k → ns[j].path ≠ p) (h2 : ns[k].path = p) : findI p ns = k := by
  unfold findI; rw [find_hit h h1 h2]
theorem findI_miss {p : List UInt8} {ns : List Nd} (h : ∀ j (hj : j < ns.length), ns[j].path ≠ p) : findI p ns = -1 := by
  unfold findI; rw [find_miss h]

set_option maxRecDepth 100000 in
set_option maxHeartbeats 2000000 in
theorem specFind (w : World) (v : Value) (ns : List Nd) (next : Int) (p : List UInt8) (h : NRd w v ns) :
    Calls Tryz.prog 98 #[.agg #[v, .int .i64 next], .string (strOf p)] w fun e w' => e = .returned (.int .i64 (findI p ns)) ∧ Below w.heap.size w w' := by
  by_cases hn : ns = []
  · subst hn
    obtain ⟨a1, c1, rfl, _⟩ := h
    go_enter Tryz.func98, Tryz.ntmps98
    go_wp2
    go_loop [5] (fun i => i = .int .i64 0) (fun _ => 0)
    case atStart => rfl
    case round =>
      subst hrel
      go_wp2
      go_ret
      exact ⟨rfl, (Below.refl _ _).alloc (Nat.le_refl _) _⟩
  · obtain ⟨g1, c1, rfl, hg1, hl1, hm1, hc1⟩ := h.at hn
    clear h hn
    unfold maxLen at hm1
    have HC1 := Lib.hid hc1
    have hb : Below w.heap.size w (w.alloc (.cells #[.slice (some ⟨g1, 0, none⟩) ns.length c1, .int .i64 next] 26)) := (Below.refl _ _).alloc (Nat.le_refl _) _
    have HB := Lib.hid hb
    clear hc1 hb
    go_enter Tryz.func98, Tryz.ntmps98
    go_wp2
    go_loop [5] (fun i => ∃ k : Nat, k ≤ ns.length ∧ i = .int .i64 k ∧ ∀ j (hj : j < ns.length), j < k → ns[j].path ≠ p) (fun i => ns.length - (intOf i).toNat)
    case atStart => exact ⟨0, Nat.zero_le _, rfl, fun j _ hj => by omega⟩
    case round =>
      obtain ⟨k, hk, rfl, hno⟩ := hrel
      have HNO := Lib.hid hno
      clear hno
      by_cases h : k < ns.length
      · have hki : (k : Int) < (ns.length : Int) := by omega
        have hk1 := ((HC1.out k h).on hg1 HB.out).c0
        by_cases he : ns[k].path = p
        · have ht := str_t he
          have HE := Lib.hid he
          clear he
          go_wp2
          go_ret
          exact ⟨ret_int (by rw [findI_hit h HNO.out HE.out]), HB.out⟩
        · have ht := str_f he
          have HE := Lib.hid he
          clear he
          go_wp2
          go_round
          case rel => exact ⟨k + 1, by omega, by go_num, fun j hj hjk => by
            by_cases e : j = k
            · subst e; exact HE.out
            · exact HNO.out j hj (by omega)⟩
          case measure => simp [intOf]; omega
      · have hki : ¬ (k : Int) < (ns.length : Int) := by omega
        go_wp2
        go_ret
        exact ⟨ret_int (by rw [findI_miss (fun j hj => HNO.out j hj (by omega))]), HB.out⟩

set_option maxRecDepth 100000 in
set_option maxHeartbeats 2000000 in
/-- The predicate that impl.Find hands on. -/
theorem implFind1 (nd : Nd) (p : List UInt8) (B : Nat) (w : World) (t : TypeId) (h : Blk w B #[.string (strOf p)] t) :
    Calls Tryz.prog 70 #[.agg #[.string (strOf nd.path), .bool nd.dir, .int .i64 nd.mode, .int .i64 nd.time, .int .i64 nd.id, .string (strOf nd.data)], .pointer (some ⟨B, 0, none⟩)] w fun e w' => e = .returned (.bool ((strOf nd.path).toList == (strOf p).toList)) ∧ Below w.heap.size w w' := by
  have hc := (h.alloc (.cells #[.string (strOf nd.path), .bool nd.dir, .int .i64 nd.mode, .int .i64 nd.time, .int .i64 nd.id, .string (strOf nd.data)] 37)).cell 0
  simp at hc
  have hlt := h.lt
  clear h
  go_enter Tryz.func70, Tryz.ntmps70
  go_wp2
  all_goals
    go_ret
    exact ⟨by simp_all, (Below.refl _ _).alloc (Nat.le_refl _) _⟩

set_option maxRecDepth 100000 in
set_option maxHeartbeats 2000000 in
theorem implIndex (w : World) (v : Value) (ns : List Nd) (p : List UInt8) (B : Nat) (t : TypeId) (h : NRd w v ns) (hB : Blk w B #[.string (strOf p)] t) :
    Calls Tryz.prog 69 #[v, .func (.func 70) #[] #[.pointer (some ⟨B, 0, none⟩)]] w fun e w' => e = .returned (.int .i64 (findI p ns)) ∧ Below w.heap.size w w' := by
  by_cases hn : ns = []
  · subst hn
    obtain ⟨a1, c1, rfl, _⟩ := h
    go_enter Tryz.func69, Tryz.ntmps69
    go_wp2
    go_loop [8] (fun i => i = .int .i64 0) (fun _ => 0)
    case atStart => rfl
    case round =>
      subst hrel
      go_wp2
      go_ret
      exact ⟨rfl, Below.refl _ _⟩
  · obtain ⟨g1, c1, rfl, hg1, hl1, hm1, hc1⟩ := h.at hn
    clear h hn
    unfold maxLen at hm1
    have HC1 := Lib.hid hc1
    have HBK := Lib.hid hB
    have hlt := hB.lt
    have eg : ∀ args w, (callFunc 70 args).run Tryz.prog w = .ok (.enter 70 args) w := enters_of Tryz.func70 (by kernel_rfl) rfl
    clear hc1 hB
    go_enter Tryz.func69, Tryz.ntmps69
    go_wp2
    go_loopw [5, 8] (fun _ i W => ∃ k : Nat, k ≤ ns.length ∧ i = .int .i64 k ∧ (∀ j (hj : j < ns.length), j < k → ns[j].path ≠ p) ∧ Below w.heap.size w W) (fun _ i _ => ns.length - (intOf i).toNat)
    case atStart => exact ⟨0, Nat.zero_le _, rfl, fun j _ hj => by omega, Below.refl _ _⟩
    case round =>
      obtain ⟨k, hk, rfl, hno, hb⟩ := hrel
      have HNO := Lib.hid hno
      have HB := Lib.hid hb
      clear hno hb
      by_cases h : k < ns.length
      · have hki : (k : Int) < (ns.length : Int) := by omega
        have hk1 := (HC1.out k h).on hg1 HB.out
        obtain ⟨d0, d1, d2, d3, d4, d5⟩ := hk1
        obtain ⟨nd, hnd⟩ : ∃ nd, ns[k] = nd := ⟨_, rfl⟩
        rw [hnd] at d0 d1 d2 d3 d4 d5
        have C1 := implFind1 nd p B wr t (HBK.out.below HB.out hlt)
        have HND := Lib.hid hnd
        clear hnd
        by_cases he : nd.path = p
        · rw [str_t he] at C1
          have HE := Lib.hid he
          clear he
          go_wp2_with (go_at_fn 70; refine C1.mono ?_; rintro e w' ⟨rfl, hb2⟩)
          go_ret
          exact ⟨ret_int (by rw [findI_hit h HNO.out (by rw [HND.out]; exact HE.out)]), HB.out.trans (hb2.mono HB.out.size)⟩
        · rw [str_f he] at C1
          have HE := Lib.hid he
          clear he
          go_wp2_with (go_at_fn 70; refine C1.mono ?_; rintro e w' ⟨rfl, hb2⟩)
          go_roundw
          case rel => exact ⟨k + 1, by omega, by go_num, fun j hj hjk => by
            by_cases e : j = k
            · subst e; rw [HND.out]; exact HE.out
            · exact HNO.out j hj (by omega), HB.out.trans (hb2.mono HB.out.size)⟩
          case measure => simp [intOf]; omega
      · have hki : ¬ (k : Int) < (ns.length : Int) := by omega
        go_wp2
        go_ret
        exact ⟨ret_int (by rw [findI_miss (fun j hj => HNO.out j hj (by omega))]), HB.out⟩

set_option maxRecDepth 100000 in
set_option maxHeartbeats 2000000 in
theorem implFind (w : World) (v : Value) (ns : List Nd) (next : Int) (p : List UInt8) (h : NRd w v ns) :
    Calls Tryz.prog 22 #[.agg #[v, .int .i64 next], .string (strOf p)] w fun e w' => e = .returned (.int .i64 (findI p ns)) ∧ Below w.heap.size w w' := by
  have hb := ((Below.refl w.heap.size w).alloc (Nat.le_refl _) (.cells #[v, .int .i64 next] 26))
  have hb2 := hb.alloc hb.size (.cells #[.string (strOf p)] 9)
  have CI := implIndex _ v ns p _ _ (h.on hb2) (Blk.new (w.alloc (.cells #[v, .int .i64 next] 26)) #[.string (strOf p)] 9)
  obtain ⟨a1, k1, rfl⟩ : ∃ a c, v = .slice a ns.length c := by obtain ⟨a, c, h, _⟩ := h; exact ⟨a, c, h⟩
  simp at CI
  have HB := Lib.hid hb2
  clear h hb hb2
  go_enter Tryz.func22, Tryz.ntmps22
  go_wp2_with fail
  refine CI.mono ?_
  rintro e W1 ⟨rfl, hb3⟩
  go_wp2
  go_ret
  exact ⟨rfl, HB.out.trans (hb3.mono (by omega))⟩
end Go.Proofs.YtipedabppgbfcaaGreatDoor
