/- The contract of impl.Clean. -/
import Derived.Test.YtcknohalbamjfaaDoorSplitSeq
import Derived.Test.YtcknohalbamjfaaDoorSpecClean2
namespace Go.Proofs.YtcknohalbamjfaaDoor
open Go.RowKit Go.Shelf
attribute [local go_sem] Oper.semAt_some

/-- What stands between two rounds: the box holds the parts that are left. -/
def CleanI (w : World) (pre : List (List UInt8)) (W : World) : Prop :=
  (∃ v, Boxed W w.heap.size 37 v ∧ Strs W (w.heap.size + 4) v (pre.foldl stepC [])) ∧ Below w.heap.size w W ∧ w.heap.size + 4 ≤ W.heap.size
theorem cleanI_own (w : World) : OwnS (w.heap.size + 4) (w.heap.size + 1) (CleanI w) := by
  rintro pre W W' row ⟨⟨v, hv, hr⟩, hb, hn⟩ hg hrow
  refine ⟨⟨v, hv.kept hg ?_, World.ownsRow.kept hr hg ?_⟩, hb.grown hg hb.size (fun k e => by rcases hrow k e with h | ⟨h, _⟩ <;> omega), Nat.le_trans hn hg.size⟩
  · intro e
    rcases hrow _ e.symm with h | ⟨h, _⟩ <;> omega
  · rcases hr.2 with ⟨rfl, _⟩ | ⟨g, cap, cur, rfl, hbg, hgc, _⟩
    · exact .inl rfl
    · refine .inr fun e => ?_
      simp only [Value.ownBlock] at e
      rcases hrow g e.symm with h | ⟨_, o, ho, hc⟩
      · omega
      · rw [hgc] at ho; cases ho; cases hc
theorem Strs.base {w : World} {B C : Nat} {v : Value} {ls : List (List UInt8)} (h : Strs w B v ls) (hC : C ≤ B) : Strs w C v ls := by
  refine ⟨h.1, ?_⟩
  rcases h.2 with hn | ⟨g, cap, cur, hv, hb, rest⟩
  · exact .inl hn
  · exact .inr ⟨g, cap, cur, hv, Nat.le_trans hC hb, rest⟩
theorem Strs.base0 {w : World} {B C : Nat} {e : TypeId} {size : Nat} {v : Value} {n : Nat} {xs : List Value} (h : w.ownsRow B e size v n xs) (hC : C ≤ B) : w.ownsRow C e size v n xs := by
  refine ⟨h.1, ?_⟩
  rcases h.2 with hn | ⟨g, cap, cur, hv, hb, rest⟩
  · exact .inl hn
  · exact .inr ⟨g, cap, cur, hv, Nat.le_trans hC hb, rest⟩
theorem fold_snoc (pre : List (List UInt8)) (x : List UInt8) : (pre ++ [x]).foldl stepC [] = stepC (pre.foldl stepC []) x := by rw [List.foldl_append]; rfl
theorem fold_len (pre : List (List UInt8)) : (pre.foldl stepC []).length ≤ pre.length := by
  have key : ∀ (ps left : List (List UInt8)), (ps.foldl stepC left).length ≤ left.length + ps.length := by
    intro ps
    induction ps with
    | nil => intro left; simp
    | cons p ps ih =>
      intro left
      have h1 := ih (stepC left p)
      have h2 : (stepC left p).length ≤ left.length + 1 := by
        unfold stepC
        split
        · omega
        · split
          · simp; omega
          · simp
      simp at *; omega
  simpa using key pre []

set_option maxRecDepth 100000 in
set_option maxHeartbeats 4000000 in
theorem implClean_in (s : ByteArray) (w : World) (hs : s.size ≤ 1500000) (hh : s.data.toList.head? = some 47) :
    CallsIn Fence.wide 6 Tryd.prog 15 #[.string s] w fun e W' => e = .returned (.string (strOf (cleanV s.data.toList))) ∧ Below w.heap.size w W' := by
  obtain ⟨i0, hi, hz0, hz1, hz2⟩ := info_parts infoP
  have hsz : s.data.toList.length = s.size := by simp
  have CH := Lib.hid (show ∀ W, Calls Tryd.prog 36 #[.string s, .string ⟨#[47]⟩] W fun e w' => e = .returned (.bool true) ∧ w' = W from fun W => by
    have c := Tryd.strings_HasPrefix s ⟨#[47]⟩ W
    rw [show (⟨#[47]⟩ : ByteArray).data.toList = [47] from rfl, head_text, decide_eq_true hh] at c
    exact c)
  have HV := Lib.hid (show cleanV s.data.toList = pathV ((partsL s.data.toList).foldl stepC []) by unfold cleanV leftC; rw [if_pos hh])
  generalize cleanV s.data.toList = cv at HV
  refine callsIn_of_wp_marks Tryd.func15 rfl trivial ?_ rfl
  simp only [Tryd.ntmps15, List.size_toArray, List.length_cons, List.length_nil, Nat.reduceAdd, Nat.reduceSub, Array.replicate_succ, Array.replicate_zero, List.push_toArray, List.append_toArray, List.nil_append, List.cons_append]
  gi_wp2_with fail
  refine ⟨trivial, ?_⟩
  refine (callsIn_wide.2 (CH.out _)).mono ?_
  rintro e w' ⟨rfl, hw⟩
  rw [hw]
  gi_wp2_with fail
  refine ⟨trivial, ?_⟩
  have CQ := implSplitSeq s (w.alloc (.cells #[.slice none 0 0] 37))
  obtain ⟨W0, hW0⟩ : ∃ W0, (((w.alloc (.cells #[.slice none 0 0] 37)).alloc (.cells #[.string s] 9)).alloc (.cells #[.string ⟨#[47]⟩] 9)).alloc (.cells #[.int .i64 0] 3) = W0 := ⟨_, rfl⟩
  rw [World.size_alloc, hW0] at CQ
  have hsz0 : W0.heap.size = w.heap.size + 4 := by rw [← hW0]; simp
  have hBox : Boxed W0 w.heap.size 37 (.slice none 0 0) := by
    rw [← hW0]; exact (((Boxed.new w 37 (.slice none 0 0)).alloc _).alloc _).alloc _
  have hBoxes : Boxes (w.heap.size + 1) s.data.toList W0 := by
    rw [← hW0]
    refine ⟨?_, ?_, ?_⟩
    · have h := Boxed.new (w.alloc (.cells #[.slice none 0 0] 37)) 9 (.string s)
      rw [World.size_alloc] at h
      rw [← strOf_self]
      exact (h.alloc _).alloc _
    · have h := Boxed.new ((w.alloc (.cells #[.slice none 0 0] 37)).alloc (.cells #[.string s] 9)) 9 (.string ⟨#[47]⟩)
      rw [World.size_alloc, World.size_alloc] at h
      exact h.alloc _
    · have h := Boxed.new (((w.alloc (.cells #[.slice none 0 0] 37)).alloc (.cells #[.string s] 9)).alloc (.cells #[.string ⟨#[47]⟩] 9)) 3 (.int .i64 0)
      rw [World.size_alloc, World.size_alloc, World.size_alloc] at h
      exact h
  have hBel : Below w.heap.size w W0 := by
    rw [← hW0]; exact ((((Below.refl _ w).alloc (Nat.le_refl _) _).alloc (by simp) _).alloc (by simp; omega) _).alloc (by simp; omega) _
  have HX := Lib.hid hBox
  have HXS := Lib.hid hBoxes
  have HBL := Lib.hid hBel
  clear hW0 hBox hBoxes hBel
  refine (callsIn_wide.2 CQ).mono ?_
  rintro e w2 ⟨rfl, hw2⟩
  rw [hw2]
  clear hw2
  gi_wp2
  refine wpIn_rangeFunc_ownS rfl (by decide) (gf := 60) (lb := #[.pointer (some ⟨w.heap.size + 1 + 1, 0, none⟩), .pointer (some ⟨w.heap.size + 1, 0, none⟩), .pointer (some ⟨w.heap.size + 1 + 2, 0, none⟩)]) rfl trivial (enters_of Tryd.func60 (by kernel_rfl) rfl)
    (encs := fun x : List UInt8 => #[Value.string (strOf x)]) (Kp := KeptS (w.heap.size + 1)) (Bs := w.heap.size + 1) (S := fun ys => ys = partsL s.data.toList) (N := 1500001) (w0 := W0)
    (fun l J W hW hJ hY h0 => split_in 5 (by decide) l (w.heap.size + 1) s.data.toList (by omega) J W hJ hY (HXS.out.on hW) h0) (by omega)
    keptS_t (keptS_b (by omega)) (Below.refl _ _) (fun _ => rfl)
    (CleanI w) (by rw [hsz0]; exact cleanI_own w)
    ⟨⟨_, HX.out, Strs.nil _ _⟩, HBL.out, by omega⟩
    (fun x => { tmps := #[.string s, undef, .string ⟨#[]⟩, .pointer (some ⟨w.heap.size, 0, none⟩), .string (strOf x), .string s, .bool true, .bool false, .string s, .func (.func 60) #[] #[.pointer (some ⟨w.heap.size + 1 + 1, 0, none⟩), .pointer (some ⟨w.heap.size + 1, 0, none⟩), .pointer (some ⟨w.heap.size + 1 + 2, 0, none⟩)], .string (strOf x), undef, undef, undef, undef, undef, undef, undef, undef, undef, undef, undef, undef, undef, undef, undef, undef, undef, undef], defers := [] }) ?assign ?body ?done
  case assign =>
    intro l x W K hK
    gi_wp2
    exact hK
  case body =>
    rintro l pre x W ⟨⟨v, hv, hS⟩, hB, hszW⟩ hlt
    have hc := hv.cell
    have hf := hv.frozen
    have hS' := hS
    have HF := Lib.hid (fold_snoc pre x)
    have hll := fold_len pre
    generalize pre.foldl stepC [] = left at hS hS' HF hll
    have hne : ∀ k, w.heap.size + 1 ≤ k → k ≤ w.heap.size + 1 + 2 → v.ownBlock ≠ some k := fun k h1 h2 e => by
      have := (World.ownsRow.lt hS k e).1; omega
    by_cases e1 : x = []
    · subst e1
      have he1 : (strOf []).toList.isEmpty = true := by rw [strOf_isEmpty]; rfl
      have HS := Lib.hid (step_empty left (p := []) (.inl rfl))
      generalize strOf [] = xs at he1
      gi_wp2
      exact ⟨KeepsFrom.refl _ _, fun _ _ _ => rfl, ⟨v, hv, by rw [HF.out, HS.out]; exact hS⟩, hB, hszW⟩
    have he1 : (strOf x).toList.isEmpty = false := by rw [strOf_isEmpty]; cases x; exact absurd rfl e1; rfl
    by_cases e2 : x = [46]
    · subst e2
      have he2 : ((strOf [46]).toList == [46]) = true := by rw [strOf_is]; rfl
      have HS := Lib.hid (step_empty left (p := [46]) (.inr rfl))
      generalize strOf [46] = xs at he1 he2
      gi_wp2
      exact ⟨KeepsFrom.refl _ _, fun _ _ _ => rfl, ⟨v, hv, by rw [HF.out, HS.out]; exact hS⟩, hB, hszW⟩
    have he2 : ((strOf x).toList == [46]) = false := by rw [strOf_is, beq_eq_false_iff_ne]; exact e2
    by_cases e3 : x = [46, 46]
    · subst e3
      have he3 : ((strOf [46, 46]).toList == [46, 46]) = true := by rw [strOf_is]; rfl
      have HS := Lib.hid (step_up left)
      generalize strOf [46, 46] = xs at he1 he2 he3
      rcases hS.form with ⟨rfl, rfl⟩ | ⟨g, cap, rfl, hgb, hgw, _, _, hcap, hm⟩
      · have hcut := slice_nil W 0 rfl
        gi_wp2
        refine ⟨(KeepsOthers.setCell _ _ _).from _, fun k h1 h2 => Below.heap_setCell _ _ _ _ (by simp; omega), ⟨_, hv.set _, ?_⟩, hB.setCell (p := ⟨w.heap.size, 0, none⟩) (Nat.le_refl _) _, ?_⟩
        · rw [HF.out, HS.out]; exact Strs.nil _ _
        · exact Nat.le_trans hszW (KeepsOthers.setCell _ _ _).size
      · unfold maxLen at hm
        have hcut := slice_to W g left.length cap (left.length - 1) (max 0 ((left.length : Int) - 1)) (by omega) (by omega)
        have hS2 : Strs (W.setCell ⟨w.heap.size, 0, none⟩ (.slice (some ⟨g, 0, none⟩) (left.length - 1) cap)) (w.heap.size + 4) (.slice (some ⟨g, 0, none⟩) (left.length - 1) cap) (left.take (left.length - 1)) :=
          (hS.cut (left.length - 1) (by omega)).own.kept (grownBy_setCell' W w.heap.size _) (.inr (by simp [Value.ownBlock]; omega))
        have HS2 := Lib.hid hS2
        clear hS2
        gi_wp2
        refine ⟨(KeepsOthers.setCell _ _ _).from _, fun k h1 h2 => Below.heap_setCell _ _ _ _ (by simp; omega), ⟨_, hv.set _, ?_⟩, hB.setCell (p := ⟨w.heap.size, 0, none⟩) (Nat.le_refl _) _, ?_⟩
        · rw [HF.out, HS.out]; exact HS2.out
        · exact Nat.le_trans hszW (KeepsOthers.setCell _ _ _).size
    have he3 : ((strOf x).toList == [46, 46]) = false := by rw [strOf_is, beq_eq_false_iff_ne]; exact e3
    have HS := Lib.hid (step_other left e1 e2 e3)
    have hrow0 : W.ownsRow w.heap.size 9 1 v left.length (left.map fun l => Value.string (strOf l)) := hS.base (by omega)
    generalize hxs : strOf x = xs at he1 he2 he3
    have HXE := Lib.hid hxs
    clear hxs e1 e2 e3
    gi_wp2_with (gi_at_builtin; refine wpListIn_append_own _ rfl _ _ 37 rfl (w.heap.size + 4) 9 i0 (.string ⟨#[]⟩) 1 16 Tryd.underlying37 hi hz0 hz1 hz2 rfl (by decide) _ _ _ rfl (hS.own.alloc _) ⟨W.heap.size, 0, none⟩ 1 1 [.string xs] rfl rfl (cell_one_new _ _ _) (by simp [Value.oneCell']) (by unfold maxLen; omega) (by omega) (by simp; omega) ?_; intro v' w1 hown' hgrow _; obtain ⟨g', cap', rfl⟩ := ownsRow_succ hown'; obtain ⟨hv1, hv2, hr2, hk2, hb2⟩ := hv.appended (by decide) hrow0 hB.size (Nat.le_refl _) (show w1.ownsRow w.heap.size 9 1 _ _ _ from Strs.base0 hown' (by omega)) hgrow; have hc1 := hv1.cell; have hf1 := hv1.frozen)
    refine ⟨hk2.from _, fun k h1 h2 => ?_, ⟨_, hv2, ?_⟩, hB.trans hb2, by have := hb2.size; omega⟩
    · rw [Below.heap_setCell _ _ _ _ (by simp; omega)]
      exact (hgrow.block k (by simp; omega) (fun e => hne k h1 h2 e.symm)).trans (Below.heap_alloc W _ k (by omega))
    · rw [HF.out, HS.out]
      refine Strs.snoc HXE.out.symm ?_
      exact hown'.kept (grownBy_setCell' w1 w.heap.size _) (.inr (hv1.not_row (by decide) hown').symm)
  case done =>
    rintro D ys W hD rfl ⟨⟨v, hv, hS⟩, hB, hszW⟩ hK
    have hc := hv.cell
    have CP := implPathOf W v _ hS.rd
    gi_wp2_with fail
    refine ⟨trivial, ?_⟩
    refine (callsIn_wide.2 CP).mono ?_
    rintro e w3 ⟨rfl, hb3⟩
    have hK3 : w3.heap[D]? = some (.deferred (some [])) := (hb3.block _ (Array.getElem?_eq_some_iff.1 hK).1).trans hK
    gi_wp2
    refine ⟨by simp, .inl ⟨_, _, rfl, run_takeDeferred hK3, ?_⟩⟩
    exact ⟨_, results_tmp rfl _ _ _, by rw [HV.out]; rfl, (hB.trans (hb3.mono hB.size)).trans (belowK_b (w := w) (Nat.le_refl _) w3 D _ _ (by omega) hK3 rfl rfl)⟩

theorem implClean (s : ByteArray) (w : World) (hs : s.size ≤ 1500000) :
    Calls Tryd.prog 15 #[.string s] w fun e w' => e = .returned (.string (strOf (cleanV s.data.toList))) ∧ Below w.heap.size w w' := by
  by_cases hh : s.data.toList.head? = some 47
  · exact callsIn_wide.1 (implClean_in s w hs hh)
  · have CH := Tryd.strings_HasPrefix s ⟨#[47]⟩ w
    rw [show (⟨#[47]⟩ : ByteArray).data.toList = [47] from rfl, head_text, decide_eq_false hh] at CH
    have HD := Lib.hid (clean_other hh)
    clear hh
    go_enter Tryd.func15, Tryd.ntmps15
    go_wp2_with (go_at_call 36; refine CH.mono ?_; rintro e w' ⟨rfl, hw⟩; rw [hw])
    go_ret
    exact ⟨ret_str (by rw [HD.out]; rfl), Below.refl _ _⟩
end Go.Proofs.YtcknohalbamjfaaDoor
