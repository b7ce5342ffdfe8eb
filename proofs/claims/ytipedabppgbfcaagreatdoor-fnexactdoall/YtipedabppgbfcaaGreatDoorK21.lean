/- The contract of spec.l07New: OpMake and OpNew. Contracts of spec.Join and spec.Under. -/
import Derived.Test.YtipedabppgbfcaaGreatDoorK20
import Derived.Test.YtipedabppgbfcaaGreatDoorK18
import Derived.Test.YtipedabppgbfcaaGreatDoorK15
set_option linter.all false
namespace Go.Proofs.YtipedabppgbfcaaGreatDoor
open Go.RowKit

theorem new_there {t : Tv} {o : Ov} {i : Nat} (h : findV o.path t.ns = some i) : newV t o = (t, 3) := by unfold newV; rw [h]; rfl
theorem new_none {t : Tv} {o : Ov} (h : findV o.path t.ns = none) (hd : dirB t.ns (dirV o.path) = false) : newV t o = (t, 2) := by unfold newV; rw [h, hd]; rfl
theorem new_full {t : Tv} {o : Ov} (h : findV o.path t.ns = none) (hd : dirB t.ns (dirV o.path) = true) (hf : t.ns.length = 60 ∨ t.next = 1000000) : newV t o = (t, 5) := by
  unfold newV; rw [h, hd]
  simp only [Option.isSome_none, Bool.false_eq_true, if_false, if_true]
  rw [if_pos hf]
theorem new_ok {t : Tv} {o : Ov} (h : findV o.path t.ns = none) (hd : dirB t.ns (dirV o.path) = true) (hf : ¬ (t.ns.length = 60 ∨ t.next = 1000000)) : newV t o = (⟨putN (newNd t o) t.ns, t.next + 1⟩, 0) := by
  unfold newV; rw [h, hd]
  simp only [Option.isSome_none, Bool.false_eq_true, if_false, if_true]
  rw [if_neg hf]

set_option maxRecDepth 100000 in
set_option maxHeartbeats 8000000 in
theorem specNew (w : World) (v : Value) (t : Tv) (o : Ov) (h : NRd w v t.ns) (hk0 : ∀ n c, v = .slice none n c → c = 0) (hl : t.ns.length ≤ 1048576) (hp : o.path.length ≤ 2000000) (hz : ∀ n ∈ t.ns, n.path.length ≤ 2000000) (hx : 0 ≤ t.next ∧ t.next ≤ 1000000) :
    Calls Tryz.prog 97 #[.agg #[v, .int .i64 t.next], .agg #[.int .i64 o.kind, .string (strOf o.path), .string (strOf o.dest), .string (strOf o.data), .int .i64 o.mode, .int .i64 o.time]] w fun e w' => ∃ v', e = .returned (.tuple #[.agg #[v', .int .i64 (newV t o).1.next], .int .i64 (newV t o).2]) ∧ (∀ n c, v' = .slice none n c → c = 0) ∧ NRd w' v' (newV t o).1.ns ∧ Below w.heap.size w w' := by
  obtain ⟨ns, next⟩ := t
  obtain ⟨kind, path, dest, data, mode, time⟩ := o
  simp only at h hl hp hz hx ⊢
  have HK := Lib.hid hk0
  clear hk0
  obtain ⟨a1, k1, rfl⟩ : ∃ a c, v = .slice a ns.length c := by obtain ⟨a, c, h, _⟩ := h; exact ⟨a, c, h⟩
  obtain ⟨wa, hwa⟩ : ∃ wa, w.alloc (.cells #[.slice a1 ns.length k1, .int .i64 next] 26) = wa := ⟨_, rfl⟩
  obtain ⟨wb, hwb⟩ : ∃ wb, wa.alloc (.cells #[.int .i64 kind, .string (strOf path), .string (strOf dest), .string (strOf data), .int .i64 mode, .int .i64 time] 28) = wb := ⟨_, rfl⟩
  obtain ⟨wd, hwd⟩ : ∃ wd, wb.alloc (.cells #[.slice none 0 0, .int .i64 0] 26) = wd := ⟨_, rfl⟩
  have hsa : wa.heap.size = w.heap.size + 1 := by rw [← hwa]; simp
  have hsb : wb.heap.size = w.heap.size + 2 := by rw [← hwb]; simp [hsa]
  have hsd : wd.heap.size = w.heap.size + 3 := by rw [← hwd]; simp [hsb]
  have ba : Below w.heap.size w wa := by rw [← hwa]; exact (Below.refl _ _).alloc (Nat.le_refl _) _
  have bb : Below wa.heap.size wa wb := by rw [← hwb]; exact (Below.refl _ _).alloc (Nat.le_refl _) _
  have bd : Below wb.heap.size wb wd := by rw [← hwd]; exact (Below.refl _ _).alloc (Nat.le_refl _) _
  have TD := Lib.hid (show Blk wd w.heap.size #[.slice a1 ns.length k1, .int .i64 next] 26 from ((show Blk wa w.heap.size #[.slice a1 ns.length k1, .int .i64 next] 26 by rw [← hwa]; exact Blk.new _ _ _).on bb).on bd)
  have OD := Lib.hid (show Blk wd (w.heap.size + 1) #[.int .i64 kind, .string (strOf path), .string (strOf dest), .string (strOf data), .int .i64 mode, .int .i64 time] 28 from (show Blk wb (w.heap.size + 1) _ 28 by rw [← hwb, ← hsa]; exact Blk.new _ _ _).on bd)
  have RD := Lib.hid (show Blk wd (w.heap.size + 2) #[.slice none 0 0, .int .i64 0] 26 by rw [← hwd, ← hsb]; exact Blk.new _ _ _)
  have HWD := Lib.hid ((ba.trans (bb.mono (by omega))).trans (bd.mono (by omega)))
  have HN0 := Lib.hid h
  have HND := Lib.hid (h.on HWD.out)
  have CF := specFind wd _ ns next path HND.out
  have t0 := TD.out.cell 0
  have t1 := TD.out.cell 1
  have o1 := OD.out.cell 1
  simp at t0 t1 o1
  clear h ba bb bd
  go_enter Tryz.func97, Tryz.ntmps97
  go_wp2_with fail
  refine CF.mono ?_
  rintro e W1 ⟨rfl, hb1⟩
  have T1 := Lib.hid (TD.out.on hb1)
  have O1 := Lib.hid (OD.out.on hb1)
  have R1 := Lib.hid (RD.out.on hb1)
  have HW1 := Lib.hid (HWD.out.trans (hb1.mono HWD.out.size))
  have hs1 := hb1.size
  clear hb1 CF t0 t1 o1
  have t0 := T1.out.cell 0
  have t1 := T1.out.cell 1
  have r0 := R1.out.cell 0
  have r1 := R1.out.cell 1
  have q0 := R1.out.frozen 0
  have q1 := R1.out.frozen 1
  simp at t0 t1 r0 r1
  cases hf : findV path ns with
  | some i =>
    have hfi : findI path ns = i := by unfold findI; rw [hf]
    have hi0 : (0 : Int) ≤ (i : Int) := by omega
    have HV := Lib.hid (new_there (t := ⟨ns, next⟩) (o := ⟨kind, path, dest, data, mode, time⟩) hf)
    rw [hfi]
    clear hf hfi
    go_wp2
    refine bodyPost_ret (v := .tuple #[.agg #[.slice a1 ns.length k1, .int .i64 next], .int .i64 3]) ?_ rfl ⟨.slice a1 ns.length k1, by rw [HV.out], HK.out, ?_, ?_⟩
    · simp [results, Tryz.results97, go_sem, r0, r1]
    · rw [HV.out]
      refine HN0.out.on ?_
      iterate 2 (refine Below.setCell ?_ (by simp <;> omega) _)
      exact HW1.out
    · iterate 2 (refine Below.setCell ?_ (by simp <;> omega) _)
      exact HW1.out
  | none =>
    have hfi : findI path ns = -1 := by unfold findI; rw [hf]
    rw [hfi]
    have HF := Lib.hid hf
    clear hf hfi
    have s0 := fun q os => (T1.out.on (below_regrown W1 q os)).cell 0
    have s1 := fun q os => (T1.out.on (below_regrown W1 q os)).cell 1
    have s2 := fun q os => (O1.out.on (below_regrown W1 q os)).cell 1
    simp at s0 s1 s2
    have HN1 := Lib.hid (HN0.out.on HW1.out)
    have K1 := Lib.hid (show ∀ q os, Calls Tryz.prog 64 #[.string (strOf path)] (Sort.grow (redrawn W1 q) os) fun e w'' => e = .returned (.string (strOf (dirV path))) ∧ ∃ p : Regrown, w'' = Sort.grow (redrawn W1 p.d) p.os from fun q os => Calls.regrown_of (by
      have := specDirOf (strOf path) (Sort.grow (redrawn W1 q) os) (by rw [strOf_size]; unfold maxLen; omega)
      rw [strOf_data] at this; exact this))
    have K2 := Lib.hid (show ∀ q os, Calls Tryz.prog 63 #[.agg #[.slice a1 ns.length k1, .int .i64 next], .string (strOf (dirV path))] (Sort.grow (redrawn W1 q) os) fun e w'' => e = .returned (.bool (dirB ns (dirV path))) ∧ ∃ p : Regrown, w'' = Sort.grow (redrawn W1 p.d) p.os from fun q os => Calls.regrown_of (specDir _ _ ns next _ (HN1.out.on (below_regrown W1 q os))))
    have HD := Lib.hid (show dirB ns (dirV path) = dirB ns (dirV path) from rfl)
    obtain ⟨b, hb⟩ : ∃ b, dirB ns (dirV path) = b := ⟨_, rfl⟩
    rw [hb] at K2
    have HDB := Lib.hid hb
    clear hb HD
    go_wp2
    refine wp_region_quiet_below (by kernel_rfl) (by kernel_rfl) ?_
    repeat (go_big_quiet_step (first | exact K1.out _ _ | exact K2.out _ _))
    refine wpQuiet_nil ?_
    intro w6 hw6
    obtain ⟨r, rfl⟩ := hw6
    have hbr := below_regrown W1 r.d r.os
    have T2 := Lib.hid (T1.out.on hbr)
    have O2 := Lib.hid (O1.out.on hbr)
    have R2 := Lib.hid (R1.out.on hbr)
    have HW2 := Lib.hid (HW1.out.trans (hbr.mono HW1.out.size))
    have hs2 := hbr.size
    clear s0 s1 s2 K1 K2 t0 t1 r0 r1 q0 q1
    generalize Sort.grow (redrawn W1 r.d) r.os = W2 at hbr T2 O2 R2 HW2 hs2 ⊢
    clear hbr
    have t0 := T2.out.cell 0
    have t1 := T2.out.cell 1
    have r0 := R2.out.cell 0
    have r1 := R2.out.cell 1
    have q0 := R2.out.frozen 0
    have q1 := R2.out.frozen 1
    simp at t0 t1 r0 r1
    cases b with
    | false =>
      have HV := Lib.hid (new_none (t := ⟨ns, next⟩) (o := ⟨kind, path, dest, data, mode, time⟩) HF.out HDB.out)
      go_wp2
      refine bodyPost_ret (v := .tuple #[.agg #[.slice a1 ns.length k1, .int .i64 next], .int .i64 2]) ?_ rfl ⟨.slice a1 ns.length k1, by rw [HV.out], HK.out, ?_, ?_⟩
      · simp [results, Tryz.results97, go_sem, r0, r1]
      · rw [HV.out]
        refine HN0.out.on ?_
        iterate 2 (refine Below.setCell ?_ (by simp <;> omega) _)
        exact HW2.out
      · iterate 2 (refine Below.setCell ?_ (by simp <;> omega) _)
        exact HW2.out
    | true =>
      by_cases hfull : ns.length = 60 ∨ next = 1000000
      · have HV := Lib.hid (new_full (t := ⟨ns, next⟩) (o := ⟨kind, path, dest, data, mode, time⟩) HF.out HDB.out hfull)
        by_cases h60 : ns.length = 60
        · have h6 : ((ns.length : Int) == 60) = true := by simp; omega
          clear hfull h60
          go_wp2
          refine bodyPost_ret (v := .tuple #[.agg #[.slice a1 ns.length k1, .int .i64 next], .int .i64 5]) ?_ rfl ⟨.slice a1 ns.length k1, by rw [HV.out], HK.out, ?_, ?_⟩
          · simp [results, Tryz.results97, go_sem, r0, r1]
          · rw [HV.out]
            refine HN0.out.on ?_
            iterate 2 (refine Below.setCell ?_ (by simp <;> omega) _)
            exact HW2.out
          · iterate 2 (refine Below.setCell ?_ (by simp <;> omega) _)
            exact HW2.out
        · have h6 : ((ns.length : Int) == 60) = false := by simp; omega
          have h7 : (next == 1000000) = true := by simp; omega
          clear hfull h60
          go_wp2
          refine bodyPost_ret (v := .tuple #[.agg #[.slice a1 ns.length k1, .int .i64 next], .int .i64 5]) ?_ rfl ⟨.slice a1 ns.length k1, by rw [HV.out], HK.out, ?_, ?_⟩
          · simp [results, Tryz.results97, go_sem, r0, r1]
          · rw [HV.out]
            refine HN0.out.on ?_
            iterate 2 (refine Below.setCell ?_ (by simp <;> omega) _)
            exact HW2.out
          · iterate 2 (refine Below.setCell ?_ (by simp <;> omega) _)
            exact HW2.out
      · have HV := Lib.hid (new_ok (t := ⟨ns, next⟩) (o := ⟨kind, path, dest, data, mode, time⟩) HF.out HDB.out hfull)
        have h6 : ((ns.length : Int) == 60) = false := by simp; omega
        have h7 : (next == 1000000) = false := by simp; omega
        have o0 := O2.out.cell 0
        have o1 := O2.out.cell 1
        have o4 := O2.out.cell 4
        have o5 := O2.out.cell 5
        simp at o0 o1 o4 o5
        have CPU := specPut W2 _ ns next ⟨path, kind == 0, mode, time, next, []⟩ (HN0.out.on HW2.out) hl hp hz
        simp only [show strOf [] = (⟨#[]⟩ : ByteArray) from rfl] at CPU
        clear hfull
        go_wp2_with fail
        refine CPU.mono ?_
        rintro e W3 ⟨v3, rfl, hR3, hb3⟩
        obtain ⟨a3, k3, rfl⟩ := hR3.shape
        have HNC := Lib.hid hR3.nocap
        have hal := (Below.refl W3.heap.size W3).alloc (Nat.le_refl _) (.cells #[.slice a3 (putN ⟨path, kind == 0, mode, time, next, []⟩ ns).length k3, .int .i64 next] 26)
        obtain ⟨W4, hW4⟩ : ∃ W4, W3.alloc (.cells #[.slice a3 (putN ⟨path, kind == 0, mode, time, next, []⟩ ns).length k3, .int .i64 next] 26) = W4 := ⟨_, rfl⟩
        have BX := Lib.hid (show Blk W4 W3.heap.size #[.slice a3 (putN ⟨path, kind == 0, mode, time, next, []⟩ ns).length k3, .int .i64 next] 26 by rw [← hW4]; exact Blk.new _ _ _)
        rw [hW4] at hal
        have T4 := Lib.hid ((T2.out.on hb3).on hal)
        have R4 := Lib.hid ((R2.out.on hb3).on hal)
        have HR4 := Lib.hid (hR3.on hal)
        have HW4 := Lib.hid ((HW2.out.trans (hb3.mono HW2.out.size)).trans (hal.mono (Nat.le_trans HW2.out.size hb3.size)))
        have HGX := Lib.hid (World.ownsRow.lt hR3.own)
        have hs3 := hb3.size
        have u0 := T4.out.cell 0
        have u1 := T4.out.cell 1
        have x0 := BX.out.cell 0
        have x1 := BX.out.cell 1
        have y0 := BX.out.frozen 0
        have y1 := BX.out.frozen 1
        have z0 := R4.out.cell 0
        have z1 := R4.out.cell 1
        have p0 := R4.out.frozen 0
        have p1 := R4.out.frozen 1
        simp at u0 u1 x0 x1 z0 z1
        have hlt3 : w.heap.size + 2 < W3.heap.size := by omega
        clear hR3 hb3 hal o0 o1 o4 o5 t0 t1 r0 r1 q0 q1
        go_wp2
        refine bodyPost_ret (v := .tuple #[.agg #[.slice a3 (putN ⟨path, kind == 0, mode, time, next, []⟩ ns).length k3, .int .i64 (next + 1)], .int .i64 0]) ?_ rfl ⟨.slice a3 (putN ⟨path, kind == 0, mode, time, next, []⟩ ns).length k3, by rw [HV.out], HNC.out, ?_, ?_⟩
        · simp [results, Tryz.results97, go_sem, x0, x1, z0, z1]
        · rw [HV.out]
          have h1 := HR4.out.ne ⟨W3.heap.size, 1, none⟩ (.int .i64 (next + 1)) (fun e => by have := (HGX.out _ e).2; simp at this)
          have h2 := h1.ne ⟨w.heap.size + 2, 0, none⟩ (.slice a3 (putN ⟨path, kind == 0, mode, time, next, []⟩ ns).length k3) (fun e => by have := (HGX.out _ e).1; simp at this; omega)
          have h3 := h2.ne ⟨w.heap.size + 2, 1, none⟩ (.int .i64 (next + 1)) (fun e => by have := (HGX.out _ e).1; simp at this; omega)
          exact h3.rd
        · iterate 3 (refine Below.setCell ?_ (by simp <;> omega) _)
          exact HW4.out
end Go.Proofs.YtipedabppgbfcaaGreatDoor
namespace Go.Proofs.YtipedabppgbfcaaGreatDoor
open Go.RowKit

theorem strOf_self (s : ByteArray) : s = strOf s.data.toList := by cases s; simp [strOf]
theorem addB (a b : ByteArray) (h : a.size + b.size ≤ 9223372036854775807) (w : World) : (Op.stringOp .add a b).run Tryz.prog w = .ok (.string (strOf (a.data.toList ++ b.data.toList))) w := by
  have := run_add a.data.toList b.data.toList (by simpa using h) w
  rw [← strOf_self, ← strOf_self] at this
  exact this
theorem join_none {d : List UInt8} (n : List UInt8) (h : namesO d = none) : joinV d n = [] := by unfold joinV; rw [h]
theorem depth_noneP {d : List UInt8} (h : namesO d = none) : depthV d = -1 := by unfold depthV; rw [h]

theorem under_none_l {l d : List UInt8} (h : ¬ 0 < depthV l) : underV l d = false := by
  unfold underV
  cases hn : namesO l with
  | none => rfl
  | some ns =>
    unfold depthV at h; rw [hn] at h
    have : ns = [] := List.eq_nil_of_length_eq_zero (by have h2 : ¬ (0 : Int) < (ns.length : Int) := h; omega)
    subst this
    cases namesO d with
    | none => rfl
    | some ms => simp
theorem under_none_d {l d : List UInt8} (h : namesO d = none) : underV l d = false := by
  unfold underV
  rw [h]
  cases namesO l <;> rfl
theorem under_root {l : List UInt8} (h : 0 < depthV l) : underV l [47] = true := by
  unfold underV
  cases hn : namesO l with
  | none => unfold depthV at h; rw [hn] at h; simp at h
  | some ns =>
    unfold depthV at h; rw [hn] at h
    have h2 : (0 : Int) < (ns.length : Int) := h
    show (decide (([] : List (List UInt8)).length < ns.length) && (ns.take 0 == [])) = true
    simp; omega

set_option maxHeartbeats 2000000 in
theorem specUnder (s d : ByteArray) (w : World) (hs : s.size ≤ 2000000) (hd : d.size ≤ 2000000) :
    Calls Tryz.prog 141 #[.string s, .string d] w fun e w' => e = .returned (.bool (underV s.data.toList d.data.toList)) ∧ Below w.heap.size w w' := by
  have CP := specPathOk s w (by unfold maxLen; omega)
  have CD := Lib.hid (fun W => specDepthOf d W (by unfold maxLen; omega))
  have hsl : s.data.toList.length = s.size := by simp
  have hdl : d.data.toList.length = d.size := by simp
  by_cases hp : 0 < depthV s.data.toList
  rotate_left
  · rw [decide_eq_false hp] at CP
    have HU := Lib.hid (under_none_l (d := d.data.toList) hp)
    clear hp
    go_enter Tryz.func141, Tryz.ntmps141
    go_wp2_with (go_at_call 103; refine CP.mono ?_; rintro e w1 ⟨rfl, hb1⟩)
    go_ret
    exact ⟨ret_bool (by rw [HU.out]), hb1⟩
  rw [decide_eq_true hp] at CP
  rcases path_or d.data.toList with ⟨ms, hf, hms⟩ | hno
  rotate_left
  · rw [depth_noneP hno] at CD
    have HU := Lib.hid (under_none_d (l := s.data.toList) hno)
    clear hp hno
    go_enter Tryz.func141, Tryz.ntmps141
    go_wp2_with (first
      | (go_at_call 103; refine CP.mono ?_; rintro e w1 ⟨rfl, hb1⟩)
      | (go_at_call 143; refine (CD.out _).mono ?_; rintro e w2 ⟨rfl, hb2⟩))
    go_ret
    exact ⟨ret_bool (by rw [HU.out]), hb1.trans (hb2.mono hb1.size)⟩
  have hdep : depthV d.data.toList = ms.length := by rw [hms]; exact depthV_of hf
  rw [hdep] at CD
  cases hr : (d.data.toList == [47]) with
  | true =>
    have hr' : (d.toList == [47]) = true := by rw [lit_eq]; exact hr
    have HU := Lib.hid (under_root hp)
    have HR := Lib.hid (beq_iff_eq.1 hr)
    clear hp hms hr hdep
    go_enter Tryz.func141, Tryz.ntmps141
    go_wp2_with (first
      | (go_at_call 103; refine CP.mono ?_; rintro e w1 ⟨rfl, hb1⟩)
      | (go_at_call 143; refine (CD.out _).mono ?_; rintro e w2 ⟨rfl, hb2⟩))
    go_ret
    exact ⟨ret_bool (by rw [HR.out, HU.out]), hb1.trans (hb2.mono hb1.size)⟩
  | false =>
    have hr' : (d.toList == [47]) = false := by rw [lit_eq]; exact hr
    have hm0 : ms ≠ [] := fun e => by subst e; rw [hms] at hr; exact absurd hr (by decide)
    obtain ⟨av, n, hfs, hss⟩ := depth_pos hp
    have HU := Lib.hid (show underV s.data.toList d.data.toList = (decide (d.size + 1 < s.size) && decide (s.data.toList.take (d.size + 1) = d.data.toList ++ [47])) by
      rw [← hsl, ← hdl, hms, hss]; exact under_is hfs hf (by simp) hm0)
    have hadd := addB d ⟨#[47]⟩ (by have h1 : (⟨#[47]⟩ : ByteArray).size = 1 := rfl; omega)
    rw [show (⟨#[47]⟩ : ByteArray).data.toList = [47] from rfl] at hadd
    clear hp hms hr hdep hss
    by_cases hlt : d.size + 1 < s.size
    · have hlti : (d.size : Int) + 1 < (s.size : Int) := by omega
      have hcut := fun W => cutPre s (d.size + 1) (by omega) W ((d.size : Int) + 1) (by omega)
      have hex : s.extract 0 (d.size + 1) = strOf (s.data.toList.take (d.size + 1)) := by rw [extract_str]; simp
      rw [hex] at hcut
      generalize s.data.toList.take (d.size + 1) = p at hcut HU
      generalize d.data.toList ++ [47] = q at hadd HU
      have hcmp : ((strOf p).toList == (strOf q).toList) = decide (p = q) := by
        rw [Lib.toList_data, Lib.toList_data, strOf_data, strOf_data]
        by_cases e : p = q
        · subst e; simp
        · rw [decide_eq_false e, beq_eq_false_iff_ne]; exact e
      go_enter Tryz.func141, Tryz.ntmps141
      go_wp2_with (first
        | (go_at_call 103; refine CP.mono ?_; rintro e w1 ⟨rfl, hb1⟩)
        | (go_at_call 143; refine (CD.out _).mono ?_; rintro e w2 ⟨rfl, hb2⟩))
      go_ret
      exact ⟨ret_bool (by rw [HU.out, decide_eq_true hlt, Bool.true_and]), hb1.trans (hb2.mono hb1.size)⟩
    · have hlti : ¬ (d.size : Int) + 1 < (s.size : Int) := by omega
      go_enter Tryz.func141, Tryz.ntmps141
      go_wp2_with (first
        | (go_at_call 103; refine CP.mono ?_; rintro e w1 ⟨rfl, hb1⟩)
        | (go_at_call 143; refine (CD.out _).mono ?_; rintro e w2 ⟨rfl, hb2⟩))
      go_ret
      exact ⟨ret_bool (by rw [HU.out, decide_eq_false hlt, Bool.false_and]), hb1.trans (hb2.mono hb1.size)⟩
end Go.Proofs.YtipedabppgbfcaaGreatDoor
