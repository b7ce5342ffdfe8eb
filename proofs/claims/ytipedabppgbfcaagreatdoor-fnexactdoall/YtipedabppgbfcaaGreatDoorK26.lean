/- insert, makeFolder, makeFile over the tree that is worked on. newBase, makeFolder, makeFile over the tree that is worked on. -/
import Derived.Test.YtipedabppgbfcaaGreatDoorK25
import Derived.Test.YtipedabppgbfcaaGreatDoorK20
set_option linter.all false
namespace Go.Proofs.YtipedabppgbfcaaGreatDoor
open Go.RowKit
variable {R : World}

/-- A node more in a tree. -/
def insT (t : Tv) (n : Nd) : Tv × Int := if (findV n.path t.ns).isSome = true then (t, 3) else if dirB t.ns (dirV n.path) = true then (if t.ns.length = 60 ∨ t.next = 1000000 then (t, 5) else (⟨putN n t.ns, t.next + 1⟩, 0)) else (t, 2)
theorem new_ins (t : Tv) (o : Ov) : newV t o = insT t (newNd t o) := rfl
/-- What one of the tree's methods leaves. -/
def WkRes (R : World) (B p : Nat) (w : World) (r : Tv × Int) (e : Ending) (w' : World) : Prop := e = .returned (.int .i64 r.2) ∧ ∃ v' ps', Work R w' B p v' ps' r.1.next ∧ nds ps' = r.1.ns ∧ Below B w w'
theorem WkRes.mk {B p : Nat} {w : World} {r : Tv × Int} {c : Int} {t : Tv} {w' : World} {v' : Value} {ps' : List (Nat × Nd)} (hr : r = (t, c)) (hW : Work R w' B p v' ps' t.next) (hn : nds ps' = t.ns) (hb : Below B w w') : WkRes R B p w r (.returned (.int .i64 c)) w' := by
  subst hr; exact ⟨rfl, v', ps', hW, hn, hb⟩
theorem wk_off_row {W : World} {B b : Nat} {v : Value} {n : Nat} {xs : List Value} {nd : Nd} (h : WkAt W b nd) (hr : W.ownsRow B 149 1 v n xs) : ∀ g, v.ownBlock = some g → b ≠ g := fun g hv e => by
  subst e
  rcases hr.2 with ⟨h0, _⟩ | ⟨g, cap, cur, h0, _, hg, _⟩
  · rw [h0] at hv; cases hv
  · rw [h0] at hv
    have e2 : g = b := by simpa [Value.ownBlock] using hv
    subst e2
    have := h.blk.blk
    rw [hg] at this
    unfold wkType at this
    cases hd : nd.dir <;> rw [hd] at this <;> simp at this
theorem ins_perm {α : Type} (l : List α) (i : Nat) (x : α) : (l.take i ++ x :: l.drop i).Perm (x :: l) := by
  refine List.perm_middle.trans ?_
  rw [List.take_append_drop]
theorem nds_len (ps : List (Nat × Nd)) : (nds ps).length = ps.length := by simp [nds]

set_option maxRecDepth 100000 in
set_option maxHeartbeats 2000000 in
theorem wkInsertN (w : World) (B p : Nat) (v : Value) (ps : List (Nat × Nd)) (next : Int) (h : Work R w B p v ps next) (hR : Right (nds ps) next) (b : Nat) (nd : Nd) (hn : WkAt w b nd) (hb : B ≤ b) (hf : ∀ q ∈ ps, q.1 ≠ b) (hpos : 0 < depthV nd.path) :
    Calls Tryz.prog 150 #[.pointer (some ⟨p, 0, none⟩), wkVal (b, nd)] w fun e w' => WkRes R B p w (insT ⟨nds ps, next⟩ nd) e w' := by
  have hlen : ps.length ≤ 60 := by have := hR.len; rw [nds_len] at this; exact this
  have hnx := hR.hi
  have hnl := hR.lo
  have HW := Lib.hid h
  have HU := Lib.hid hR.up
  have HN := Lib.hid hn
  have CP := wkPlace w B p v ps next nd.path h hR.up hlen
  have CB := fun W => wkBase b W
  have HF := Lib.hid hf
  have hds := depth_short hpos
  have CD := Lib.hid (fun W => implDirOf (strOf nd.path) W (by rw [strOf_size]; omega))
  simp only [strOf_data] at CD
  have CHF := Lib.hid (fun W (hw : Work R W B p v ps next) => wkHasFolder W B p v ps next (dirV nd.path) hw HU.out hlen)
  have n1 := fun W => nil_folder "loop.example/g00704/impl.base" b W (.inl rfl)
  have n2 := fun W => nil_file "loop.example/g00704/impl.base" b W (.inl rfl)
  have m1 := fun W => base_folder b W
  have m2 := fun W => base_file b W
  have x0 := hn.cells.1
  have c0 := h.top.cell 0
  have c1 := h.top.cell 1
  simp at c0 c1
  have HT := Lib.hid (show insT ⟨nds ps, next⟩ nd = if (findV nd.path (nds ps)).isSome = true then (⟨nds ps, next⟩, 3) else if dirB (nds ps) (dirV nd.path) = true then (if (nds ps).length = 60 ∨ next = 1000000 then (⟨nds ps, next⟩, 5) else (⟨putN nd (nds ps), next + 1⟩, 0)) else (⟨nds ps, next⟩, 2) from rfl)
  have HPL := Lib.hid (show (findV nd.path (nds ps)).isSome = false → putN nd (nds ps) = nds (ps.take (placeV nd.path (nds ps)) ++ (b, nd) :: ps.drop (placeV nd.path (nds ps))) from fun hf => by
    rw [put_place HU.out (none_path (by cases hg : findV nd.path (nds ps) with | none => rfl | some k => rw [hg] at hf; cases hf))]
    simp [nds, List.map_take, List.map_drop])
  have hpl := place_le nd.path (nds ps)
  rw [nds_len] at hpl
  generalize placeV nd.path (nds ps) = i at CP HPL hpl
  generalize (findV nd.path (nds ps)).isSome = found at CP HT HPL
  generalize dirB (nds ps) (dirV nd.path) = dB at CHF HT
  obtain ⟨a, cap, rfl⟩ := h.shape
  have hcell : ∃ t, wkVal (b, nd) = .iface t (.pointer (some ⟨b, 0, none⟩)) ∧ (t = 140 ∨ t = 143) := by
    cases hd : nd.dir with
    | true => exact ⟨_, wkVal_dir hd, .inl rfl⟩
    | false => exact ⟨_, wkVal_file hd, .inr rfl⟩
  obtain ⟨t, ht, htt⟩ := hcell
  have HTV := Lib.hid ht
  rw [ht]
  clear h hR hn hf hpos ht
  rcases htt with rfl | rfl
  all_goals
    go_enter Tryz.func150, Tryz.ntmps150
    cases found with
    | true =>
      go_wp2_with (first
        | (go_at_call 254; refine (CB _).mono ?_; rintro e w' ⟨rfl, rfl⟩)
        | (go_at_call 153; refine CP.mono ?_; rintro e w' ⟨rfl, rfl⟩))
      go_ret
      exact WkRes.mk (by rw [HT.out]; rfl) HW.out rfl (Below.refl _ _)
    | false =>
      go_wp2_with (first
        | (go_at_call 254; refine (CB _).mono ?_; rintro e w' ⟨rfl, rfl⟩)
        | (go_at_call 153; refine CP.mono ?_; rintro e w' ⟨rfl, rfl⟩; clear CP))
      refine (CD.out _).mono ?_
      rintro e W1 ⟨rfl, hb1⟩
      have HW1 := Lib.hid (HW.out.on hb1)
      have CH := CHF.out W1 HW1.out
      have hBw := (HW.out.plt)
      have HB1 := Lib.hid (hb1.mono (by omega : B ≤ w.heap.size))
      have d0 := HW1.out.top.cell 0
      have d1 := HW1.out.top.cell 1
      simp at d0 d1
      have HN1 := Lib.hid (HN.out.on hb1)
      clear hb1 c0 c1 x0
      cases dB with
      | false =>
        go_wp2_with (go_at_call 155; refine CH.mono ?_; rintro e w' ⟨rfl, rfl⟩)
        go_ret
        exact WkRes.mk (by rw [HT.out]; rfl) HW1.out rfl HB1.out
      | true =>
        by_cases h60 : ps.length = 60
        · have hq : ((ps.length : Int) == 60) = true := by rw [h60]; rfl
          have HF60 := Lib.hid (show (nds ps).length = 60 ∨ next = 1000000 from .inl (by rw [nds_len]; exact h60))
          clear h60
          go_wp2_with (go_at_call 155; refine CH.mono ?_; rintro e w' ⟨rfl, rfl⟩)
          go_ret
          exact WkRes.mk (by rw [HT.out]; exact if_pos HF60.out) HW1.out rfl HB1.out
        have hq : ((ps.length : Int) == 60) = false := by simp; omega
        by_cases hid : next = 1000000
        · have hq2 : (next == 1000000) = true := by rw [hid]; rfl
          have HF60 := Lib.hid (show (nds ps).length = 60 ∨ next = 1000000 from .inr hid)
          clear hid
          go_wp2_with (go_at_call 155; refine CH.mono ?_; rintro e w' ⟨rfl, rfl⟩)
          go_ret
          exact WkRes.mk (by rw [HT.out]; exact if_pos HF60.out) HW1.out rfl HB1.out
        have hq2 : (next == 1000000) = false := by simpa using hid
        have HF60 := Lib.hid (show ¬ ((nds ps).length = 60 ∨ next = 1000000) by rw [nds_len]; omega)
        have CI := wkInsert (W1.alloc (.cells #[wkVal (b, nd)] 149)) B (.slice a ps.length cap) (ps.map wkVal) i W1.heap.size (wkVal (b, nd)) (by rw [List.length_map]; exact HW1.out.row.alloc _) (fun x hx => by obtain ⟨q, _, rfl⟩ := List.mem_map.1 hx; exact wkVal_one q) rfl (by rw [List.length_map]; exact hpl) (by rw [List.length_map]; exact hlen) (Blk.new _ _ _) (fun g hv => by have := (World.ownsRow.lt HW1.out.row g hv).2; omega) (by have := HW1.out.plt; simp; omega)
        rw [HTV.out, List.length_map, ← HTV.out] at CI
        rw [HTV.out] at CI
        clear h60 hid
        go_wp2_with (go_at_call 155; refine CH.mono ?_; rintro e w' ⟨rfl, rfl⟩)
        refine CI.mono ?_
        rintro e W3 ⟨v3, rfl, hr3, hg3⟩
        obtain ⟨a3, c3, rfl⟩ := own_slice hr3
        have hgW := grown_from ((Below.refl _ W1).alloc (Nat.le_refl _) _) hg3
        have hT3 := HW1.out.top.grown hgW (fun e => (HW1.out.rowBlk e.symm).1 rfl)
        have hK3 : WkAt W3 b nd := HN1.out.grown hgW (fun e => wk_off_row HN1.out HW1.out.row b e.symm rfl)
        have hfin := (HW1.out.anew hgW (v' := .slice a3 (ps.length + 1) c3) (ps' := ps.take i ++ (b, nd) :: ps.drop i) (by
          have e1 : (ps.take i ++ (b, nd) :: ps.drop i).length = ps.length + 1 := by simp; omega
          have e2 : (ps.take i ++ (b, nd) :: ps.drop i).map wkVal = (ps.map wkVal).take i ++ wkVal (b, nd) :: (ps.map wkVal).drop i := by
            simp [List.map_take, List.map_drop]
          rw [e1, e2, HTV.out]; exact hr3) (fun q hq => by
            rcases List.mem_append.1 hq with hq | hq
            · exact .inl (List.mem_of_mem_take hq)
            · rcases List.mem_cons.1 hq with rfl | hq
              · exact .inr ⟨hb, hK3⟩
              · exact .inl (List.mem_of_mem_drop hq)) (((ins_perm ps i (b, nd)).pairwise_iff (fun e => Ne.symm e)).2 (List.pairwise_cons.2 ⟨fun q hq => (HF.out q hq).symm, HW1.out.apart⟩))).renext (next + 1)
        have hbel : Below B w W3 := HB1.out.grown hgW (by have := HW1.out.plt; omega) (fun j e => (World.ownsRow.lt HW1.out.row j e).1)
        have HFI := Lib.hid hfin
        have HBE := Lib.hid ((hbel.setCell (p := ⟨p, 0, none⟩) hBw.1 (.slice a3 (ps.length + 1) c3)).setCell (p := ⟨p, 1, none⟩) hBw.1 (.int .i64 (next + 1)))
        have z0 := hT3.cell 0
        have z1 := hT3.cell 1
        have zf0 := hT3.frozen 0
        have zf1 := hT3.frozen 1
        simp at z0 z1
        clear hfin hbel hK3 hT3 hr3 hg3 hgW d0 d1 CI CH
        go_wp2
        go_ret
        exact WkRes.mk (by rw [HT.out]; exact if_neg HF60.out) HFI.out (HPL.out (by first | rfl | trivial)).symm HBE.out
end Go.Proofs.YtipedabppgbfcaaGreatDoor
namespace Go.Proofs.YtipedabppgbfcaaGreatDoor
open Go.RowKit
variable {R : World}

set_option maxRecDepth 100000 in
set_option maxHeartbeats 1000000 in
theorem wkNewBase (o : Ov) (p : Nat) (v : Value) (next : Int) (w : World) (h : Blk w p #[v, .int .i64 next] 137) : Calls Tryz.prog 151 #[.pointer (some ⟨p, 0, none⟩), .agg #[.int .i64 o.kind, .string (strOf o.path), .string (strOf o.dest), .string (strOf o.data), .int .i64 o.mode, .int .i64 o.time]] w fun e w' => e = .returned (.agg #[.string (strOf o.path), .int .i64 o.mode, .int .i64 o.time, .int .i64 next]) ∧ Below w.heap.size w w' := by
  obtain ⟨kind, path, dest, data, mode, time⟩ := o
  obtain ⟨wa, hwa⟩ : ∃ wa, w.alloc (.cells #[.int .i64 kind, .string (strOf path), .string (strOf dest), .string (strOf data), .int .i64 mode, .int .i64 time] 28) = wa := ⟨_, rfl⟩
  obtain ⟨wb, hwb⟩ : ∃ wb, wa.alloc (.cells #[.string ⟨#[]⟩, .int .i64 0, .int .i64 0, .int .i64 0] 139) = wb := ⟨_, rfl⟩
  have hsa : wa.heap.size = w.heap.size + 1 := by rw [← hwa]; simp
  have ba : Below w.heap.size w wa := by rw [← hwa]; exact (Below.refl _ _).alloc (Nat.le_refl _) _
  have bb : Below wa.heap.size wa wb := by rw [← hwb]; exact (Below.refl _ _).alloc (Nat.le_refl _) _
  have O0 := (show Blk wa w.heap.size #[.int .i64 kind, .string (strOf path), .string (strOf dest), .string (strOf data), .int .i64 mode, .int .i64 time] 28 by rw [← hwa]; exact Blk.new _ _ _).on bb
  have R0 := (show Blk wb (w.heap.size + 1) #[.string ⟨#[]⟩, .int .i64 0, .int .i64 0, .int .i64 0] 139 by rw [← hwb, ← hsa]; exact Blk.new _ _ _)
  have HB0 := Lib.hid (ba.trans (bb.mono (by omega)))
  have p1 := ((h.on ba).on bb).cell 1
  have o1 := O0.cell 1
  have o4 := O0.cell 4
  have o5 := O0.cell 5
  have r0 := R0.cell 0
  have r1 := R0.cell 1
  have r2 := R0.cell 2
  have r3 := R0.cell 3
  have f0 := fun j => R0.frozen j
  simp at p1 o1 o4 o5 r0 r1 r2 r3
  clear h ba bb O0 R0
  go_enter Tryz.func151, Tryz.ntmps151
  go_wp2_with fail
  go_still_tail 11, (by kernel_rfl)
  change wpList _ _ _ _ _ wb.drew
  go_wp2
  refine bodyPost_ret (v := .agg #[.string (strOf path), .int .i64 mode, .int .i64 time, .int .i64 next]) ?_ rfl ⟨rfl, ?_⟩
  · simp [results, Tryz.results151, go_sem, r0, r1, r2, r3]
  · refine Below.drew ?_
    iterate 4 (refine Below.setCell ?_ (by simp) _)
    exact HB0.out
theorem WkRes.from {B p : Nat} {w w1 : World} {r : Tv × Int} {e : Ending} {w' : World} (h : WkRes R B p w1 r e w') (hb : Below B w w1) : WkRes R B p w r e w' := by
  obtain ⟨he, v', ps', h1, h2, h3⟩ := h
  exact ⟨he, v', ps', h1, h2, hb.trans h3⟩

set_option maxRecDepth 100000 in
set_option maxHeartbeats 1000000 in
theorem wkMakeD (o : Ov) (w : World) (B p : Nat) (v : Value) (ps : List (Nat × Nd)) (next : Int) (h : Work R w B p v ps next) (hR : Right (nds ps) next) (hpos : 0 < depthV o.path) :
    Calls Tryz.prog 114 #[.pointer (some ⟨p, 0, none⟩), .agg #[.int .i64 o.kind, .string (strOf o.path), .string (strOf o.dest), .string (strOf o.data), .int .i64 o.mode, .int .i64 o.time]] w fun e w' => WkRes R B p w (insT ⟨nds ps, next⟩ ⟨o.path, true, o.mode, o.time, next, []⟩) e w' := by
  have CB := fun W (hb : Blk W p #[v, .int .i64 next] 137) => wkNewBase o p v next W hb
  have CI := Lib.hid (fun W b (hW : Work R W B p v ps next) hn hb hf => wkInsertN W B p v ps next hW hR b ⟨o.path, true, o.mode, o.time, next, []⟩ hn hb hf hpos)
  obtain ⟨kind, path, dest, data, mode, time⟩ := o
  simp only at CB CI hpos ⊢
  obtain ⟨wa, hwa⟩ : ∃ wa, w.alloc (.cells #[.int .i64 kind, .string (strOf path), .string (strOf dest), .string (strOf data), .int .i64 mode, .int .i64 time] 28) = wa := ⟨_, rfl⟩
  have hsa : wa.heap.size = w.heap.size + 1 := by rw [← hwa]; simp
  have ba : Below w.heap.size w wa := by rw [← hwa]; exact (Below.refl _ _).alloc (Nat.le_refl _) _
  have O0 := (show Blk wa w.heap.size #[.int .i64 kind, .string (strOf path), .string (strOf dest), .string (strOf data), .int .i64 mode, .int .i64 time] 28 by rw [← hwa]; exact Blk.new _ _ _)
  have HW := Lib.hid (h.on ba)
  have hlo := h.plt
  have CB2 := CB wa HW.out.top
  have HBA := Lib.hid (ba.mono (by omega : B ≤ w.heap.size))
  have o0 := O0.cell 0
  have o1 := O0.cell 1
  have o2 := O0.cell 2
  have o3 := O0.cell 3
  have o4 := O0.cell 4
  have o5 := O0.cell 5
  simp at o0 o1 o2 o3 o4 o5
  clear h hR hpos CB ba O0
  go_enter Tryz.func114, Tryz.ntmps114
  go_wp2_with (go_at_call 151; refine CB2.mono ?_; rintro e W1 ⟨rfl, hb1⟩; (have HW1 := Lib.hid (HW.out.on hb1)); (have HB1 := Lib.hid (HBA.out.trans (hb1.mono (by omega)))); (have hs1 := hb1.size); clear hb1 CB2)
  have hk := WkAt.newD W1 path mode time next
  have hbx : Below W1.heap.size W1 (W1.alloc (.cells #[.string (strOf path), .int .i64 mode, .int .i64 time, .int .i64 next] 142)) := (Below.refl _ _).alloc (Nat.le_refl _) _
  have CI2 := CI.out _ W1.heap.size (HW1.out.on hbx) hk (by omega) (fun q hq => by have := (HW1.out.node q hq).2.lt; omega)
  rw [wkVal_dir rfl] at CI2
  refine CI2.mono ?_
  rintro e W2 hres
  have HRES := Lib.hid (hres.from (HB1.out.trans (hbx.mono (by omega))))
  clear hres hk hbx CI2
  obtain ⟨rfl, hrest⟩ := HRES.out
  have HRT := Lib.hid hrest
  clear hrest HRES
  go_wp2
  go_ret
  exact ⟨rfl, HRT.out⟩
set_option maxRecDepth 100000 in
set_option maxHeartbeats 1000000 in
theorem wkMakeF (o : Ov) (w : World) (B p : Nat) (v : Value) (ps : List (Nat × Nd)) (next : Int) (h : Work R w B p v ps next) (hR : Right (nds ps) next) (hpos : 0 < depthV o.path) :
    Calls Tryz.prog 115 #[.pointer (some ⟨p, 0, none⟩), .agg #[.int .i64 o.kind, .string (strOf o.path), .string (strOf o.dest), .string (strOf o.data), .int .i64 o.mode, .int .i64 o.time]] w fun e w' => WkRes R B p w (insT ⟨nds ps, next⟩ ⟨o.path, false, o.mode, o.time, next, []⟩) e w' := by
  have CB := fun W (hb : Blk W p #[v, .int .i64 next] 137) => wkNewBase o p v next W hb
  have CI := Lib.hid (fun W b (hW : Work R W B p v ps next) hn hb hf => wkInsertN W B p v ps next hW hR b ⟨o.path, false, o.mode, o.time, next, []⟩ hn hb hf hpos)
  obtain ⟨kind, path, dest, data, mode, time⟩ := o
  simp only at CB CI hpos ⊢
  obtain ⟨wa, hwa⟩ : ∃ wa, w.alloc (.cells #[.int .i64 kind, .string (strOf path), .string (strOf dest), .string (strOf data), .int .i64 mode, .int .i64 time] 28) = wa := ⟨_, rfl⟩
  have hsa : wa.heap.size = w.heap.size + 1 := by rw [← hwa]; simp
  have ba : Below w.heap.size w wa := by rw [← hwa]; exact (Below.refl _ _).alloc (Nat.le_refl _) _
  have O0 := (show Blk wa w.heap.size #[.int .i64 kind, .string (strOf path), .string (strOf dest), .string (strOf data), .int .i64 mode, .int .i64 time] 28 by rw [← hwa]; exact Blk.new _ _ _)
  have HW := Lib.hid (h.on ba)
  have hlo := h.plt
  have CB2 := CB wa HW.out.top
  have HBA := Lib.hid (ba.mono (by omega : B ≤ w.heap.size))
  have o0 := O0.cell 0
  have o1 := O0.cell 1
  have o2 := O0.cell 2
  have o3 := O0.cell 3
  have o4 := O0.cell 4
  have o5 := O0.cell 5
  simp at o0 o1 o2 o3 o4 o5
  clear h hR hpos CB ba O0
  go_enter Tryz.func115, Tryz.ntmps115
  go_wp2_with (go_at_call 151; refine CB2.mono ?_; rintro e W1 ⟨rfl, hb1⟩; (have HW1 := Lib.hid (HW.out.on hb1)); (have HB1 := Lib.hid (HBA.out.trans (hb1.mono (by omega)))); (have hs1 := hb1.size); clear hb1 CB2)
  have hk := WkAt.newF W1 path [] mode time next
  have hbx : Below W1.heap.size W1 (W1.alloc (.cells #[.string (strOf path), .int .i64 mode, .int .i64 time, .int .i64 next, .string ⟨#[]⟩] 145)) := (Below.refl _ _).alloc (Nat.le_refl _) _
  have CI2 := CI.out _ W1.heap.size (HW1.out.on hbx) hk (by omega) (fun q hq => by have := (HW1.out.node q hq).2.lt; omega)
  rw [wkVal_file rfl] at CI2
  refine CI2.mono ?_
  rintro e W2 hres
  have HRES := Lib.hid (hres.from (HB1.out.trans (hbx.mono (by omega))))
  clear hres hk hbx CI2
  obtain ⟨rfl, hrest⟩ := HRES.out
  have HRT := Lib.hid hrest
  clear hrest HRES
  go_wp2
  go_ret
  exact ⟨rfl, HRT.out⟩
end Go.Proofs.YtipedabppgbfcaaGreatDoor
