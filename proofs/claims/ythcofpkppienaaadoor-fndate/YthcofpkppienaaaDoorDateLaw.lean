/- Proved: laws.FnDate answers true at every code: the drawn time comes back from its date, the drawn date from its time where it is right, and impl.DateOk and impl.TimeOf tell what spec's tell; the argument reads as before. The listed table of the months' lengths is tied to the program's text; the card speaks of the pruned copy of the project that the seat holds. -/
import Derived.Test.YthcofpkppienaaaDoorBig
import Derived.Test.YthcofpkppienaaaDoorDrawDate
import Derived.Test.YthcofpkppienaaaDoorImplDays
namespace Go.Proofs.YthcofpkppienaaaDoor
open Go.RowKit

theorem timeV_ok {x : Dt} (h : x.Ok) : dateOkB x.y x.mo x.d x.h x.mi x.s = true ∧ timeV x.y x.mo x.d x.h x.mi x.s = x.time ∧ mdays x.y x.mo = mlen x.y x.mo := by
  have hm1 := h.m1; have hm2 := h.m2
  have e : (Dt.mk x.y (x.mo : Int).toNat x.d x.h x.mi x.s) = x := by rw [Int.toNat_natCast]
  have ok : dateOkB x.y x.mo x.d x.h x.mi x.s = true := (dateOk_iff _ _ _ _ _ _).2 ⟨by omega, by rw [e]; exact h⟩
  refine ⟨ok, ?_, mdays_in (by have := h.y1; omega) h.y2 (by omega) (by omega)⟩
  unfold timeV
  rw [ok, if_pos rfl, e]
/-- The date of a time that a right date has. -/
theorem implDateOf_back (y mo d h mi s : Int) (hok : dateOkB y mo d h mi s = true) (w : World) (hT : Tabs w) :
    Calls Tryd.prog 14 #[.int .i64 (timeV y mo d h mi s)] w fun e w' => e = .returned (.agg #[.int .i64 y, .int .i64 mo, .int .i64 d, .int .i64 h, .int .i64 mi, .int .i64 s]) ∧ Below w.heap.size w w' := by
  obtain ⟨⟨hm1, hm2⟩, ok⟩ := (dateOk_iff y mo d h mi s).1 hok
  have hv : timeV y mo d h mi s = (Dt.mk y mo.toNat d h mi s).time := by unfold timeV; rw [hok]; rfl
  rw [hv]
  have := implDateOf _ ok w hT
  simp only at this
  rw [show ((mo.toNat : Nat) : Int) = mo by omega] at this
  exact this


/-- What is asked of the drawn date (the second draw), in the worlds that the region may come to. -/
structure Asks (W : World) (y mo d hh mi s q : Int) (v : Bool) : Prop where
  st : ∀ n os, Calls Tryd.prog 17 #[.agg #[.int .i64 y, .int .i64 mo, .int .i64 d, .int .i64 hh, .int .i64 mi, .int .i64 s]] (Sort.grow (redrawn W n) os) fun e w'' => e = .returned (.int .i64 q) ∧ ∃ p : Regrown, w'' = Sort.grow (redrawn W p.d) p.os
  so : ∀ n os, Calls Tryd.prog 19 #[.agg #[.int .i64 y, .int .i64 mo, .int .i64 d, .int .i64 hh, .int .i64 mi, .int .i64 s]] (Sort.grow (redrawn W n) os) fun e w'' => e = .returned (.bool v) ∧ ∃ p : Regrown, w'' = Sort.grow (redrawn W p.d) p.os
  io : ∀ n os, Calls Tryd.prog 18 #[.agg #[.int .i64 y, .int .i64 mo, .int .i64 d, .int .i64 hh, .int .i64 mi, .int .i64 s]] (Sort.grow (redrawn W n) os) fun e w'' => e = .returned (.bool v) ∧ ∃ p : Regrown, w'' = Sort.grow (redrawn W p.d) p.os
  id : v = true → ∀ n os, Calls Tryd.prog 14 #[.int .i64 q] (Sort.grow (redrawn W n) os) fun e w'' => e = .returned (.agg #[.int .i64 y, .int .i64 mo, .int .i64 d, .int .i64 hh, .int .i64 mi, .int .i64 s]) ∧ ∃ p : Regrown, w'' = Sort.grow (redrawn W p.d) p.os
theorem asks (W : World) (y mo d hh mi s : Int) (hT : Tabs W) : Asks W y mo d hh mi s (timeV y mo d hh mi s) (dateOkB y mo d hh mi s) :=
  ⟨fun n os => Calls.regrown_of (specTimeOf y mo d hh mi s _), fun n os => Calls.regrown_of (specDateOk y mo d hh mi s _), fun n os => Calls.regrown_of (implDateOk y mo d hh mi s _ (hT.on (below_regrown W n os))),
   fun hv n os => Calls.regrown_of (implDateOf_back y mo d hh mi s hv _ (hT.on (below_regrown W n os)))⟩

set_option maxRecDepth 100000 in
set_option maxHeartbeats 4000000 in
theorem walkFnDate (a : Option Addr) (len cap : Nat) (zs : List Int) (w : World) (hr : IsRow .u8 w a len cap zs) (hT : Tabs w) :
    Calls Tryd.prog 3 #[.slice a len cap] w fun e w' => e = .returned (.bool true) ∧ Below w.heap.size w w' := by
  by_cases hl : len ≤ 1048576
  · have HT := Lib.hid hT
    clear hT
    go_enter Tryd.func3, Tryd.ntmps3
    go_wp2_with fail
    refine (bigF a len cap _ hl).mono ?_
    rintro e w' ⟨rfl, rfl⟩
    go_wp2_with fail
    refine (specDrawDateOf w _ a len cap zs hr (Below.refl _ _) hl).mono ?_
    rintro e W1 ⟨⟨t, ⟨ht0, ht1⟩, rfl⟩, hb1⟩
    have HB1 := Lib.hid hb1
    clear hb1
    by_cases hin : 0 ≤ t ∧ t ≤ 253402300799
    · obtain ⟨x, hx, hxt⟩ := dt_some t hin.1 hin.2
      obtain ⟨hi0, hi1⟩ := hin
      have CD := Lib.hid (show ∀ w, Tabs w → Calls Tryd.prog 14 #[.int .i64 t] w fun e w' => e = .returned (.agg #[.int .i64 x.y, .int .i64 x.mo, .int .i64 x.d, .int .i64 x.h, .int .i64 x.mi, .int .i64 x.s]) ∧ Below w.heap.size w w' from fun w hT => hxt ▸ implDateOf x hx w hT)
      have HX := Lib.hid hx
      have HXT := Lib.hid hxt
      have hx1 := hx.d1
      clear hx hxt
      go_wp2_with fail
      refine (CD.out _ (HT.out.on HB1.out)).mono ?_
      rintro e W2 ⟨rfl, hb2⟩
      have hB2 := (HB1.out.trans (hb2.mono HB1.out.size)).alloc (Nat.le_trans HB1.out.size hb2.size) (.cells #[.int .i64 x.y, .int .i64 x.mo, .int .i64 x.d, .int .i64 x.h, .int .i64 x.mi, .int .i64 x.s] 26)
      have hd2 := Six.new W2 x.y x.mo x.d x.h x.mi x.s
      have HB2 := Lib.hid hB2
      clear hb2 hB2 CD
      go_wp2_with fail
      refine (specDrawTimeOf w _ a len cap zs hr HB2.out hl).mono ?_
      rintro e W3 ⟨⟨y, mo, d, hh, mi, s, rfl⟩, hb3⟩
      have hB3 := (HB2.out.trans (hb3.mono HB2.out.size)).alloc (Nat.le_trans HB2.out.size hb3.size) (.cells #[.int .i64 y, .int .i64 mo, .int .i64 d, .int .i64 hh, .int .i64 mi, .int .i64 s] 26)
      have hd3 := (hd2.on hb3).alloc (.cells #[.int .i64 y, .int .i64 mo, .int .i64 d, .int .i64 hh, .int .i64 mi, .int .i64 s] 26)
      have he3 := Six.new W3 y mo d hh mi s
      have HB3 := Lib.hid hB3
      obtain ⟨gd, hgd⟩ : ∃ gd, W2.heap.size = gd := ⟨_, rfl⟩
      obtain ⟨ge, hge⟩ : ∃ ge, W3.heap.size = ge := ⟨_, rfl⟩
      have HGD := Lib.hid hgd
      have HGE := Lib.hid hge
      rw [hgd] at hd3
      rw [hge] at he3
      have HD3 := Lib.hid hd3
      have HE3 := Lib.hid he3
      clear hb3 hB3 hd2 hd3 he3 hgd hge hr
      go_wp2_with fail
      refine (implTimeOf _ _ _ _ _ _ _ (HT.out.on HB3.out)).mono ?_
      rintro e W ⟨rfl, hb4⟩
      rw [HGD.out, HGE.out]
      have hB4 := HB3.out.trans (hb4.mono HB3.out.size)
      have hTW := HT.out.on hB4
      have A := asks W y mo d hh mi s hTW
      obtain ⟨q, hq⟩ : ∃ q, timeV y mo d hh mi s = q := ⟨_, rfl⟩
      obtain ⟨v, hv⟩ : ∃ v, dateOkB y mo d hh mi s = v := ⟨_, rfl⟩
      rw [hq, hv] at A
      rw [hq]
      have hd4 := HD3.out.on hb4
      have he4 := HE3.out.on hb4
      have e0 : ∀ n os, (Sort.grow (redrawn W n) os).cell? ⟨ge, 0, none⟩ = some (.int .i64 y) := fun n os => cell_regrown (he4.cell 0).1 n os
      have e1 : ∀ n os, (Sort.grow (redrawn W n) os).cell? ⟨ge, 1, none⟩ = some (.int .i64 mo) := fun n os => cell_regrown (he4.cell 1).1 n os
      have e2 : ∀ n os, (Sort.grow (redrawn W n) os).cell? ⟨ge, 2, none⟩ = some (.int .i64 d) := fun n os => cell_regrown (he4.cell 2).1 n os
      have e3 : ∀ n os, (Sort.grow (redrawn W n) os).cell? ⟨ge, 3, none⟩ = some (.int .i64 hh) := fun n os => cell_regrown (he4.cell 3).1 n os
      have e4 : ∀ n os, (Sort.grow (redrawn W n) os).cell? ⟨ge, 4, none⟩ = some (.int .i64 mi) := fun n os => cell_regrown (he4.cell 4).1 n os
      have e5 : ∀ n os, (Sort.grow (redrawn W n) os).cell? ⟨ge, 5, none⟩ = some (.int .i64 s) := fun n os => cell_regrown (he4.cell 5).1 n os
      have HB4 := Lib.hid hB4
      have HD4 := Lib.hid hd4
      have HA := Lib.hid A
      have HTW := Lib.hid hTW
      clear hb4 hB4 hTW A hq hv hd4 he4 HD3 HE3 HB3
      cases v with
      | false =>
        go_wp2
        refine wp_region_quiet_below (by kernel_rfl) (by kernel_rfl) ?_
        repeat (go_big_quiet_step (first | exact HA.out.st _ _ | exact HA.out.so _ _ | exact HA.out.io _ _))
        refine wpQuiet_nil ?_
        intro w2 hw2
        obtain ⟨p, rfl⟩ := hw2
        have hd5 := HD4.out.on (below_regrown W p.d p.os)
        have hB5 := HB4.out.trans ((below_regrown W p.d p.os).mono HB4.out.size)
        have hT5 := HTW.out.on (below_regrown W p.d p.os)
        have HB5 := Lib.hid hB5
        generalize Sort.grow (redrawn W p.d) p.os = W5 at hd5 HB5 hT5 ⊢
        obtain ⟨o1, o2, o3⟩ := timeV_ok HX.out
        rw [HXT.out] at o2
        have c0 : ∀ n os, (Sort.grow (redrawn W5 n) os).cell? ⟨gd, 0, none⟩ = some (.int .i64 x.y) := fun n os => cell_regrown (hd5.cell 0).1 n os
        have c1 : ∀ n os, (Sort.grow (redrawn W5 n) os).cell? ⟨gd, 1, none⟩ = some (.int .i64 x.mo) := fun n os => cell_regrown (hd5.cell 1).1 n os
        have c2 : ∀ n os, (Sort.grow (redrawn W5 n) os).cell? ⟨gd, 2, none⟩ = some (.int .i64 x.d) := fun n os => cell_regrown (hd5.cell 2).1 n os
        have c3 : ∀ n os, (Sort.grow (redrawn W5 n) os).cell? ⟨gd, 3, none⟩ = some (.int .i64 x.h) := fun n os => cell_regrown (hd5.cell 3).1 n os
        have c4 : ∀ n os, (Sort.grow (redrawn W5 n) os).cell? ⟨gd, 4, none⟩ = some (.int .i64 x.mi) := fun n os => cell_regrown (hd5.cell 4).1 n os
        have c5 : ∀ n os, (Sort.grow (redrawn W5 n) os).cell? ⟨gd, 5, none⟩ = some (.int .i64 x.s) := fun n os => cell_regrown (hd5.cell 5).1 n os
        have K1 := Lib.hid (show ∀ n os, Calls Tryd.prog 18 #[.agg #[.int .i64 x.y, .int .i64 x.mo, .int .i64 x.d, .int .i64 x.h, .int .i64 x.mi, .int .i64 x.s]] (Sort.grow (redrawn W5 n) os) fun e w'' => e = .returned (.bool true) ∧ ∃ p : Regrown, w'' = Sort.grow (redrawn W5 p.d) p.os from fun n os => Calls.regrown_of (o1 ▸ implDateOk _ _ _ _ _ _ _ (hT5.on (below_regrown W5 n os))))
        have K2 := Lib.hid (show ∀ n os, Calls Tryd.prog 16 #[.agg #[.int .i64 x.y, .int .i64 x.mo, .int .i64 x.d, .int .i64 x.h, .int .i64 x.mi, .int .i64 x.s]] (Sort.grow (redrawn W5 n) os) fun e w'' => e = .returned (.int .i64 t) ∧ ∃ p : Regrown, w'' = Sort.grow (redrawn W5 p.d) p.os from fun n os => Calls.regrown_of (o2 ▸ implTimeOf _ _ _ _ _ _ _ (hT5.on (below_regrown W5 n os))))
        have K3 := Lib.hid (show ∀ n os, Calls Tryd.prog 20 #[.int .i64 x.y, .int .i64 x.mo] (Sort.grow (redrawn W5 n) os) fun e w'' => e = .returned (.int .i64 (mlen x.y x.mo)) ∧ ∃ p : Regrown, w'' = Sort.grow (redrawn W5 p.d) p.os from fun n os => Calls.regrown_of (o3 ▸ (implMonthDays _ _ _ (hT5.on (below_regrown W5 n os))).mono fun _ _ ⟨he, hw⟩ => ⟨he, hw ▸ Below.refl _ _⟩))
        have hle := HX.out.d2
        clear hd5 hB5 hT5 o1 o2 o3 HD4 HB4 HTW e0 e1 e2 e3 e4 e5
        go_wp2
        refine wp_region_quiet_below (by kernel_rfl) (by kernel_rfl) ?_
        repeat (go_big_quiet_step (first | exact K1.out _ _ | exact K2.out _ _ | exact K3.out _ _))
        refine wpQuiet_nil ?_
        intro w6 hw6
        obtain ⟨r, rfl⟩ := hw6
        go_wp2
        go_ret
        exact ⟨rfl, HB5.out.trans ((below_regrown W5 r.d r.os).mono HB5.out.size)⟩
      | true =>
        go_wp2
        refine wp_region_quiet_below (by kernel_rfl) (by kernel_rfl) ?_
        repeat (go_big_quiet_step (first | exact HA.out.st _ _ | exact HA.out.so _ _ | exact HA.out.io _ _ | exact HA.out.id rfl _ _))
        refine wpQuiet_nil ?_
        intro w2 hw2
        obtain ⟨p, rfl⟩ := hw2
        have hd5 := HD4.out.on (below_regrown W p.d p.os)
        have hB5 := HB4.out.trans ((below_regrown W p.d p.os).mono HB4.out.size)
        have hT5 := HTW.out.on (below_regrown W p.d p.os)
        have HB5 := Lib.hid hB5
        generalize Sort.grow (redrawn W p.d) p.os = W5 at hd5 HB5 hT5 ⊢
        obtain ⟨o1, o2, o3⟩ := timeV_ok HX.out
        rw [HXT.out] at o2
        have c0 : ∀ n os, (Sort.grow (redrawn W5 n) os).cell? ⟨gd, 0, none⟩ = some (.int .i64 x.y) := fun n os => cell_regrown (hd5.cell 0).1 n os
        have c1 : ∀ n os, (Sort.grow (redrawn W5 n) os).cell? ⟨gd, 1, none⟩ = some (.int .i64 x.mo) := fun n os => cell_regrown (hd5.cell 1).1 n os
        have c2 : ∀ n os, (Sort.grow (redrawn W5 n) os).cell? ⟨gd, 2, none⟩ = some (.int .i64 x.d) := fun n os => cell_regrown (hd5.cell 2).1 n os
        have c3 : ∀ n os, (Sort.grow (redrawn W5 n) os).cell? ⟨gd, 3, none⟩ = some (.int .i64 x.h) := fun n os => cell_regrown (hd5.cell 3).1 n os
        have c4 : ∀ n os, (Sort.grow (redrawn W5 n) os).cell? ⟨gd, 4, none⟩ = some (.int .i64 x.mi) := fun n os => cell_regrown (hd5.cell 4).1 n os
        have c5 : ∀ n os, (Sort.grow (redrawn W5 n) os).cell? ⟨gd, 5, none⟩ = some (.int .i64 x.s) := fun n os => cell_regrown (hd5.cell 5).1 n os
        have K1 := Lib.hid (show ∀ n os, Calls Tryd.prog 18 #[.agg #[.int .i64 x.y, .int .i64 x.mo, .int .i64 x.d, .int .i64 x.h, .int .i64 x.mi, .int .i64 x.s]] (Sort.grow (redrawn W5 n) os) fun e w'' => e = .returned (.bool true) ∧ ∃ p : Regrown, w'' = Sort.grow (redrawn W5 p.d) p.os from fun n os => Calls.regrown_of (o1 ▸ implDateOk _ _ _ _ _ _ _ (hT5.on (below_regrown W5 n os))))
        have K2 := Lib.hid (show ∀ n os, Calls Tryd.prog 16 #[.agg #[.int .i64 x.y, .int .i64 x.mo, .int .i64 x.d, .int .i64 x.h, .int .i64 x.mi, .int .i64 x.s]] (Sort.grow (redrawn W5 n) os) fun e w'' => e = .returned (.int .i64 t) ∧ ∃ p : Regrown, w'' = Sort.grow (redrawn W5 p.d) p.os from fun n os => Calls.regrown_of (o2 ▸ implTimeOf _ _ _ _ _ _ _ (hT5.on (below_regrown W5 n os))))
        have K3 := Lib.hid (show ∀ n os, Calls Tryd.prog 20 #[.int .i64 x.y, .int .i64 x.mo] (Sort.grow (redrawn W5 n) os) fun e w'' => e = .returned (.int .i64 (mlen x.y x.mo)) ∧ ∃ p : Regrown, w'' = Sort.grow (redrawn W5 p.d) p.os from fun n os => Calls.regrown_of (o3 ▸ (implMonthDays _ _ _ (hT5.on (below_regrown W5 n os))).mono fun _ _ ⟨he, hw⟩ => ⟨he, hw ▸ Below.refl _ _⟩))
        have hle := HX.out.d2
        clear hd5 hB5 hT5 o1 o2 o3 HD4 HB4 HTW e0 e1 e2 e3 e4 e5
        go_wp2
        refine wp_region_quiet_below (by kernel_rfl) (by kernel_rfl) ?_
        repeat (go_big_quiet_step (first | exact K1.out _ _ | exact K2.out _ _ | exact K3.out _ _))
        refine wpQuiet_nil ?_
        intro w6 hw6
        obtain ⟨r, rfl⟩ := hw6
        go_wp2
        go_ret
        exact ⟨rfl, HB5.out.trans ((below_regrown W5 r.d r.os).mono HB5.out.size)⟩
    · have hto : timeB t = false := inB_f hin
      have CD := Lib.hid (show ∀ w, Tabs w → Calls Tryd.prog 14 #[.int .i64 t] w fun e w' => e = .returned (.agg #[.int .i64 0, .int .i64 0, .int .i64 0, .int .i64 0, .int .i64 0, .int .i64 0]) ∧ Below w.heap.size w w' from fun w _ => implDateOf_out t w hto)
      have hte : t = -1 ∨ t = 253402300800 := by omega
      clear hto hin
      go_wp2_with fail
      refine (CD.out _ (HT.out.on HB1.out)).mono ?_
      rintro e W2 ⟨rfl, hb2⟩
      have hB2 := (HB1.out.trans (hb2.mono HB1.out.size)).alloc (Nat.le_trans HB1.out.size hb2.size) (.cells #[.int .i64 0, .int .i64 0, .int .i64 0, .int .i64 0, .int .i64 0, .int .i64 0] 26)
      have hd2 := Six.new W2 0 0 0 0 0 0
      have HB2 := Lib.hid hB2
      clear hb2 hB2 CD
      go_wp2_with fail
      refine (specDrawTimeOf w _ a len cap zs hr HB2.out hl).mono ?_
      rintro e W3 ⟨⟨y, mo, d, hh, mi, s, rfl⟩, hb3⟩
      have hB3 := (HB2.out.trans (hb3.mono HB2.out.size)).alloc (Nat.le_trans HB2.out.size hb3.size) (.cells #[.int .i64 y, .int .i64 mo, .int .i64 d, .int .i64 hh, .int .i64 mi, .int .i64 s] 26)
      have hd3 := (hd2.on hb3).alloc (.cells #[.int .i64 y, .int .i64 mo, .int .i64 d, .int .i64 hh, .int .i64 mi, .int .i64 s] 26)
      have he3 := Six.new W3 y mo d hh mi s
      have HB3 := Lib.hid hB3
      obtain ⟨gd, hgd⟩ : ∃ gd, W2.heap.size = gd := ⟨_, rfl⟩
      obtain ⟨ge, hge⟩ : ∃ ge, W3.heap.size = ge := ⟨_, rfl⟩
      have HGD := Lib.hid hgd
      have HGE := Lib.hid hge
      rw [hgd] at hd3
      rw [hge] at he3
      have HD3 := Lib.hid hd3
      have HE3 := Lib.hid he3
      clear hb3 hB3 hd2 hd3 he3 hgd hge hr
      go_wp2_with fail
      refine (implTimeOf _ _ _ _ _ _ _ (HT.out.on HB3.out)).mono ?_
      rintro e W ⟨rfl, hb4⟩
      rw [HGD.out, HGE.out]
      have hB4 := HB3.out.trans (hb4.mono HB3.out.size)
      have hTW := HT.out.on hB4
      have A := asks W y mo d hh mi s hTW
      obtain ⟨q, hq⟩ : ∃ q, timeV y mo d hh mi s = q := ⟨_, rfl⟩
      obtain ⟨v, hv⟩ : ∃ v, dateOkB y mo d hh mi s = v := ⟨_, rfl⟩
      rw [hq, hv] at A
      rw [hq]
      have hd4 := HD3.out.on hb4
      have he4 := HE3.out.on hb4
      have e0 : ∀ n os, (Sort.grow (redrawn W n) os).cell? ⟨ge, 0, none⟩ = some (.int .i64 y) := fun n os => cell_regrown (he4.cell 0).1 n os
      have e1 : ∀ n os, (Sort.grow (redrawn W n) os).cell? ⟨ge, 1, none⟩ = some (.int .i64 mo) := fun n os => cell_regrown (he4.cell 1).1 n os
      have e2 : ∀ n os, (Sort.grow (redrawn W n) os).cell? ⟨ge, 2, none⟩ = some (.int .i64 d) := fun n os => cell_regrown (he4.cell 2).1 n os
      have e3 : ∀ n os, (Sort.grow (redrawn W n) os).cell? ⟨ge, 3, none⟩ = some (.int .i64 hh) := fun n os => cell_regrown (he4.cell 3).1 n os
      have e4 : ∀ n os, (Sort.grow (redrawn W n) os).cell? ⟨ge, 4, none⟩ = some (.int .i64 mi) := fun n os => cell_regrown (he4.cell 4).1 n os
      have e5 : ∀ n os, (Sort.grow (redrawn W n) os).cell? ⟨ge, 5, none⟩ = some (.int .i64 s) := fun n os => cell_regrown (he4.cell 5).1 n os
      have HB4 := Lib.hid hB4
      have HD4 := Lib.hid hd4
      have HA := Lib.hid A
      have HTW := Lib.hid hTW
      clear hb4 hB4 hTW A hq hv hd4 he4 HD3 HE3 HB3
      cases v with
      | false =>
        go_wp2
        refine wp_region_quiet_below (by kernel_rfl) (by kernel_rfl) ?_
        repeat (go_big_quiet_step (first | exact HA.out.st _ _ | exact HA.out.so _ _ | exact HA.out.io _ _))
        refine wpQuiet_nil ?_
        intro w2 hw2
        obtain ⟨p, rfl⟩ := hw2
        have hd5 := HD4.out.on (below_regrown W p.d p.os)
        have hB5 := HB4.out.trans ((below_regrown W p.d p.os).mono HB4.out.size)
        have HB5 := Lib.hid hB5
        generalize Sort.grow (redrawn W p.d) p.os = W5 at hd5 HB5 ⊢
        have c0 := (hd5.cell 0).1
        have c1 := (hd5.cell 1).1
        have c2 := (hd5.cell 2).1
        have c3 := (hd5.cell 3).1
        have c4 := (hd5.cell 4).1
        have c5 := (hd5.cell 5).1
        simp at c0 c1 c2 c3 c4 c5
        clear hd5 hB5 HD4 HB4 HTW e0 e1 e2 e3 e4 e5
        rcases hte with rfl | rfl
        · go_wp2
          go_ret
          exact ⟨rfl, HB5.out⟩
        · go_wp2
          go_ret
          exact ⟨rfl, HB5.out⟩
      | true =>
        go_wp2
        refine wp_region_quiet_below (by kernel_rfl) (by kernel_rfl) ?_
        repeat (go_big_quiet_step (first | exact HA.out.st _ _ | exact HA.out.so _ _ | exact HA.out.io _ _ | exact HA.out.id rfl _ _))
        refine wpQuiet_nil ?_
        intro w2 hw2
        obtain ⟨p, rfl⟩ := hw2
        have hd5 := HD4.out.on (below_regrown W p.d p.os)
        have hB5 := HB4.out.trans ((below_regrown W p.d p.os).mono HB4.out.size)
        have HB5 := Lib.hid hB5
        generalize Sort.grow (redrawn W p.d) p.os = W5 at hd5 HB5 ⊢
        have c0 := (hd5.cell 0).1
        have c1 := (hd5.cell 1).1
        have c2 := (hd5.cell 2).1
        have c3 := (hd5.cell 3).1
        have c4 := (hd5.cell 4).1
        have c5 := (hd5.cell 5).1
        simp at c0 c1 c2 c3 c4 c5
        clear hd5 hB5 HD4 HB4 HTW e0 e1 e2 e3 e4 e5
        rcases hte with rfl | rfl
        · go_wp2
          go_ret
          exact ⟨rfl, HB5.out⟩
        · go_wp2
          go_ret
          exact ⟨rfl, HB5.out⟩
  · go_enter Tryd.func3, Tryd.ntmps3
    go_wp2_with (go_at_call 12; refine (bigT a len cap _ hl).mono ?_; rintro e w' ⟨rfl, rfl⟩)
    go_ret
    exact ⟨rfl, Below.refl _ _⟩
end Go.Proofs.YthcofpkppienaaaDoor
