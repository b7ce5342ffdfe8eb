/- The contract of impl.AgeText. -/
import Derived.Test.YtbikcldkaogfmaaDoorAgeText
namespace Go.Proofs.YtbikcldkaogfmaaDoor
open Go.RowKit

set_option maxRecDepth 100000 in
set_option maxHeartbeats 8000000 in
theorem implAgeText (n : Int) (w : World) (hT : TabsB w) :
    Calls Tryd.prog 16 #[.int .i64 n] w fun e w' => e = .returned (.string (strOf (ageTextV n))) ∧ Below w.heap.size w w' := by
  have CI := Lib.hid implIsTimeA
  by_cases h : 0 ≤ n ∧ n ≤ 253402300799
  rotate_left
  · have hf : inB n 0 253402300799 = false := inB_f h
    rw [show ageTextV n = [] from if_pos hf]
    clear h
    go_enter Tryd.func16, Tryd.ntmps16
    go_wp2_with (go_at_call 40; refine (CI.out _ _).mono ?_; rintro e w' ⟨rfl, rfl⟩)
    go_ret
    exact ⟨rfl, Below.refl _ _⟩
  have ht : inB n 0 253402300799 = true := inB_t h.1 h.2
  obtain ⟨h0, h1⟩ := h
  by_cases hz : n = 0
  · subst hz
    rw [show ageTextV 0 = [48, 115] by unfold ageTextV; rw [ht]; rfl]
    go_enter Tryd.func16, Tryd.ntmps16
    go_wp2_with (go_at_call 40; refine (CI.out _ _).mono ?_; rintro e w' ⟨rfl, rfl⟩)
    go_ret
    exact ⟨rfl, Below.refl _ _⟩
  obtain ⟨T, hT2⟩ : ∃ T, ageT unitsL n = T := ⟨_, rfl⟩
  rw [show ageTextV n = T by unfold ageTextV; rw [ht, if_neg hz, hT2]; rfl]
  have HT2 := Lib.hid hT2
  have hz' : (n == 0) = false := by simpa using hz
  have c0 : w.cell? ⟨0, 0, none⟩ = some (.string ⟨#[119]⟩) := hT.u.cell 0
  have c1 : w.cell? ⟨0, 1, none⟩ = some (.int .i64 604800) := hT.u.cell 1
  have c2 : w.cell? ⟨0, 2, none⟩ = some (.string ⟨#[100]⟩) := hT.u.cell 2
  have c3 : w.cell? ⟨0, 3, none⟩ = some (.int .i64 86400) := hT.u.cell 3
  have c4 : w.cell? ⟨0, 4, none⟩ = some (.string ⟨#[104]⟩) := hT.u.cell 4
  have c5 : w.cell? ⟨0, 5, none⟩ = some (.int .i64 3600) := hT.u.cell 5
  have c6 : w.cell? ⟨0, 6, none⟩ = some (.string ⟨#[109]⟩) := hT.u.cell 6
  have c7 : w.cell? ⟨0, 7, none⟩ = some (.int .i64 60) := hT.u.cell 7
  have c8 : w.cell? ⟨0, 8, none⟩ = some (.string ⟨#[115]⟩) := hT.u.cell 8
  have c9 : w.cell? ⟨0, 9, none⟩ = some (.int .i64 1) := hT.u.cell 9
  have HTa := Lib.hid (fun W (h : Below w.heap.size w W) => hT.s.on h)
  clear hT2 hz hT
  go_enter Tryd.func16, Tryd.ntmps16
  go_wp2_with (go_at_call 40; refine (CI.out _ _).mono ?_; rintro e w' ⟨rfl, rfl⟩)
  clear c0 c1 c2 c3 c4 c5 c6 c7 c8 c9
  go_loopw [0, 3, 5, 6, 13] (fun nv ov _ _ iv wr => ∃ (m : Int) (o : List UInt8) (k : Nat), nv = .int .i64 m ∧ ov = .string (strOf o) ∧ iv = .int .i64 k ∧ k ≤ 5 ∧ 0 ≤ m ∧ m ≤ 253402300799 ∧ o.length ≤ 200 * k ∧ Hid (o ++ ageT (unitsL.drop k) m = T) ∧ Below w.heap.size w wr) (fun _ _ _ _ iv _ => 5 - (intOf iv).toNat)
  case atStart => exact ⟨n, [], 0, rfl, rfl, rfl, by omega, h0, h1, by simp, Lib.hid (by rw [List.nil_append, List.drop_zero]; exact HT2.out), Below.refl _ _⟩
  case round =>
    clear hz' ht h0 h1
    obtain ⟨m, o, k, rfl, rfl, rfl, hk, hm0, hm1, ho, HA, hb⟩ := hrel
    have hbs := hb.size
    rcases (by omega : k = 0 ∨ k = 1 ∨ k = 2 ∨ k = 3 ∨ k = 4 ∨ k = 5) with rfl | rfl | rfl | rfl | rfl | rfl
    rotate_right
    · go_wp2
      go_ret
      exact ⟨ret_str (by rw [← HA.out]; simp [unitsL, ageT]), hb⟩
    · have hat := unit_at0
      obtain ⟨W, hW⟩ : ∃ W, W = wr.alloc (.cells #[.string ⟨#[119]⟩, .int .i64 604800] 71) := ⟨_, rfl⟩
      have hc : ∀ j, W.cell? ⟨wr.heap.size, j, none⟩ = (#[.string ⟨#[119]⟩, .int .i64 604800] : Array Value)[j]? := fun j => by rw [hW]; exact World.cell?_alloc_at _ _ _ j rfl
      have hB : Below w.heap.size w W := by rw [hW]; exact hb.alloc hbs _
      have HB := Lib.hid hB
      have HW := Lib.hid hW
      by_cases hu : 604800 ≤ m
      · have HH := Lib.hid (ageT_hit (show unitsL.drop 0 = (119, 604800) :: unitsL.drop 1 from rfl) hu o)
        have hlen := itoa_short (m / 604800) (by omega) (by omega)
        have CD := Lib.hid (show ∀ n' os, Calls Tryd.prog 46 #[.int .i64 (m / 604800)] (Sort.grow (redrawn W n') os) fun e w'' => e = .returned (.string (strOf (Lib.itoa (m / 604800)))) ∧ ∃ p : Regrown, w'' = Sort.grow (redrawn W p.d) p.os from
          fun n' os => Calls.regrown_of (implDecText (m / 604800) _ (by omega) (by omega) (HTa.out _ (hB.trans ((below_regrown W n' os).mono hB.size)))))
        have ha1 : ∀ W : World, (Op.stringOp .add (strOf (Lib.itoa (m / 604800))) ⟨#[119]⟩).run Tryd.prog W = .ok (.string (strOf (Lib.itoa (m / 604800) ++ [119]))) W := fun W => run_add _ [119] (by simp; omega) W
        have ha2 := run_add o (Lib.itoa (m / 604800) ++ [119]) (by simp; omega)
        have hlen2 : (o ++ (Lib.itoa (m / 604800) ++ [119])).length ≤ 200 * 1 := by simp; omega
        have hq : 0 < m / 604800 := by omega
        have HQ := Lib.hid hq
        rw [List.append_assoc o] at HH
        clear hlen hq
        generalize Lib.itoa (m / 604800) = q at HH CD ha1 ha2 hlen2
        have cc0 : ∀ n os, (Sort.grow (redrawn W n) os).cell? ⟨wr.heap.size, 0, none⟩ = some (.string ⟨#[119]⟩) := fun n os => cell_regrown (hc 0) n os
        have cc1 : ∀ n os, (Sort.grow (redrawn W n) os).cell? ⟨wr.heap.size, 1, none⟩ = some (.int .i64 604800) := fun n os => cell_regrown (hc 1) n os
        clear hc hW hB
        go_wp2
        rw [← HW.out]
        refine wp_region_quiet_below (by kernel_rfl) (by kernel_rfl) ?_
        repeat (quiet_step (first | exact CD.out _ _))
        refine wpQuiet_nil ?_
        intro w2 hw2
        obtain ⟨p, rfl⟩ := hw2
        have cc1' := cc1 p.d p.os
        clear cc0 cc1
        have HBp := Lib.hid (HB.out.trans ((below_regrown W p.d p.os).mono HB.out.size))
        go_wp2
        go_roundw
        case rel => exact ⟨m % 604800, o ++ (q ++ [119]), 1, by go_num, rfl, rfl, by omega, by omega, by omega, hlen2, Lib.hid (by rw [← HA.out, HH.out]), HBp.out⟩
        case measure => simp [intOf]
      · have HH := Lib.hid (ageT_miss (show unitsL.drop 0 = (119, 604800) :: unitsL.drop 1 from rfl) hu hm0 o)
        have hq : m / 604800 ≤ 0 := by omega
        clear hc
        go_wp2
        go_roundw
        case rel => exact ⟨m, o, 1, by congr 1; omega, rfl, rfl, by omega, hm0, hm1, by omega, Lib.hid (by rw [← HA.out, HH.out]), hb.alloc hbs _⟩
        case measure => simp [intOf]
    · have hat := unit_at1
      obtain ⟨W, hW⟩ : ∃ W, W = wr.alloc (.cells #[.string ⟨#[100]⟩, .int .i64 86400] 71) := ⟨_, rfl⟩
      have hc : ∀ j, W.cell? ⟨wr.heap.size, j, none⟩ = (#[.string ⟨#[100]⟩, .int .i64 86400] : Array Value)[j]? := fun j => by rw [hW]; exact World.cell?_alloc_at _ _ _ j rfl
      have hB : Below w.heap.size w W := by rw [hW]; exact hb.alloc hbs _
      have HB := Lib.hid hB
      have HW := Lib.hid hW
      by_cases hu : 86400 ≤ m
      · have HH := Lib.hid (ageT_hit (show unitsL.drop 1 = (100, 86400) :: unitsL.drop 2 from rfl) hu o)
        have hlen := itoa_short (m / 86400) (by omega) (by omega)
        have CD := Lib.hid (show ∀ n' os, Calls Tryd.prog 46 #[.int .i64 (m / 86400)] (Sort.grow (redrawn W n') os) fun e w'' => e = .returned (.string (strOf (Lib.itoa (m / 86400)))) ∧ ∃ p : Regrown, w'' = Sort.grow (redrawn W p.d) p.os from
          fun n' os => Calls.regrown_of (implDecText (m / 86400) _ (by omega) (by omega) (HTa.out _ (hB.trans ((below_regrown W n' os).mono hB.size)))))
        have ha1 : ∀ W : World, (Op.stringOp .add (strOf (Lib.itoa (m / 86400))) ⟨#[100]⟩).run Tryd.prog W = .ok (.string (strOf (Lib.itoa (m / 86400) ++ [100]))) W := fun W => run_add _ [100] (by simp; omega) W
        have ha2 := run_add o (Lib.itoa (m / 86400) ++ [100]) (by simp; omega)
        have hlen2 : (o ++ (Lib.itoa (m / 86400) ++ [100])).length ≤ 200 * 2 := by simp; omega
        have hq : 0 < m / 86400 := by omega
        have HQ := Lib.hid hq
        rw [List.append_assoc o] at HH
        clear hlen hq
        generalize Lib.itoa (m / 86400) = q at HH CD ha1 ha2 hlen2
        have cc0 : ∀ n os, (Sort.grow (redrawn W n) os).cell? ⟨wr.heap.size, 0, none⟩ = some (.string ⟨#[100]⟩) := fun n os => cell_regrown (hc 0) n os
        have cc1 : ∀ n os, (Sort.grow (redrawn W n) os).cell? ⟨wr.heap.size, 1, none⟩ = some (.int .i64 86400) := fun n os => cell_regrown (hc 1) n os
        clear hc hW hB
        go_wp2
        rw [← HW.out]
        refine wp_region_quiet_below (by kernel_rfl) (by kernel_rfl) ?_
        repeat (quiet_step (first | exact CD.out _ _))
        refine wpQuiet_nil ?_
        intro w2 hw2
        obtain ⟨p, rfl⟩ := hw2
        have cc1' := cc1 p.d p.os
        clear cc0 cc1
        have HBp := Lib.hid (HB.out.trans ((below_regrown W p.d p.os).mono HB.out.size))
        go_wp2
        go_roundw
        case rel => exact ⟨m % 86400, o ++ (q ++ [100]), 2, by go_num, rfl, rfl, by omega, by omega, by omega, hlen2, Lib.hid (by rw [← HA.out, HH.out]), HBp.out⟩
        case measure => simp [intOf]
      · have HH := Lib.hid (ageT_miss (show unitsL.drop 1 = (100, 86400) :: unitsL.drop 2 from rfl) hu hm0 o)
        have hq : m / 86400 ≤ 0 := by omega
        clear hc
        go_wp2
        go_roundw
        case rel => exact ⟨m, o, 2, by congr 1; omega, rfl, rfl, by omega, hm0, hm1, by omega, Lib.hid (by rw [← HA.out, HH.out]), hb.alloc hbs _⟩
        case measure => simp [intOf]
    · have hat := unit_at2
      obtain ⟨W, hW⟩ : ∃ W, W = wr.alloc (.cells #[.string ⟨#[104]⟩, .int .i64 3600] 71) := ⟨_, rfl⟩
      have hc : ∀ j, W.cell? ⟨wr.heap.size, j, none⟩ = (#[.string ⟨#[104]⟩, .int .i64 3600] : Array Value)[j]? := fun j => by rw [hW]; exact World.cell?_alloc_at _ _ _ j rfl
      have hB : Below w.heap.size w W := by rw [hW]; exact hb.alloc hbs _
      have HB := Lib.hid hB
      have HW := Lib.hid hW
      by_cases hu : 3600 ≤ m
      · have HH := Lib.hid (ageT_hit (show unitsL.drop 2 = (104, 3600) :: unitsL.drop 3 from rfl) hu o)
        have hlen := itoa_short (m / 3600) (by omega) (by omega)
        have CD := Lib.hid (show ∀ n' os, Calls Tryd.prog 46 #[.int .i64 (m / 3600)] (Sort.grow (redrawn W n') os) fun e w'' => e = .returned (.string (strOf (Lib.itoa (m / 3600)))) ∧ ∃ p : Regrown, w'' = Sort.grow (redrawn W p.d) p.os from
          fun n' os => Calls.regrown_of (implDecText (m / 3600) _ (by omega) (by omega) (HTa.out _ (hB.trans ((below_regrown W n' os).mono hB.size)))))
        have ha1 : ∀ W : World, (Op.stringOp .add (strOf (Lib.itoa (m / 3600))) ⟨#[104]⟩).run Tryd.prog W = .ok (.string (strOf (Lib.itoa (m / 3600) ++ [104]))) W := fun W => run_add _ [104] (by simp; omega) W
        have ha2 := run_add o (Lib.itoa (m / 3600) ++ [104]) (by simp; omega)
        have hlen2 : (o ++ (Lib.itoa (m / 3600) ++ [104])).length ≤ 200 * 3 := by simp; omega
        have hq : 0 < m / 3600 := by omega
        have HQ := Lib.hid hq
        rw [List.append_assoc o] at HH
        clear hlen hq
        generalize Lib.itoa (m / 3600) = q at HH CD ha1 ha2 hlen2
        have cc0 : ∀ n os, (Sort.grow (redrawn W n) os).cell? ⟨wr.heap.size, 0, none⟩ = some (.string ⟨#[104]⟩) := fun n os => cell_regrown (hc 0) n os
        have cc1 : ∀ n os, (Sort.grow (redrawn W n) os).cell? ⟨wr.heap.size, 1, none⟩ = some (.int .i64 3600) := fun n os => cell_regrown (hc 1) n os
        clear hc hW hB
        go_wp2
        rw [← HW.out]
        refine wp_region_quiet_below (by kernel_rfl) (by kernel_rfl) ?_
        repeat (quiet_step (first | exact CD.out _ _))
        refine wpQuiet_nil ?_
        intro w2 hw2
        obtain ⟨p, rfl⟩ := hw2
        have cc1' := cc1 p.d p.os
        clear cc0 cc1
        have HBp := Lib.hid (HB.out.trans ((below_regrown W p.d p.os).mono HB.out.size))
        go_wp2
        go_roundw
        case rel => exact ⟨m % 3600, o ++ (q ++ [104]), 3, by go_num, rfl, rfl, by omega, by omega, by omega, hlen2, Lib.hid (by rw [← HA.out, HH.out]), HBp.out⟩
        case measure => simp [intOf]
      · have HH := Lib.hid (ageT_miss (show unitsL.drop 2 = (104, 3600) :: unitsL.drop 3 from rfl) hu hm0 o)
        have hq : m / 3600 ≤ 0 := by omega
        clear hc
        go_wp2
        go_roundw
        case rel => exact ⟨m, o, 3, by congr 1; omega, rfl, rfl, by omega, hm0, hm1, by omega, Lib.hid (by rw [← HA.out, HH.out]), hb.alloc hbs _⟩
        case measure => simp [intOf]
    · have hat := unit_at3
      obtain ⟨W, hW⟩ : ∃ W, W = wr.alloc (.cells #[.string ⟨#[109]⟩, .int .i64 60] 71) := ⟨_, rfl⟩
      have hc : ∀ j, W.cell? ⟨wr.heap.size, j, none⟩ = (#[.string ⟨#[109]⟩, .int .i64 60] : Array Value)[j]? := fun j => by rw [hW]; exact World.cell?_alloc_at _ _ _ j rfl
      have hB : Below w.heap.size w W := by rw [hW]; exact hb.alloc hbs _
      have HB := Lib.hid hB
      have HW := Lib.hid hW
      by_cases hu : 60 ≤ m
      · have HH := Lib.hid (ageT_hit (show unitsL.drop 3 = (109, 60) :: unitsL.drop 4 from rfl) hu o)
        have hlen := itoa_short (m / 60) (by omega) (by omega)
        have CD := Lib.hid (show ∀ n' os, Calls Tryd.prog 46 #[.int .i64 (m / 60)] (Sort.grow (redrawn W n') os) fun e w'' => e = .returned (.string (strOf (Lib.itoa (m / 60)))) ∧ ∃ p : Regrown, w'' = Sort.grow (redrawn W p.d) p.os from
          fun n' os => Calls.regrown_of (implDecText (m / 60) _ (by omega) (by omega) (HTa.out _ (hB.trans ((below_regrown W n' os).mono hB.size)))))
        have ha1 : ∀ W : World, (Op.stringOp .add (strOf (Lib.itoa (m / 60))) ⟨#[109]⟩).run Tryd.prog W = .ok (.string (strOf (Lib.itoa (m / 60) ++ [109]))) W := fun W => run_add _ [109] (by simp; omega) W
        have ha2 := run_add o (Lib.itoa (m / 60) ++ [109]) (by simp; omega)
        have hlen2 : (o ++ (Lib.itoa (m / 60) ++ [109])).length ≤ 200 * 4 := by simp; omega
        have hq : 0 < m / 60 := by omega
        have HQ := Lib.hid hq
        rw [List.append_assoc o] at HH
        clear hlen hq
        generalize Lib.itoa (m / 60) = q at HH CD ha1 ha2 hlen2
        have cc0 : ∀ n os, (Sort.grow (redrawn W n) os).cell? ⟨wr.heap.size, 0, none⟩ = some (.string ⟨#[109]⟩) := fun n os => cell_regrown (hc 0) n os
        have cc1 : ∀ n os, (Sort.grow (redrawn W n) os).cell? ⟨wr.heap.size, 1, none⟩ = some (.int .i64 60) := fun n os => cell_regrown (hc 1) n os
        clear hc hW hB
        go_wp2
        rw [← HW.out]
        refine wp_region_quiet_below (by kernel_rfl) (by kernel_rfl) ?_
        repeat (quiet_step (first | exact CD.out _ _))
        refine wpQuiet_nil ?_
        intro w2 hw2
        obtain ⟨p, rfl⟩ := hw2
        have cc1' := cc1 p.d p.os
        clear cc0 cc1
        have HBp := Lib.hid (HB.out.trans ((below_regrown W p.d p.os).mono HB.out.size))
        go_wp2
        go_roundw
        case rel => exact ⟨m % 60, o ++ (q ++ [109]), 4, by go_num, rfl, rfl, by omega, by omega, by omega, hlen2, Lib.hid (by rw [← HA.out, HH.out]), HBp.out⟩
        case measure => simp [intOf]
      · have HH := Lib.hid (ageT_miss (show unitsL.drop 3 = (109, 60) :: unitsL.drop 4 from rfl) hu hm0 o)
        have hq : m / 60 ≤ 0 := by omega
        clear hc
        go_wp2
        go_roundw
        case rel => exact ⟨m, o, 4, by congr 1; omega, rfl, rfl, by omega, hm0, hm1, by omega, Lib.hid (by rw [← HA.out, HH.out]), hb.alloc hbs _⟩
        case measure => simp [intOf]
    · have hat := unit_at4
      obtain ⟨W, hW⟩ : ∃ W, W = wr.alloc (.cells #[.string ⟨#[115]⟩, .int .i64 1] 71) := ⟨_, rfl⟩
      have hc : ∀ j, W.cell? ⟨wr.heap.size, j, none⟩ = (#[.string ⟨#[115]⟩, .int .i64 1] : Array Value)[j]? := fun j => by rw [hW]; exact World.cell?_alloc_at _ _ _ j rfl
      have hB : Below w.heap.size w W := by rw [hW]; exact hb.alloc hbs _
      have HB := Lib.hid hB
      have HW := Lib.hid hW
      by_cases hu : 1 ≤ m
      · have HH := Lib.hid (ageT_hit1 (show unitsL.drop 4 = (115, 1) :: unitsL.drop 5 from rfl) hu o)
        have hlen := itoa_short m (by omega) (by omega)
        have CD := Lib.hid (show ∀ n' os, Calls Tryd.prog 46 #[.int .i64 m] (Sort.grow (redrawn W n') os) fun e w'' => e = .returned (.string (strOf (Lib.itoa m))) ∧ ∃ p : Regrown, w'' = Sort.grow (redrawn W p.d) p.os from
          fun n' os => Calls.regrown_of (implDecText m _ (by omega) (by omega) (HTa.out _ (hB.trans ((below_regrown W n' os).mono hB.size)))))
        have ha1 : ∀ W : World, (Op.stringOp .add (strOf (Lib.itoa m)) ⟨#[115]⟩).run Tryd.prog W = .ok (.string (strOf (Lib.itoa m ++ [115]))) W := fun W => run_add _ [115] (by simp; omega) W
        have ha2 := run_add o (Lib.itoa m ++ [115]) (by simp; omega)
        have hlen2 : (o ++ (Lib.itoa m ++ [115])).length ≤ 200 * 5 := by simp; omega
        have hq : 0 < m := by omega
        have HQ := Lib.hid hq
        rw [List.append_assoc o] at HH
        clear hlen hq
        generalize Lib.itoa m = q at HH CD ha1 ha2 hlen2
        have cc0 : ∀ n os, (Sort.grow (redrawn W n) os).cell? ⟨wr.heap.size, 0, none⟩ = some (.string ⟨#[115]⟩) := fun n os => cell_regrown (hc 0) n os
        have cc1 : ∀ n os, (Sort.grow (redrawn W n) os).cell? ⟨wr.heap.size, 1, none⟩ = some (.int .i64 1) := fun n os => cell_regrown (hc 1) n os
        clear hc hW hB
        go_wp2
        rw [← HW.out]
        refine wp_region_quiet_below (by kernel_rfl) (by kernel_rfl) ?_
        repeat (quiet_step (first | exact CD.out _ _))
        refine wpQuiet_nil ?_
        intro w2 hw2
        obtain ⟨p, rfl⟩ := hw2
        have cc1' := cc1 p.d p.os
        clear cc0 cc1
        have HBp := Lib.hid (HB.out.trans ((below_regrown W p.d p.os).mono HB.out.size))
        go_wp2
        go_roundw
        case rel => exact ⟨0, o ++ (q ++ [115]), 5, by go_num, rfl, rfl, by omega, by omega, by omega, hlen2, Lib.hid (by rw [← HA.out, HH.out]), HBp.out⟩
        case measure => simp [intOf]
      · have HH := Lib.hid (ageT_miss (show unitsL.drop 4 = (115, 1) :: unitsL.drop 5 from rfl) hu hm0 o)
        have hq : m ≤ 0 := by omega
        clear hc
        go_wp2
        go_roundw
        case rel => exact ⟨m, o, 5, by congr 1; omega, rfl, rfl, by omega, hm0, hm1, by omega, Lib.hid (by rw [← HA.out, HH.out]), hb.alloc hbs _⟩
        case measure => simp [intOf]
end Go.Proofs.YtbikcldkaogfmaaDoor
