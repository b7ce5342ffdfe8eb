/- spec.Runs. -/
import Derived.Test.YtnmlhjigiemfgaaDoorRunsV
import Derived.Test.YtnmlhjigiemfgaaDoorByteRow
import Derived.Test.YtnmlhjigiemfgaaDoorDropAt
import Derived.Deep.RegionWith
namespace Go.Proofs.YtnmlhjigiemfgaaDoor
open Go.RowKit

theorem cell_three_new (w : World) (x y z : Value) (t : TypeId) : ∀ j u, [x, y, z][j]? = some u → (w.alloc (.cells #[x, y, z] t)).cell? ((⟨w.heap.size, 0, none⟩ : Addr).add j) = some u := by
  intro j u hj
  match j, hj with
  | 0, hj => simp at hj; subst hj; simp [Addr.add]
  | 1, hj => simp at hj; subst hj; simp [Addr.add]
  | 2, hj => simp at hj; subst hj; simp [Addr.add]
  | (j + 3), hj => simp at hj
theorem Bytes.three {w : World} {B : Nat} {v : Value} {l : List UInt8} {a b c : UInt8} (h : w.ownsRow B 5 1 v (l.length + 3) (byteVals l ++ [.int .u8 (a.toNat : Int), .int .u8 (b.toNat : Int), .int .u8 (c.toNat : Int)])) : Bytes w B v (l ++ [a, b, c]) := by
  unfold Bytes byteVals at *
  rw [List.length_append, List.map_append]
  exact h
theorem Bytes.drew {w : World} {B : Nat} {v : Value} {l : List UInt8} (h : Bytes w B v l) : Bytes w.drew B v l := owns_drew h 1
/-- One run is told, and the rest follows. -/
theorem runs_step {T acc l : List UInt8} {c : UInt8} {r : List UInt8} {n : Nat} (h : T = acc ++ runsV l) (hl : l = c :: r) (hn : lead c 254 r = n) : T = acc ++ run1 c (n + 1) ++ runsV (r.drop n) := by
  rw [h, hl, runsV_cons, hn, List.append_assoc]
theorem lead_more {c : UInt8} {r : List UInt8} {m : Nat} (h : r.take m = List.replicate m c) (hm : r[m]? = some c) : r.take (m + 1) = List.replicate (m + 1) c := by
  rw [List.take_add_one, h, hm, List.replicate_succ']; rfl
theorem cut_rep (s : ByteArray) (k m : Nat) (c : UInt8) (h : s.data.toList.drop k = c :: s.data.toList.drop (k + 1)) (ht : (s.data.toList.drop (k + 1)).take m = List.replicate m c) : s.extract k (k + (m + 1)) = strOf (List.replicate (m + 1) c) := by
  have e : (s.extract k (k + (m + 1))).data.toList = List.replicate (m + 1) c := by
    rw [ByteArray.data_extract, Array.toList_extract, List.extract_eq_take_drop, Nat.add_sub_cancel_left, h, List.take_succ_cons, ht, List.replicate_succ]
  rw [← e]
  cases s.extract k (k + (m + 1))
  simp [strOf]

set_option maxRecDepth 100000 in
set_option maxHeartbeats 8000000 in
theorem specRuns (s : ByteArray) (w : World) (hs : s.size ≤ 1048576) :
    Calls Tryd.prog 27 #[.string s] w fun e w' => e = .returned (.string (strOf (runsV s.data.toList))) ∧ Below w.heap.size w w' := by
  obtain ⟨j0, kj, kz0, kz1, kz2⟩ := info_parts infoB
  obtain ⟨T, hT⟩ : ∃ T, runsV s.data.toList = T := ⟨_, rfl⟩
  rw [hT]
  have HT := Lib.hid hT
  have hsi : (s.size : Int) ≤ 1048576 := by omega
  have hsz0 : s.data.toList.length = s.size := by simp
  clear hT
  go_enter Tryd.func27, Tryd.ntmps27
  go_wp2
  go_loopw [3, 4, 5] (fun ov iv _ wr => ∃ (acc : List UInt8) (k : Nat), iv = .int .i64 k ∧ k ≤ s.size ∧ acc.length ≤ 3 * k ∧ Bytes wr w.heap.size ov acc ∧ Below w.heap.size w wr ∧ Hid (T = acc ++ runsV (s.data.toList.drop k))) (fun _ iv _ _ => s.size - (intOf iv).toNat)
  case atStart => exact ⟨[], 0, rfl, Nat.zero_le _, by simp, World.ownsRow_lit w #[] 0 (Nat.le_refl _) (by simp [maxLen]) (by simp), (Below.refl _ _).alloc (Nat.le_refl _) _, Lib.hid (by rw [List.drop_zero, HT.out]; rfl)⟩
  case round =>
    clear HT
    obtain ⟨acc, k, rfl, hk, hacc, hO, hb, HR⟩ := hrel
    have HB := Lib.hid hb
    have HO := Lib.hid hO
    clear hb hO
    by_cases h1 : k < s.size
    · have h1i : (k : Int) < (s.size : Int) := by omega
      have hat := Lib.hid (at_byte s k h1)
      obtain ⟨c, hc⟩ : ∃ c : UInt8, s[k] = c := ⟨_, rfl⟩
      have HD := Lib.hid (show s.data.toList.drop k = c :: s.data.toList.drop (k + 1) by rw [drop_one _ hat.out, hc])
      clear hat
      go_wp2
      go_loopw [5] (fun nv V => ∃ (n : Nat), nv = .int .i64 (n : Int) ∧ 1 ≤ n ∧ n ≤ 255 ∧ k + n ≤ s.size ∧ Bytes V w.heap.size u3 acc ∧ Below w.heap.size w V ∧ Hid ((s.data.toList.drop (k + 1)).take (n - 1) = List.replicate (n - 1) c)) (fun nv _ => 255 - (intOf nv).toNat)
      case atStart => exact ⟨1, rfl, by omega, by omega, by omega, HO.out, HB.out, Lib.hid (by simp)⟩
      case round =>
        obtain ⟨n, rfl, hn1, hn2, hkm, hO2, hb2, HM'⟩ := hrel
        have HO2 := Lib.hid hO2
        have HB2 := Lib.hid hb2
        clear hO2 hb2 HO HB
        obtain ⟨m, hnm⟩ : ∃ m, n = m + 1 := ⟨n - 1, by omega⟩
        have HM := Lib.hid (show (s.data.toList.drop (k + 1)).take m = List.replicate m c by have := HM'.out; rw [hnm] at this; exact this)
        have HNM := Lib.hid hnm
        have hm : m ≤ 254 := by omega
        obtain ⟨j, hj⟩ : ∃ j, k + n = j := ⟨_, rfl⟩
        have HJE := Lib.hid hj
        have hji : (k : Int) + (n : Int) = (j : Int) := by omega
        have hwr : IntKind.i64.wrap ((k : Int) + (n : Int)) = (j : Int) := by rw [hji]; exact IntWalk.i64_in _ (by omega)
        have hj0 : (0 : Int) ≤ (j : Int) := by omega
        have hjs : (j : Int) ≤ (s.size : Int) := by omega
        have hkj : (k : Int) ≤ (j : Int) := by omega
        have hk0 : (0 : Int) ≤ (k : Int) := by omega
        have hjk : k + 1 + m = j := by omega
        have HJK := Lib.hid hjk
        clear hji hnm hj hjk HM'
        by_cases h2 : j < s.size
        · have h2i : (j : Int) < (s.size : Int) := by omega
          obtain ⟨d, hd⟩ : ∃ d : UInt8, s[j] = d := ⟨_, rfl⟩
          have HJ := Lib.hid (show (s.data.toList.drop (k + 1))[m]? = some d by rw [List.getElem?_drop, HJK.out, at_byte s j h2, hd])
          by_cases h3 : d = c
          · have h3i : ((d.toNat : Int) == (c.toNat : Int)) = true := by rw [h3]; simp
            by_cases h4 : m < 254
            · have h4i : (n : Int) < 255 := by have := HNM.out; omega
              have HM2 := Lib.hid (lead_more HM.out (h3 ▸ HJ.out))
              have hsz := HB2.out.size
              clear HM HJ h3 HR HD
              go_wp2_with fail
              go_region
              all_goals
                go_wp2
                go_roundw
                case rel => exact ⟨n + 1, by go_num, by omega, by have := HNM.out; omega, by have := HJE.out; omega, HO2.out.drew, HB2.out.drew, Lib.hid (by rw [HNM.out]; exact HM2.out)⟩
                case measure => have hjk := HJK.out; first | (simp [intOf]; done) | (simp [intOf]; omega)
            · have h4i : ¬ (n : Int) < 255 := by have := HNM.out; omega
              have HN := Lib.hid (lead_at c m 254 (s.data.toList.drop (k + 1)) (by omega) (by have := HJK.out; rw [List.length_drop]; omega) HM.out (.inl (by omega)))
              clear HJ h3
              have HST := Lib.hid (runs_step HR.out HD.out HN.out)
              have HCR := Lib.hid (cut_rep s k m c HD.out HM.out)
              have hbn : IntKind.u8.wrap (n : Int) = ((UInt8.ofNat (m + 1)).toNat : Int) := by rw [byte_n (by omega), ← HNM.out]; exact IntWalk.u8_in _ (by omega)
              have hsz := HB2.out.size
              clear HN HM HR HD
              rw [run1_long (.inl (by omega))] at HST
              have h6 : 4 ≤ (n : Int) := by have := HNM.out; omega
              clear HCR
              go_wp2_with fail
              go_region
              all_goals
                go_wp2_with (at_builtin; refine wpList_append_own _ rfl _ _ 22 rfl w.heap.size 5 j0 (.int .u8 0) 1 1 Tryd.underlying22 kj kz0 kz1 kz2 rfl (by decide) _ _ _ rfl (HO2.out.drew.own.alloc _) ⟨wr.heap.size, 0, none⟩ 3 3 [.int .u8 1, .int .u8 ((UInt8.ofNat (m + 1)).toNat : Int), .int .u8 (c.toNat : Int)] rfl rfl (cell_three_new _ _ _ _ _) (by simp [Value.oneCell']) (by unfold maxLen; omega) (by omega) (by simp; omega) ?_; intro v1 w1 hown1 hgrow1 _)
                go_roundw
                case rel => exact ⟨acc ++ [1, UInt8.ofNat (m + 1), c], j, by go_num, by omega, by have := HJK.out; simp; omega, Bytes.three (a := 1) hown1, HO2.out.drew.grown HB2.out.drew hsz hgrow1, Lib.hid (by rw [HST.out, List.drop_drop, ← HJK.out])⟩
                case measure => have hjk := HJK.out; first | (simp [intOf]; done) | (simp [intOf]; omega)
          · have h3i : ((d.toNat : Int) == (c.toNat : Int)) = false := by
              simp only [beq_eq_false_iff_ne, ne_eq]; intro e; exact h3 (UInt8.toNat_inj.mp (by omega))
            have HN := Lib.hid (lead_at c m 254 (s.data.toList.drop (k + 1)) (by omega) (by have := HJK.out; rw [List.length_drop]; omega) HM.out (.inr (by rw [HJ.out]; intro e; exact h3 (Option.some.inj e))))
            clear HJ h3
            have HST := Lib.hid (runs_step HR.out HD.out HN.out)
            have HCR := Lib.hid (cut_rep s k m c HD.out HM.out)
            have hbn : IntKind.u8.wrap (n : Int) = ((UInt8.ofNat (m + 1)).toNat : Int) := by rw [byte_n (by omega), ← HNM.out]; exact IntWalk.u8_in _ (by omega)
            have hsz := HB2.out.size
            clear HN HM HR HD
            by_cases h5 : 4 ≤ m + 1 ∨ c = 1
            · rw [run1_long h5] at HST
              have hnm := HNM.out
              have h6 : (4 ≤ (n : Int)) ∨ (¬ (4 ≤ (n : Int)) ∧ ((c.toNat : Int) == 1) = true) := by
                by_cases h7 : 4 ≤ m + 1
                · exact .inl (by omega)
                · rcases h5 with h5 | h5
                  · exact absurd h5 h7
                  · subst h5; exact .inr ⟨by omega, rfl⟩
              clear h5 HCR hnm
              rcases h6 with h6 | ⟨h6, h7⟩
              all_goals
                go_wp2_with fail
                go_region
                all_goals
                  go_wp2_with (at_builtin; refine wpList_append_own _ rfl _ _ 22 rfl w.heap.size 5 j0 (.int .u8 0) 1 1 Tryd.underlying22 kj kz0 kz1 kz2 rfl (by decide) _ _ _ rfl (HO2.out.drew.own.alloc _) ⟨wr.heap.size, 0, none⟩ 3 3 [.int .u8 1, .int .u8 ((UInt8.ofNat (m + 1)).toNat : Int), .int .u8 (c.toNat : Int)] rfl rfl (cell_three_new _ _ _ _ _) (by simp [Value.oneCell']) (by unfold maxLen; omega) (by omega) (by simp; omega) ?_; intro v1 w1 hown1 hgrow1 _)
                  go_roundw
                  case rel => exact ⟨acc ++ [1, UInt8.ofNat (m + 1), c], j, by go_num, by omega, by have := HJK.out; simp; omega, Bytes.three (a := 1) hown1, HO2.out.drew.grown HB2.out.drew hsz hgrow1, Lib.hid (by rw [HST.out, List.drop_drop, ← HJK.out])⟩
                  case measure => have hjk := HJK.out; first | (simp [intOf]; done) | (simp [intOf]; omega)
            · have h6 : ¬ (4 ≤ (n : Int)) := by have := HNM.out; omega
              have h7 : ((c.toNat : Int) == 1) = false := byte_f (n := 1) (fun e => h5 (.inr (u8_is (c := 1) e)))
              rw [run1_short h5] at HST
              have hsl : ∀ W, (Instr.slice 9 (.string s) (some (.int .i64 (k : Int))) (some (.int .i64 (j : Int))) none).run Tryd.prog W = .ok (.string (strOf (List.replicate (m + 1) c))) W := fun W => by
                rw [run_slice_string W 9 s .i64 .i64 _ _ Tryd.underlying9 (by omega) (by omega) (by omega)]
                rw [← HCR.out, ← HNM.out, HJE.out]; rfl
              generalize hrep : List.replicate (m + 1) c = rp at HST hsl
              have hrl : rp.length = m + 1 := by rw [← hrep, List.length_replicate]
              clear HCR h5 hrep
              go_wp2_with fail
              go_region
              all_goals
                go_wp2_with (at_builtin; refine wpList_append_own_str _ rfl _ _ 22 9 rfl w.heap.size 5 j0 (.int .u8 0) Tryd.underlying22 Tryd.underlying9 kj kz0 kz1 kz2 rfl _ _ _ rfl HO2.out.drew.own (strOf rp) rfl (by unfold maxLen; rw [strOf_size]; omega) (by rw [strOf_size]; omega) (by show w.heap.size ≤ wr.heap.size; omega) ?_; intro v1 w1 hown1 hgrow1)
                go_roundw
                case rel => exact ⟨acc ++ rp, j, by go_num, by omega, by have := HJK.out; simp; omega, Bytes.more hown1, HO2.out.drew.grown0 HB2.out.drew hsz hgrow1, Lib.hid (by rw [HST.out, List.drop_drop, ← HJK.out])⟩
                case measure => have hjk := HJK.out; first | (simp [intOf]; done) | (simp [intOf]; omega)
        · have h2i : ¬ (j : Int) < (s.size : Int) := by omega
          have HN := Lib.hid (lead_at c m 254 (s.data.toList.drop (k + 1)) (by omega) (by have := HJK.out; rw [List.length_drop]; omega) HM.out (.inr (by rw [List.getElem?_eq_none (by have := HJK.out; rw [List.length_drop]; omega)]; simp)))
          have HST := Lib.hid (runs_step HR.out HD.out HN.out)
          have HCR := Lib.hid (cut_rep s k m c HD.out HM.out)
          have hbn : IntKind.u8.wrap (n : Int) = ((UInt8.ofNat (m + 1)).toNat : Int) := by rw [byte_n (by omega), ← HNM.out]; exact IntWalk.u8_in _ (by omega)
          have hsz := HB2.out.size
          clear HN HM HR HD
          by_cases h5 : 4 ≤ m + 1 ∨ c = 1
          · rw [run1_long h5] at HST
            have hnm := HNM.out
            have h6 : (4 ≤ (n : Int)) ∨ (¬ (4 ≤ (n : Int)) ∧ ((c.toNat : Int) == 1) = true) := by
              by_cases h7 : 4 ≤ m + 1
              · exact .inl (by omega)
              · rcases h5 with h5 | h5
                · exact absurd h5 h7
                · subst h5; exact .inr ⟨by omega, rfl⟩
            clear h5 HCR hnm
            rcases h6 with h6 | ⟨h6, h7⟩
            all_goals
              go_wp2_with fail
              go_region
              all_goals
                go_wp2_with (at_builtin; refine wpList_append_own _ rfl _ _ 22 rfl w.heap.size 5 j0 (.int .u8 0) 1 1 Tryd.underlying22 kj kz0 kz1 kz2 rfl (by decide) _ _ _ rfl (HO2.out.drew.own.alloc _) ⟨wr.heap.size, 0, none⟩ 3 3 [.int .u8 1, .int .u8 ((UInt8.ofNat (m + 1)).toNat : Int), .int .u8 (c.toNat : Int)] rfl rfl (cell_three_new _ _ _ _ _) (by simp [Value.oneCell']) (by unfold maxLen; omega) (by omega) (by simp; omega) ?_; intro v1 w1 hown1 hgrow1 _)
                go_roundw
                case rel => exact ⟨acc ++ [1, UInt8.ofNat (m + 1), c], j, by go_num, by omega, by have := HJK.out; simp; omega, Bytes.three (a := 1) hown1, HO2.out.drew.grown HB2.out.drew hsz hgrow1, Lib.hid (by rw [HST.out, List.drop_drop, ← HJK.out])⟩
                case measure => have hjk := HJK.out; first | (simp [intOf]; done) | (simp [intOf]; omega)
          · have h6 : ¬ (4 ≤ (n : Int)) := by have := HNM.out; omega
            have h7 : ((c.toNat : Int) == 1) = false := byte_f (n := 1) (fun e => h5 (.inr (u8_is (c := 1) e)))
            rw [run1_short h5] at HST
            have hsl : ∀ W, (Instr.slice 9 (.string s) (some (.int .i64 (k : Int))) (some (.int .i64 (j : Int))) none).run Tryd.prog W = .ok (.string (strOf (List.replicate (m + 1) c))) W := fun W => by
              rw [run_slice_string W 9 s .i64 .i64 _ _ Tryd.underlying9 (by omega) (by omega) (by omega)]
              rw [← HCR.out, ← HNM.out, HJE.out]; rfl
            generalize hrep : List.replicate (m + 1) c = rp at HST hsl
            have hrl : rp.length = m + 1 := by rw [← hrep, List.length_replicate]
            clear HCR h5 hrep
            go_wp2_with fail
            go_region
            all_goals
              go_wp2_with (at_builtin; refine wpList_append_own_str _ rfl _ _ 22 9 rfl w.heap.size 5 j0 (.int .u8 0) Tryd.underlying22 Tryd.underlying9 kj kz0 kz1 kz2 rfl _ _ _ rfl HO2.out.drew.own (strOf rp) rfl (by unfold maxLen; rw [strOf_size]; omega) (by rw [strOf_size]; omega) (by show w.heap.size ≤ wr.heap.size; omega) ?_; intro v1 w1 hown1 hgrow1)
              go_roundw
              case rel => exact ⟨acc ++ rp, j, by go_num, by omega, by have := HJK.out; simp; omega, Bytes.more hown1, HO2.out.drew.grown0 HB2.out.drew hsz hgrow1, Lib.hid (by rw [HST.out, List.drop_drop, ← HJK.out])⟩
              case measure => have hjk := HJK.out; first | (simp [intOf]; done) | (simp [intOf]; omega)
    · have h1i : ¬ (k : Int) < (s.size : Int) := by omega
      have HF := Lib.hid (show T = acc by rw [HR.out, List.drop_eq_nil_of_le (by omega), runsV_nil, List.append_nil])
      have hcv := conv_bytes HO.out
      clear HR
      go_wp2
      go_ret
      exact ⟨ret_str (by rw [HF.out]), HB.out⟩
end Go.Proofs.YtnmlhjigiemfgaaDoor
