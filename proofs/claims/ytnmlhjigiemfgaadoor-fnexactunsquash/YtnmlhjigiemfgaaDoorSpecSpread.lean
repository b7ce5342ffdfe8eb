/- spec.Spread. -/
import Derived.Test.YtnmlhjigiemfgaaDoorSpecRuns
namespace Go.Proofs.YtnmlhjigiemfgaaDoor
open Go.RowKit

/-- What Spread hands back. -/
def sprT (o : Option (List UInt8)) : Value := .tuple #[.string (strOf (o.getD [])), .bool o.isSome]
theorem spr_stuck {l acc : List UInt8} {r : List UInt8} (h : sprL l = (sprL r).map (acc ++ ·)) (hr : sprL r = none) : spreadO l = none := by
  rw [hr] at h; exact spreadO_none h
theorem spr_much {l acc r : List UInt8} (h : sprL l = (sprL r).map (acc ++ ·)) (ha : 3000 < acc.length) : spreadO l = none := by
  cases hr : sprL r with
  | none => exact spr_stuck h hr
  | some t =>
    rw [hr] at h
    rw [spreadO_some h, if_neg]
    rintro ⟨h1, -⟩
    rw [List.length_append] at h1
    omega
theorem spr_go {l acc r t : List UInt8} {m : List UInt8} (h : sprL l = (sprL r).map (acc ++ ·)) (hr : sprL r = (sprL t).map (m ++ ·)) : sprL l = (sprL t).map (acc ++ m ++ ·) := by
  rw [h, hr]
  cases sprL t <;> simp
theorem Bytes.slice {w : World} {B : Nat} {v : Value} {l : List UInt8} (h : Bytes w B v l) : ∃ a cap, v = .slice a l.length cap := by
  rcases h.shape with ⟨rfl, rfl⟩ | ⟨g, cap, cur, rfl, -⟩
  · exact ⟨none, 0, rfl⟩
  · exact ⟨_, _, rfl⟩
theorem rep_snoc (b : UInt8) (j : Nat) : List.replicate (j + 1) b = List.replicate j b ++ [b] := List.replicate_succ'

set_option maxRecDepth 100000 in
set_option maxHeartbeats 8000000 in
theorem specSpread (s : ByteArray) (w : World) (hs : s.size ≤ 1048576) :
    Calls Tryd.prog 15 #[.string s] w fun e w' => e = .returned (sprT (spreadO s.data.toList)) ∧ Below w.heap.size w w' := by
  obtain ⟨j0, kj, kz0, kz1, kz2⟩ := info_parts infoB
  obtain ⟨O, hO'⟩ : ∃ O, spreadO s.data.toList = O := ⟨_, rfl⟩
  rw [hO']
  have HT := Lib.hid hO'
  have hsi : (s.size : Int) ≤ 1048576 := by omega
  have hsz0 : s.data.toList.length = s.size := by simp
  clear hO'
  go_enter Tryd.func15, Tryd.ntmps15
  go_wp2
  go_loopw [4, 5, 6, 7, 8] (fun ov iv _ _ _ wr => ∃ (acc : List UInt8) (k : Nat), iv = .int .i64 k ∧ k ≤ s.size ∧ acc.length ≤ 3000 ∧ Bytes wr w.heap.size ov acc ∧ Below w.heap.size w wr ∧ Hid (sprL s.data.toList = (sprL (s.data.toList.drop k)).map (acc ++ ·))) (fun _ iv _ _ _ _ => s.size - (intOf iv).toNat)
  case atStart => exact ⟨[], 0, rfl, Nat.zero_le _, by simp, World.ownsRow_lit w #[] 0 (Nat.le_refl _) (by simp [maxLen]) (by simp), (Below.refl _ _).alloc (Nat.le_refl _) _, Lib.hid (by rw [List.drop_zero]; cases sprL s.data.toList <;> simp)⟩
  case round =>
    obtain ⟨acc, k, rfl, hk, hacc, hO, hb, HR⟩ := hrel
    have HB := Lib.hid hb
    have HO := Lib.hid hO
    clear hb hO
    by_cases h1 : k < s.size
    · have h1i : (k : Int) < (s.size : Int) := by omega
      have hk0 : (0 : Int) ≤ (k : Int) := by omega
      have hat := Lib.hid (at_byte s k h1)
      obtain ⟨c, hc⟩ : ∃ c : UInt8, s[k] = c := ⟨_, rfl⟩
      have HD := Lib.hid (show s.data.toList.drop k = c :: s.data.toList.drop (k + 1) by rw [drop_one _ hat.out, hc])
      clear hat
      have hw1 : IntKind.i64.wrap ((k : Int) + 1) = (k : Int) + 1 := IntWalk.i64_in _ (by omega)
      have hw2 : IntKind.i64.wrap ((k : Int) + 2) = (k : Int) + 2 := IntWalk.i64_in _ (by omega)
      by_cases hc1 : c = 1
      · subst hc1
        have hci : (((1 : UInt8).toNat : Int) == 1) = true := rfl
        by_cases h2 : k + 2 < s.size
        · have h2i : (k : Int) + 2 < (s.size : Int) := by omega
          have h2j : ¬ (s.size : Int) ≤ (k : Int) + 2 := by omega
          have h3i : (k : Int) + 1 < (s.size : Int) := by omega
          obtain ⟨x, hx⟩ : ∃ x : UInt8, s[k + 1] = x := ⟨_, rfl⟩
          obtain ⟨d, hd⟩ : ∃ d : UInt8, s[k + 2] = d := ⟨_, rfl⟩
          have HG := Lib.hid (spr_go HR.out (show sprL (s.data.toList.drop k) = (sprL (s.data.toList.drop (k + 3))).map (List.replicate x.toNat d ++ ·) by
            rw [HD.out, drop_one x (by rw [at_byte s (k + 1) (by omega), hx]), drop_one d (by rw [at_byte s (k + 2) h2, hd]), sprL_run]))
          have hxl := x.toNat_lt
          have hw3 : IntKind.i64.wrap ((k : Int) + 2 + 1) = (k : Int) + 3 := by rw [IntWalk.i64_in _ (by omega)]; omega
          have HO1 := Lib.hid HO.out.drew
          have HB1 := Lib.hid HB.out.drew
          have hN : x.toNat ≤ 255 := by omega
          clear HO HB HD HR
          go_wp2_with fail
          go_region
          go_wp2
          go_loopw [4, 8] (fun ov jv V => ∃ (j : Nat), jv = .int .i64 (j : Int) ∧ j ≤ x.toNat ∧ Bytes V w.heap.size ov (acc ++ List.replicate j d) ∧ Below w.heap.size w V) (fun _ jv _ => x.toNat - (intOf jv).toNat)
          case atStart => exact ⟨0, rfl, Nat.zero_le _, by rw [List.replicate_zero, List.append_nil]; exact HO1.out, HB1.out⟩
          case round =>
            clear HO1 HB1
            obtain ⟨j, rfl, hj, hO2, hb2⟩ := hrel
            have HO2 := Lib.hid hO2
            have HB2 := Lib.hid hb2
            have hsz := hb2.size
            clear hO2 hb2
            by_cases h5 : j < x.toNat
            · have h5i : (j : Int) < (x.toNat : Int) := by omega
              have hal : (acc ++ List.replicate j d).length ≤ 3255 := by rw [List.length_append, List.length_replicate]; omega
              generalize hag : acc ++ List.replicate j d = ac at HO2 hal
              have HAG := Lib.hid hag
              clear hag HG
              go_wp2_with (at_builtin; refine wpList_append_own _ rfl _ _ 22 rfl w.heap.size 5 j0 (.int .u8 0) 1 1 Tryd.underlying22 kj kz0 kz1 kz2 rfl (by decide) _ _ _ rfl (HO2.out.own.alloc _) ⟨wr.heap.size, 0, none⟩ 1 1 [.int .u8 (d.toNat : Int)] rfl rfl (cell_one_new _ _ _) (by simp [Value.oneCell']) (by unfold maxLen; omega) (by omega) (by simp; omega) ?_; intro v1 w1 hown1 hgrow1 _)
              go_roundw
              case rel => exact ⟨j + 1, by go_num, by omega, by rw [rep_snoc, ← List.append_assoc, HAG.out]; exact Bytes.snoc hown1, HO2.out.grown HB2.out hsz hgrow1⟩
              case measure => simp [intOf]; omega
            · have h5i : ¬ (j : Int) < (x.toNat : Int) := by omega
              have hje : j = x.toNat := by omega
              have hall : (acc ++ List.replicate j d).length = acc.length + j := by rw [List.length_append, List.length_replicate]
              have hlen : (Value.int .i64 ((acc ++ List.replicate j d).length : Int)) = .int .i64 ((acc.length + j : Nat) : Int) := by rw [hall]
              have HG := Lib.hid (show sprL s.data.toList = (sprL (s.data.toList.drop (k + 3))).map (acc ++ List.replicate j d ++ ·) by rw [hje]; exact HG.out)
              generalize acc ++ List.replicate j d = ac at HO2 hall HG
              clear hje hlen
              by_cases h6 : 3000 < ac.length
              · have h6i : 3000 < (ac.length : Int) := by omega
                have hO3 : O = none := by rw [← HT.out]; exact spr_much HG.out h6
                subst hO3
                obtain ⟨gv, gc, hov⟩ := HO2.out.slice
                subst hov
                clear HG HT
                go_wp2
                go_ret2
                exact ⟨rfl, HB2.out⟩
              · have h6i : ¬ 3000 < (ac.length : Int) := by omega
                obtain ⟨gv, gc, hov⟩ := HO2.out.slice
                subst hov
                go_wp2
                go_roundw
                case rel => exact ⟨ac, k + 3, by go_num, by omega, by omega, HO2.out, HB2.out, HG⟩
                case measure => simp [intOf]; omega
        · have h2i : (s.size : Int) ≤ (k : Int) + 2 := by omega
          have hO3 : O = none := by
            rw [← HT.out]
            refine spr_stuck HR.out ?_
            rw [HD.out]
            by_cases h3 : k + 1 < s.size
            · rw [drop_one _ (at_byte s (k + 1) h3), List.drop_eq_nil_of_le (by omega)]; rfl
            · rw [List.drop_eq_nil_of_le (by omega)]; rfl
          subst hO3
          clear HR HD HT
          go_wp2_with fail
          go_region
          go_wp2
          go_ret2
          exact ⟨rfl, HB.out.drew⟩
      · have hci : ((c.toNat : Int) == 1) = false := byte_f (n := 1) (fun e => hc1 (u8_is (c := 1) e))
        have HG := Lib.hid (spr_go HR.out (show sprL (s.data.toList.drop k) = (sprL (s.data.toList.drop (k + 1))).map (List.replicate 1 c ++ ·) by rw [HD.out, sprL_lit hc1]; rfl))
        clear hc1
        have HO1 := Lib.hid HO.out.drew
        have HB1 := Lib.hid HB.out.drew
        have hN : 1 ≤ 255 := by omega
        clear HO HB HD HR
        go_wp2_with fail
        go_region
        go_wp2
        go_loopw [4, 8] (fun ov jv V => ∃ (j : Nat), jv = .int .i64 (j : Int) ∧ j ≤ 1 ∧ Bytes V w.heap.size ov (acc ++ List.replicate j c) ∧ Below w.heap.size w V) (fun _ jv _ => 1 - (intOf jv).toNat)
        case atStart => exact ⟨0, rfl, Nat.zero_le _, by rw [List.replicate_zero, List.append_nil]; exact HO1.out, HB1.out⟩
        case round =>
          clear HO1 HB1
          obtain ⟨j, rfl, hj, hO2, hb2⟩ := hrel
          have HO2 := Lib.hid hO2
          have HB2 := Lib.hid hb2
          have hsz := hb2.size
          clear hO2 hb2
          by_cases h5 : j < 1
          · have h5i : (j : Int) < 1 := by omega
            have hal : (acc ++ List.replicate j c).length ≤ 3255 := by rw [List.length_append, List.length_replicate]; omega
            generalize hag : acc ++ List.replicate j c = ac at HO2 hal
            have HAG := Lib.hid hag
            clear hag HG
            go_wp2_with (at_builtin; refine wpList_append_own _ rfl _ _ 22 rfl w.heap.size 5 j0 (.int .u8 0) 1 1 Tryd.underlying22 kj kz0 kz1 kz2 rfl (by decide) _ _ _ rfl (HO2.out.own.alloc _) ⟨wr.heap.size, 0, none⟩ 1 1 [.int .u8 (c.toNat : Int)] rfl rfl (cell_one_new _ _ _) (by simp [Value.oneCell']) (by unfold maxLen; omega) (by omega) (by simp; omega) ?_; intro v1 w1 hown1 hgrow1 _)
            go_roundw
            case rel => exact ⟨j + 1, by go_num, by omega, by rw [rep_snoc, ← List.append_assoc, HAG.out]; exact Bytes.snoc hown1, HO2.out.grown HB2.out hsz hgrow1⟩
            case measure => simp [intOf]; omega
          · have h5i : ¬ (j : Int) < 1 := by omega
            have hje : j = 1 := by omega
            have hall : (acc ++ List.replicate j c).length = acc.length + j := by rw [List.length_append, List.length_replicate]
            have hlen : (Value.int .i64 ((acc ++ List.replicate j c).length : Int)) = .int .i64 ((acc.length + j : Nat) : Int) := by rw [hall]
            have HG := Lib.hid (show sprL s.data.toList = (sprL (s.data.toList.drop (k + 1))).map (acc ++ List.replicate j c ++ ·) by rw [hje]; exact HG.out)
            generalize acc ++ List.replicate j c = ac at HO2 hall HG
            clear hje hlen
            by_cases h6 : 3000 < ac.length
            · have h6i : 3000 < (ac.length : Int) := by omega
              have hO3 : O = none := by rw [← HT.out]; exact spr_much HG.out h6
              subst hO3
              obtain ⟨gv, gc, hov⟩ := HO2.out.slice
              subst hov
              clear HG HT
              go_wp2
              go_ret2
              exact ⟨rfl, HB2.out⟩
            · have h6i : ¬ 3000 < (ac.length : Int) := by omega
              obtain ⟨gv, gc, hov⟩ := HO2.out.slice
              subst hov
              go_wp2
              go_roundw
              case rel => exact ⟨ac, k + 1, by go_num, by omega, by omega, HO2.out, HB2.out, HG⟩
              case measure => simp [intOf]; omega
    · have h1i : ¬ (k : Int) < (s.size : Int) := by omega
      have HS := Lib.hid (spreadO_some (show sprL s.data.toList = some acc by rw [HR.out, List.drop_eq_nil_of_le (by omega)]; simp [sprL_nil]))
      have hcv := conv_bytes HO.out
      have CR := Lib.hid (fun W => specRuns (strOf acc) W (by rw [strOf_size]; omega))
      rw [strOf_data] at CR
      have hcmp : ((strOf (runsV acc)).toList == s.toList) = (runsV acc == s.data.toList) := by rw [Lib.toList_data, Lib.toList_data, strOf_data]
      by_cases h2 : runsV acc = s.data.toList
      · have hO2 : O = some acc := by rw [← HT.out, HS.out, if_pos ⟨hacc, h2⟩]
        have hcm : ((strOf (runsV acc)).toList == s.toList) = true := by rw [hcmp, h2]; simp
        subst hO2
        generalize strOf (runsV acc) = x at CR hcm
        clear HR HS hcmp h2 HT
        go_wp2_with fail
        refine (CR.out _).mono ?_
        rintro e W2 ⟨rfl, hb2⟩
        have hcv2 := conv_bytes (HO.out.on hb2)
        have HB2 := Lib.hid (HB.out.trans (hb2.mono HB.out.size))
        clear hb2
        go_wp2
        go_ret2
        exact ⟨rfl, HB2.out⟩
      · have hO2 : O = none := by rw [← HT.out, HS.out, if_neg (fun h => h2 h.2)]
        have hcm : ((strOf (runsV acc)).toList == s.toList) = false := by rw [hcmp]; simpa using h2
        subst hO2
        generalize strOf (runsV acc) = x at CR hcm
        clear HR HS hcmp h2 HT
        go_wp2_with fail
        refine (CR.out _).mono ?_
        rintro e W2 ⟨rfl, hb2⟩
        have HB2 := Lib.hid (HB.out.trans (hb2.mono HB.out.size))
        clear hb2
        go_wp2
        go_ret2
        exact ⟨rfl, HB2.out⟩
end Go.Proofs.YtnmlhjigiemfgaaDoor
