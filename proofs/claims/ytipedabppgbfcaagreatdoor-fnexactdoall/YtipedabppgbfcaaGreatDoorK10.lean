/- The contract of spec.NameOk. Lists of texts of the call's own, and contracts of the laws' helpers on them: eqStringS, markText, markStringS, heldStringS. -/
import Derived.Test.YtipedabppgbfcaaGreatDoorK2
import Derived.Test.YtipedabppgbfcaaGreatDoorK1
import Derived.Lib.SlicesS
import Derived.Test.YtipedabppgbfcaaGreatDoorK3
import Derived.OwnWalk
import Derived.Laws.OwnMore
import Derived.Laws.AppendOwn
import Derived.Laws.IdiomStrings
import Derived.Lib.QuietBelow
import Derived.Maps.AppendAt
set_option linter.all false
namespace Go.Proofs.YtipedabppgbfcaaGreatDoor
open Go.RowKit

theorem okB_iff (c : UInt8) : okB c = true ↔ c.toNat ≠ 47 ∧ c.toNat ≠ 10 ∧ c.toNat ≠ 0 ∧ c.toNat ≠ 34 := by
  unfold okB
  simp only [Bool.not_eq_true', Bool.or_eq_false_iff, beq_eq_false_iff_ne, ne_eq, ← UInt8.toNat_inj]
  constructor
  · rintro ⟨⟨⟨h1, h2⟩, h3⟩, h4⟩; exact ⟨h1, h2, h3, h4⟩
  · rintro ⟨h1, h2, h3, h4⟩; exact ⟨⟨⟨h1, h2⟩, h3⟩, h4⟩
theorem nameB_eq (s : ByteArray) : nameB s.data.toList = (inB s.size 1 40 && !(s.data.toList == [46]) && !(s.data.toList == [46, 46]) && s.data.toList.all okB) := by
  unfold nameB inB
  have e : s.data.toList.length = s.size := by simp
  rw [e]
  congr 3
  congr 1 <;> exact decide_eq_decide.2 (by omega)
theorem lit_eq (s : ByteArray) (l : List UInt8) : (s.toList == l) = (s.data.toList == l) := by rw [Lib.toList_data]
theorem all_take {l : List UInt8} {p : UInt8 → Bool} (k : Nat) (h : (l.take k).all p = false) : l.all p = false := by
  rw [← List.take_append_drop k l, List.all_append, h]; rfl
theorem all_snoc (s : ByteArray) (k : Nat) (h : k < s.size) : (s.data.toList.take (k + 1)).all okB = ((s.data.toList.take k).all okB && okB s[k]) := by
  rw [take_snoc s k h, List.all_append]; simp

set_option maxHeartbeats 1000000 in
theorem specNameOk (s : ByteArray) (w : World) :
    Calls Tryz.prog 170 #[.string s] w fun e w' => e = .returned (.bool (nameB s.data.toList)) ∧ w = w' := by
  by_cases hin : inB s.size 1 40 = true
  rotate_left
  · have hf : inB s.size 1 40 = false := by simpa using hin
    go_enter Tryz.func170, Tryz.ntmps170
    go_wp2_with (go_at_call 61; refine (specIn _ _ _ _).mono ?_; rintro e w' ⟨rfl, rfl⟩)
    go_ret
    exact ⟨ret_bool (by rw [nameB_eq, hf]; rfl), rfl⟩
  by_cases h1 : (s.data.toList == [46]) = true
  · have h1' : (s.toList == [46]) = true := by rw [lit_eq]; exact h1
    have H1 := Lib.hid h1
    clear h1
    go_enter Tryz.func170, Tryz.ntmps170
    go_wp2_with (go_at_call 61; refine (specIn _ _ _ _).mono ?_; rintro e w' ⟨rfl, rfl⟩)
    go_ret
    exact ⟨ret_bool (by rw [nameB_eq, H1.out]; simp), rfl⟩
  have h1f : (s.data.toList == [46]) = false := by simpa using h1
  have h1' : (s.toList == [46]) = false := by rw [lit_eq]; exact h1f
  have H1 := Lib.hid h1f
  clear h1 h1f
  by_cases h2 : (s.data.toList == [46, 46]) = true
  · have h2' : (s.toList == [46, 46]) = true := by rw [lit_eq]; exact h2
    have H2 := Lib.hid h2
    clear h2
    go_enter Tryz.func170, Tryz.ntmps170
    go_wp2_with (go_at_call 61; refine (specIn _ _ _ _).mono ?_; rintro e w' ⟨rfl, rfl⟩)
    go_ret
    exact ⟨ret_bool (by rw [nameB_eq, H2.out]; simp), rfl⟩
  have h2f : (s.data.toList == [46, 46]) = false := by simpa using h2
  have h2' : (s.toList == [46, 46]) = false := by rw [lit_eq]; exact h2f
  have H2 := Lib.hid h2f
  clear h2 h2f
  have hs : s.size ≤ 40 := by have := hin; simp [inB] at this; omega
  go_enter Tryz.func170, Tryz.ntmps170
  go_wp2_with (go_at_call 61; refine (specIn _ _ _ _).mono ?_; rintro e w' ⟨rfl, rfl⟩)
  go_loop [3] (fun i => ∃ k : Nat, k ≤ s.size ∧ i = .int .i64 k ∧ (s.data.toList.take k).all okB = true) (fun i => s.size - (intOf i).toNat)
  case atStart => exact ⟨0, Nat.zero_le _, rfl, rfl⟩
  case round =>
    obtain ⟨k, hk, rfl, hd⟩ := hrel
    have HD := Lib.hid hd
    clear hd
    by_cases h1 : k < s.size
    · have HA := Lib.hid (all_snoc s k h1)
      have hki : (k : Int) < (s.size : Int) := by omega
      by_cases h5 : okB s[k] = true
      · obtain ⟨b1, b2, b3, b4⟩ := (okB_iff _).1 h5
        have c1 : ((s[k].toNat : Int) == 47) = false := by simp; omega
        have c2 : ((s[k].toNat : Int) == 10) = false := by simp; omega
        have c3 : ((s[k].toNat : Int) == 0) = false := by simp; omega
        have c4 : ((s[k].toNat : Int) == 34) = false := by simp; omega
        have H5 := Lib.hid h5
        clear b1 b2 b3 b4 h5
        go_wp2
        go_round
        case rel => exact ⟨k + 1, by omega, by go_num, by rw [HA.out, HD.out, H5.out]; rfl⟩
        case measure => simp [intOf]; omega
      · have HL := Lib.hid (all_take (k + 1) (by rw [HA.out]; simp [h5]) : s.data.toList.all okB = false)
        have h6 : ¬ (s[k].toNat ≠ 47 ∧ s[k].toNat ≠ 10 ∧ s[k].toNat ≠ 0 ∧ s[k].toNat ≠ 34) := fun h => h5 ((okB_iff _).2 h)
        clear h5
        by_cases d1 : s[k].toNat = 47
        · have c1 : ((s[k].toNat : Int) == 47) = true := by simp; omega
          clear h6 d1
          go_wp2
          go_ret
          exact ⟨ret_bool (by rw [nameB_eq, HL.out]; simp), rfl⟩
        have c1 : ((s[k].toNat : Int) == 47) = false := by simp; omega
        by_cases d2 : s[k].toNat = 10
        · have c2 : ((s[k].toNat : Int) == 10) = true := by simp; omega
          clear h6 d1 d2
          go_wp2
          go_ret
          exact ⟨ret_bool (by rw [nameB_eq, HL.out]; simp), rfl⟩
        have c2 : ((s[k].toNat : Int) == 10) = false := by simp; omega
        by_cases d3 : s[k].toNat = 0
        · have c3 : ((s[k].toNat : Int) == 0) = true := by simp; omega
          clear h6 d1 d2 d3
          go_wp2
          go_ret
          exact ⟨ret_bool (by rw [nameB_eq, HL.out]; simp), rfl⟩
        have c3 : ((s[k].toNat : Int) == 0) = false := by simp; omega
        have c4 : ((s[k].toNat : Int) == 34) = true := by simp; omega
        clear h6 d1 d2 d3
        go_wp2
        go_ret
        exact ⟨ret_bool (by rw [nameB_eq, HL.out]; simp), rfl⟩
    · have HT := Lib.hid (take_all s k (by omega))
      go_wp2
      go_ret
      have hd := HD.out
      rw [HT.out] at hd
      exact ⟨ret_bool (by rw [nameB_eq, hin, H1.out, H2.out, hd]; rfl), rfl⟩
end Go.Proofs.YtipedabppgbfcaaGreatDoor
namespace Go.Proofs.YtipedabppgbfcaaGreatDoor
open Go.RowKit

/-- The slice v, whose row lies from block B on, holds the texts ls. -/
def Strs (w : World) (B : Nat) (v : Value) (ls : List (List UInt8)) : Prop :=
  w.ownsRow B 9 1 v ls.length (ls.map fun l => Value.string (strOf l))

theorem Strs.nil (w : World) (B : Nat) : Strs w B (.slice none 0 0) [] := World.ownsRow_nil _ _ _ _
theorem Strs.form {w : World} {B : Nat} {v : Value} {ls : List (List UInt8)} (h : Strs w B v ls) :
    (v = .slice none 0 0 ∧ ls = []) ∨ ∃ g cap, v = .slice (some ⟨g, 0, none⟩) ls.length cap ∧ B ≤ g ∧ g < w.heap.size ∧ (∀ j (hj : j < ls.length), w.cell? ⟨g, j, none⟩ = some (.string (strOf ls[j]))) ∧ (∀ j, w.frozen? ⟨g, j, none⟩ = false) ∧ ls.length ≤ cap ∧ cap ≤ maxLen := by
  have h' := h
  rcases h.2 with ⟨hv, hn⟩ | ⟨g, cap, cur, hv, hb, hg, hc, hm, hs, ht⟩
  · exact .inl ⟨hv, List.eq_nil_of_length_eq_zero hn⟩
  · subst hv
    refine .inr ⟨g, cap, rfl, hb, (Array.getElem?_eq_some_iff.1 hg).1, fun j hj => ?_, fun j => World.ownsRow.frozenAt h' j, hc, hm⟩
    rw [World.ownsRow.cellAt h' j (by omega), List.getElem?_map, List.getElem?_eq_getElem hj]; rfl
theorem Strs.below {w w' : World} {B C : Nat} {v : Value} {ls : List (List UInt8)} (h : Strs w B v ls) (hb : Below C w w') (hC : v.ownBlock = none ∨ ∃ g, v.ownBlock = some g ∧ g < C) : Strs w' B v ls := by
  unfold Strs at *
  refine ⟨h.1, ?_⟩
  rcases h.2 with hn | ⟨g, cap, cur, hv, hb2, hg, rest⟩
  · exact .inl hn
  · refine .inr ⟨g, cap, cur, hv, hb2, ?_, rest⟩
    rcases hC with hC | ⟨g', hg', hlt⟩
    · subst hv; simp [Value.ownBlock] at hC
    · subst hv
      simp [Value.ownBlock] at hg'
      subst hg'
      rw [hb.block _ hlt]; exact hg
/-- A row stands where nothing of the old blocks turns. -/
theorem Strs.on {w w' : World} {B : Nat} {v : Value} {ls : List (List UInt8)} (h : Strs w B v ls) (hb : Below w.heap.size w w') : Strs w' B v ls := by
  refine h.below hb ?_
  rcases h.form with ⟨rfl, _⟩ | ⟨g, cap, rfl, _, hlt, _⟩
  · exact .inl rfl
  · exact .inr ⟨g, rfl, hlt⟩

theorem Strs.own {w : World} {B : Nat} {v : Value} {ls : List (List UInt8)} (h : Strs w B v ls) : w.ownsRow B 9 1 v ls.length (ls.map fun l => Value.string (strOf l)) := h
/-- Behind 'append(v, l)'. -/
theorem Strs.snoc {w : World} {B : Nat} {v : Value} {ls : List (List UInt8)} {l : List UInt8} {b : ByteArray} (hb : b = strOf l) (h : w.ownsRow B 9 1 v (ls.length + 1) ((ls.map fun l => Value.string (strOf l)) ++ [.string b])) : Strs w B v (ls ++ [l]) := by
  subst hb
  unfold Strs
  rw [List.length_append, List.map_append]
  exact h
theorem Strs.grown {w w0 w1 : World} {B : Nat} {v : Value} {ls : List (List UInt8)} {o : Obj} (h : Strs w B v ls) (hb : Below B w0 w) (hB : B ≤ w.heap.size) (hg : (w.alloc o).grownBy w1 v.ownBlock) : Below B w0 w1 :=
  (hb.alloc hB o).grown hg (by simp; omega) (fun k e => (World.ownsRow.lt h k e).1)


theorem addr_add0 (b o j : Nat) : (⟨b, o, none⟩ : Addr).add j = ⟨b, o + j, none⟩ := by
  unfold Addr.add; split <;> simp_all

theorem conv1 (w : World) (x : Int) (c : UInt8) (hx : x = c.toNat) :
    (convert 22 9 (.slice (some ⟨w.heap.size, 0, none⟩) 1 1)).run Tryz.prog (w.alloc (.cells #[.int .u8 x] 5)) = .ok (.string (strOf [c])) (w.alloc (.cells #[.int .u8 x] 5)) := by
  subst hx
  have e := run_convert_bytes_back (P := Tryz.prog) (w.alloc (.cells #[.int .u8 (c.toNat : Int)] 5)) 22 9 5 ⟨w.heap.size, 0, none⟩ 1 [c] Tryz.underlying22 Tryz.underlying5 Tryz.underlying9 (fun j hj => by
    obtain rfl : j = 0 := by simp at hj; omega
    rw [addr_add0, World.cell?_alloc_at _ _ _ _ rfl]; rfl)
  exact e

theorem digB_val (d : Nat) (h : d < 10) : ((digB d).toNat : Int) = 48 + d := by
  unfold digB
  rw [UInt8.toNat_ofNat', Nat.mod_eq_of_lt (by omega)]; omega

def markL (k : Nat) : List UInt8 := 109 :: Lib.decDigits k

set_option maxRecDepth 100000 in
set_option maxHeartbeats 400000 in
theorem markText (n : Nat) (w : World) (h0 : 1 ≤ n) (hn : n ≤ 9223372036854775807) :
    Calls Tryz.prog 89 #[.int .i64 n] w fun e w' => e = .returned (.string (strOf (markL n))) ∧ Below w.heap.size w w' := by
  have hl : (Lib.decDigits n).length ≤ 20 := by rw [Lib.decDigits_length]; exact Lib.nDigits_le20 n (by omega)
  go_enter Tryz.func89, Tryz.ntmps89
  go_wp2
  go_loopw [0, 3] (fun m out W => ∃ (u : Nat) (o : List UInt8), u ≤ n ∧ m = .int .i64 u ∧ out = .string (strOf o) ∧ Lib.decDigits n = headDigits u ++ o ∧ Below w.heap.size w W) (fun m _ _ => (intOf m).toNat)
  case atStart => exact ⟨n, [], Nat.le_refl _, rfl, rfl, by simp [headDigits]; omega, Below.refl _ _⟩
  case round =>
    obtain ⟨u, o, hu, rfl, rfl, ho, hb⟩ := hrel
    have hlo : o.length ≤ 20 := by have := congrArg List.length ho; simp at this; omega
    have HO := Lib.hid ho
    clear ho
    by_cases hz : u = 0
    · subst hz
      have hadd := run_add [109] o (by simp; omega)
      rw [show strOf [109] = (⟨#[109]⟩ : ByteArray) from rfl] at hadd
      go_wp2
      go_ret
      exact ⟨ret_str (by unfold markL; rw [HO.out]; simp [headDigits]), hb⟩
    · have hz1 : 1 ≤ (u : Int) := by omega
      have hadd := run_add [digB (u % 10)] o (by simp; omega)
      have hcv := conv1 wr (48 + (u : Int) % 10) (digB (u % 10)) (by rw [digB_val _ (by omega)]; omega)
      go_wp2
      go_roundw
      case rel => exact ⟨u / 10, _, by omega, by go_num, rfl, by rw [HO.out, headDigits_step u hz]; simp, hb.alloc hb.size _⟩
      case measure => simp [intOf]; omega
theorem markTextI (x : Int) (n : Nat) (w : World) (hx : x = n) (h0 : 1 ≤ n) (hn : n ≤ 9223372036854775807) :
    Calls Tryz.prog 89 #[.int .i64 x] w fun e w' => e = .returned (.string (strOf (markL n))) ∧ Below w.heap.size w w' := by
  subst hx; exact markText n w h0 hn



end Go.Proofs.YtipedabppgbfcaaGreatDoor
