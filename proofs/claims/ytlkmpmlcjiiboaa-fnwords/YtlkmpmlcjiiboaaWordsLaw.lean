/- Proved: laws.FnWords answers true at every code: words come back from their texts between two bytes 34, and lines from theirs, and impl.Words tells what spec.Words tells; the argument reads as before. No condition. -/
import Derived.Test.YtlkmpmlcjiiboaaDrawTexts
import Derived.Test.YtlkmpmlcjiiboaaImplWords
namespace Go.Proofs.Ytlkmpmlcjiiboaa
open Go.RowKit

def joinL (ls : List (List UInt8)) : List UInt8 := ls.flatMap fun w => 34 :: (w ++ [34, 32])
def textL (ls : List (List UInt8)) : List UInt8 := ls.flatMap fun l => l ++ [10]

theorem wGo_noQ : ∀ (r cur : List UInt8) (bg qt : Bool), (34 : UInt8) ∉ cur → ∀ w ∈ wGo cur bg qt r, (34 : UInt8) ∉ w
  | [], cur, bg, qt, h, w, hw => by
    unfold wGo at hw
    split at hw
    · simp at hw; rw [hw]; exact h
    · simp at hw
  | c :: r, cur, bg, qt, h, w, hw => by
    unfold wGo at hw
    split at hw
    · exact wGo_noQ r cur true (!qt) h w hw
    · rename_i hc
      split at hw
      · exact wGo_noQ r (cur ++ [c]) true qt (by simp; exact ⟨h, fun e => hc e.symm⟩) w hw
      · split at hw
        · simp at hw
          rcases hw with rfl | hw
          · exact h
          · exact wGo_noQ r [] false false (by simp) w hw
        · exact wGo_noQ r [] false false (by simp) w hw
theorem wGo_size : ∀ (r cur : List UInt8) (bg qt : Bool), ∀ w ∈ wGo cur bg qt r, w.length ≤ cur.length + r.length
  | [], cur, bg, qt, w, hw => by
    unfold wGo at hw
    split at hw
    · simp at hw; rw [hw]; simp
    · simp at hw
  | c :: r, cur, bg, qt, w, hw => by
    unfold wGo at hw
    split at hw
    · have := wGo_size r cur true (!qt) w hw; simp; omega
    · split at hw
      · have := wGo_size r (cur ++ [c]) true qt w hw; simp at this ⊢; omega
      · split at hw
        · simp at hw
          rcases hw with rfl | hw
          · simp
          · have := wGo_size r [] false false w hw; simp at this ⊢; omega
        · have := wGo_size r [] false false w hw; simp at this ⊢; omega
theorem wGo_quoted : ∀ (w cur rest : List UInt8), (34 : UInt8) ∉ w → wGo cur true true (w ++ 34 :: 32 :: rest) = (cur ++ w) :: wGo [] false false rest
  | [], cur, rest, _ => by
    rw [List.nil_append, wGo, if_pos rfl, wGo, if_neg (by decide), if_neg (by decide), if_pos rfl, List.append_nil]
  | c :: w, cur, rest, h => by
    simp at h
    rw [List.cons_append, wGo, if_neg (fun e => h.1 e.symm), if_pos rfl, wGo_quoted w (cur ++ [c]) rest h.2]
    simp
theorem words_join : ∀ ls : List (List UInt8), (∀ w ∈ ls, (34 : UInt8) ∉ w) → wordsL (joinL ls) = ls
  | [], _ => rfl
  | w :: ls, h => by
    have e : joinL (w :: ls) = 34 :: (w ++ 34 :: 32 :: joinL ls) := by simp [joinL]
    rw [wordsL, e, wGo, if_pos rfl]
    have := wGo_quoted w [] (joinL ls) (h w (by simp))
    simp only [Bool.not_false] at *
    rw [this]
    simp only [List.nil_append]
    congr 1
    exact words_join ls (fun x hx => h x (by simp [hx]))
theorem lines_text : ∀ (r cur : List UInt8), textL (linesGo cur r) = cur ++ r ∨ (textL (linesGo cur r) = cur ++ r ++ [10] ∧ cur ++ r ≠ [])
  | [], cur => by
    unfold linesGo
    split
    · rename_i h; left; simp [h, textL]
    · rename_i h; right; simp [textL, h]
  | c :: r, cur => by
    unfold linesGo
    split
    · rename_i h
      have e : textL (cur :: linesGo [] r) = cur ++ 10 :: textL (linesGo [] r) := by simp [textL]
      rw [e, h]
      rcases lines_text r [] with h2 | ⟨h2, h3⟩
      · left; rw [h2]; simp
      · right; rw [h2]; simp
    · rcases lines_text r (cur ++ [c]) with h2 | ⟨h2, h3⟩
      · left; rw [h2]; simp
      · right; rw [h2]; simp
theorem joinL_take (ls : List (List UInt8)) (k : Nat) (h : k < ls.length) : joinL (ls.take (k + 1)) = ((joinL (ls.take k) ++ [34]) ++ ls[k]) ++ [34, 32] := by
  rw [List.take_succ_eq_append_getElem h]; unfold joinL; rw [List.flatMap_append]; simp only [List.flatMap_cons, List.flatMap_nil, List.append_nil, List.append_assoc, List.cons_append, List.nil_append]
theorem textL_take (ls : List (List UInt8)) (k : Nat) (h : k < ls.length) : textL (ls.take (k + 1)) = (textL (ls.take k) ++ ls[k]) ++ [10] := by
  rw [List.take_succ_eq_append_getElem h]; unfold textL; rw [List.flatMap_append]; simp only [List.flatMap_cons, List.flatMap_nil, List.append_nil, List.append_assoc]

set_option maxHeartbeats 400000 in
theorem sameTexts_t (w : World) (B1 B2 : Nat) (v1 v2 : Value) (ls : List (List UInt8)) (h1 : Strs w B1 v1 ls) (h2 : Strs w B2 v2 ls) :
    Calls Try.prog 13 #[v1, v2] w fun e w' => e = .returned (.bool true) ∧ ∃ n, w' = w.drewN n := by
  cases hls : ls with
  | nil =>
    obtain ⟨a1, c1, rfl⟩ : ∃ a1 c1, v1 = .slice a1 0 c1 := by
      rcases h1.form with ⟨rfl, _⟩ | ⟨g, cap, rfl, _⟩
      · exact ⟨_, _, rfl⟩
      · subst hls; exact ⟨_, _, rfl⟩
    obtain ⟨a2, c2, rfl⟩ : ∃ a2 c2, v2 = .slice a2 0 c2 := by
      rcases h2.form with ⟨rfl, _⟩ | ⟨g, cap, rfl, _⟩
      · exact ⟨_, _, rfl⟩
      · subst hls; exact ⟨_, _, rfl⟩
    clear h1 h2 hls
    go_enter Try.func13, Try.ntmps13
    go_wp2
    go_loop [5] (fun i => i = .int .i64 0) (fun _ => 0)
    case atStart => rfl
    case round =>
      subst hrel
      go_wp2
      go_ret
      exact ⟨rfl, 0, rfl⟩
  | cons l0 lr =>
    rcases h1.form with ⟨_, hn⟩ | ⟨g1, cap1, rfl, _, _, hc1, _, hl1, hm1⟩
    · rw [hls] at hn; cases hn
    rcases h2.form with ⟨_, hn⟩ | ⟨g2, cap2, rfl, _, _, hc2, _, hl2, hm2⟩
    · rw [hls] at hn; cases hn
    clear hls h1 h2
    unfold maxLen at hm1 hm2
    have HC1 := Lib.hid hc1
    have HC2 := Lib.hid hc2
    clear hc1 hc2
    go_enter Try.func13, Try.ntmps13
    go_wp2
    go_loopw [5] (fun i W => ∃ k n : Nat, k ≤ ls.length ∧ i = .int .i64 k ∧ W = w.drewN n) (fun i _ => ls.length - (intOf i).toNat)
    case atStart => exact ⟨0, 0, Nat.zero_le _, rfl, rfl⟩
    case round =>
      obtain ⟨k, n, hk, rfl, rfl⟩ := hrel
      by_cases h : k < ls.length
      · have hk1 := HC1.out k h
        have hk2 := HC2.out k h
        have hki : (k : Int) < (ls.length : Int) := by omega
        go_wp2
        go_quiet (fail)
        go_wp2
        go_roundw
        case rel => exact ⟨k + 1, _, by omega, by go_num, rfl⟩
        case measure => simp [intOf]; omega
      · go_wp2
        go_ret
        exact ⟨rfl, _, rfl⟩
theorem bigF (a : Option Addr) (len cap : Nat) (w : World) (h : len ≤ 1048576) : Calls Try.prog 10 #[.slice a len cap] w fun e w' => e = .returned (.bool false) ∧ w = w' := by
  have h2 : (len : Int) ≤ 1048576 := by omega
  go_enter Try.func10, Try.ntmps10
  go_wp2
  go_ret
  exact ⟨ret_bool (by simp; omega), rfl⟩
theorem bigT (a : Option Addr) (len cap : Nat) (w : World) (h : ¬ len ≤ 1048576) : Calls Try.prog 10 #[.slice a len cap] w fun e w' => e = .returned (.bool true) ∧ w = w' := by
  have h2 : 1048576 < (len : Int) := by omega
  go_enter Try.func10, Try.ntmps10
  go_wp2
  go_ret
  exact ⟨ret_bool (by first | (simp; done) | (simp; omega)), rfl⟩


theorem words_law_len (s : List UInt8) (hs : s.length ≤ 40) : (∀ w ∈ wordsL s, w.length ≤ 40) ∧ (wordsL s).length ≤ 41 ∧ ∀ w ∈ wordsL s, (34 : UInt8) ∉ w :=
  ⟨fun w hw => by have := wGo_size s [] false false w hw; simp at this; omega, by have := wGo_len s [] false false; unfold wordsL; omega, fun w hw => wGo_noQ s [] false false (by simp) w hw⟩
theorem joinL_len (ls : List (List UInt8)) (h : ∀ w ∈ ls, w.length ≤ 40) (k : Nat) : (joinL (ls.take k)).length ≤ 43 * k := by
  induction k with
  | zero => simp [joinL]
  | succ k ih =>
    by_cases hk : k < ls.length
    · rw [joinL_take ls k hk]
      have := h ls[k] (List.getElem_mem hk)
      simp; omega
    · rw [List.take_of_length_le (by omega)] at ih ⊢; omega
theorem textL_len (ls : List (List UInt8)) (h : ∀ w ∈ ls, w.length ≤ 40) (k : Nat) : (textL (ls.take k)).length ≤ 43 * k := by
  induction k with
  | zero => simp [textL]
  | succ k ih =>
    by_cases hk : k < ls.length
    · rw [textL_take ls k hk]
      have := h ls[k] (List.getElem_mem hk)
      simp; omega
    · rw [List.take_of_length_le (by omega)] at ih ⊢; omega
theorem linesGo_size : ∀ (r cur : List UInt8), ∀ w ∈ linesGo cur r, w.length ≤ cur.length + r.length
  | [], cur, w, hw => by
    unfold linesGo at hw
    split at hw
    · simp at hw
    · simp at hw; rw [hw]; simp
  | c :: r, cur, w, hw => by
    unfold linesGo at hw
    split at hw
    · simp at hw
      rcases hw with rfl | hw
      · simp
      · have := linesGo_size r [] w hw; simp at this ⊢; omega
    · have := linesGo_size r (cur ++ [c]) w hw; simp at this ⊢; omega

theorem Strs.slice {w : World} {B : Nat} {v : Value} {ls : List (List UInt8)} (h : Strs w B v ls) : ∃ ao cp, v = .slice ao ls.length cp := by
  rcases h.form with ⟨rfl, rfl⟩ | ⟨g, cap, rfl, _⟩
  · exact ⟨_, _, rfl⟩
  · exact ⟨_, _, rfl⟩
theorem Strs.at {w : World} {B n cp : Nat} {ao : Option Addr} {ls : List (List UInt8)} (h : Strs w B (.slice ao n cp) ls) (j : Nat) (hj : j < ls.length) : ∃ g, ao = some ⟨g, 0, none⟩ ∧ w.cell? ⟨g, j, none⟩ = some (.string (strOf ls[j])) := by
  rcases h.form with ⟨_, rfl⟩ | ⟨g, cap, hv, _, _, hc, _⟩
  · simp at hj
  · cases hv; exact ⟨g, rfl, hc j hj⟩
theorem nil_text {l : List UInt8} (h : l ≠ []) : (strOf l).toList.isEmpty = false := by
  rw [Lib.toList_data, strOf_data]
  cases l with
  | nil => exact absurd rfl h
  | cons a t => rfl
theorem text_eq (a b : List UInt8) : ((strOf a).toList == (strOf b).toList) = (a == b) := by
  rw [Lib.toList_data, Lib.toList_data, strOf_data, strOf_data]

set_option maxRecDepth 100000 in
set_option maxHeartbeats 4000000 in
theorem walkFnWords (a : Option Addr) (len cap : Nat) (zs : List Int) (w : World) (hr : IsRow .u8 w a len cap zs) :
    Calls Try.prog 3 #[.slice a len cap] w fun e w' => e = .returned (.bool true) ∧ Below w.heap.size w w' := by
  by_cases hlen : len ≤ 1048576
  · go_enter Try.func3, Try.ntmps3
    go_wp2_with fail
    refine (bigF _ _ _ _ hlen).mono ?_
    rintro e w' ⟨rfl, rfl⟩
    go_wp2_with fail
    refine (specDrawWords w _ a len cap zs hr (Below.refl _ _) hlen).mono ?_
    rintro e W1 ⟨rfl, hsz, hb1⟩
    obtain ⟨s, hs⟩ : ∃ s, dwText zs len = s := ⟨_, rfl⟩
    have HD1 := Lib.hid hs
    rw [hs] at hsz ⊢
    clear hs
    obtain ⟨hw40, hw41, hwq⟩ := words_law_len s hsz
    obtain ⟨ls, hls⟩ : ∃ ls, wordsL s = ls := ⟨_, rfl⟩
    have HLS := Lib.hid hls
    rw [hls] at hw40 hw41 hwq
    clear hls
    have Hw40 := Lib.hid hw40
    have Hwq := Lib.hid hwq
    clear hw40 hwq
    go_wp2_with fail
    refine (implWords (strOf s) _ (by rw [strOf_size]; omega)).mono ?_
    rintro e W2 ⟨v, rfl, hS, hb2⟩
    rw [strOf_data, HLS.out] at hS
    obtain ⟨ao, cp, rfl⟩ := hS.slice
    have hB2 : Below w.heap.size w W2 := hb1.trans (hb2.mono hb1.size)
    go_wp2_with fail
    refine (specDrawWords w _ a len cap zs hr hB2 hlen).mono ?_
    rintro e W3 ⟨rfl, _, hb3⟩
    rw [HD1.out]
    have hB3 := hB2.trans (hb3.mono hB2.size)
    have hS3 := hS.on hb3
    go_wp2_with fail
    refine (specWords (strOf s) _ (by rw [strOf_size]; omega)).mono ?_
    rintro e W4 ⟨v4, rfl, hS4, hb4⟩
    rw [strOf_data, HLS.out] at hS4
    have hB4 := hB3.trans (hb4.mono hB3.size)
    have hS3' := hS3.on hb4
    go_wp2_with fail
    refine (sameTexts_t _ _ _ _ _ ls hS3' hS4).mono ?_
    rintro e W5 ⟨rfl, n5, rfl⟩
    have hB5 : Below w.heap.size w (W4.drewN n5) := below_drewN hB4 n5
    have hS5 := hS3'.on (below_drewN (Below.refl _ _) n5)
    clear hS hS3 hS3' hS4 hB2 hB3 hB4 hb1 hb2 hb3 hb4
    go_wp2
    go_loop [4, 5] (fun jv i => ∃ k : Nat, k ≤ ls.length ∧ i = .int .i64 k ∧ jv = .string (strOf (joinL (ls.take k)))) (fun _ i => ls.length - (intOf i).toNat)
    case atStart => exact ⟨0, Nat.zero_le _, rfl, rfl⟩
    case round =>
      obtain ⟨k, hk, rfl, rfl⟩ := hrel
      by_cases h1 : k < ls.length
      · obtain ⟨g, rfl, hcell⟩ := hS5.at k h1
        have hjl := joinL_len ls Hw40.out k
        have hl40 := Hw40.out ls[k] (List.getElem_mem h1)
        have HJ := Lib.hid (joinL_take ls k h1)
        obtain ⟨l, hl⟩ : ∃ l, ls[k] = l := ⟨_, rfl⟩
        obtain ⟨jj, hjj⟩ : ∃ jj, joinL (ls.take k) = jj := ⟨_, rfl⟩
        rw [hl, hjj] at HJ
        rw [hl] at hcell hl40
        rw [hjj] at hjl ⊢
        have ha1 := run_add jj [34] (by simp; omega)
        have ha2 := run_add (jj ++ [34]) l (by simp; omega)
        have ha3 := run_add ((jj ++ [34]) ++ l) [34, 32] (by simp; omega)
        rw [show strOf [34] = (⟨#[34]⟩ : ByteArray) from rfl] at ha1
        rw [show strOf [34, 32] = (⟨#[34, 32]⟩ : ByteArray) from rfl] at ha3
        obtain ⟨r1, hr1⟩ : ∃ r, jj ++ [34] = r := ⟨_, rfl⟩
        rw [hr1] at ha1 ha2 ha3 HJ
        obtain ⟨r2, hr2⟩ : ∃ r, r1 ++ l = r := ⟨_, rfl⟩
        rw [hr2] at ha2 ha3 HJ
        obtain ⟨r3, hr3⟩ : ∃ r, r2 ++ [34, 32] = r := ⟨_, rfl⟩
        rw [hr3] at ha3 HJ
        have hki : (k : Int) < (ls.length : Int) := by omega
        clear hl hjj hr1 hr2 hr3
        go_wp2
        go_round
        case rel => exact ⟨k + 1, by omega, by go_num, by rw [HJ.out]⟩
        case measure => simp [intOf]; omega
      · obtain rfl : k = ls.length := by omega
        rw [List.take_length]
        have hjl := joinL_len ls Hw40.out ls.length
        rw [List.take_length] at hjl
        have HWJ := Lib.hid (words_join ls Hwq.out)
        obtain ⟨jj, hjj⟩ : ∃ jj, joinL ls = jj := ⟨_, rfl⟩
        rw [hjj] at hjl HWJ ⊢
        clear hjj
        go_wp2_with fail
        refine (specDrawLines w _ a len cap zs hr hB5 hlen).mono ?_
        rintro e W6 ⟨rfl, htz, hb6⟩
        obtain ⟨t, ht⟩ : ∃ t, dlText zs len = t := ⟨_, rfl⟩
        rw [ht] at htz ⊢
        clear ht
        have hB6 := hB5.trans (hb6.mono hB5.size)
        have hS6 := hS5.on hb6
        have HLT := Lib.hid (lines_text t [])
        have hl40 : ∀ l ∈ linesL t, l.length ≤ 40 := fun l hl => by have := linesGo_size t [] l hl; simp at this; omega
        have hl13 : (linesL t).length ≤ 13 := by have := linesGo_len t []; unfold linesL; omega
        rw [show linesGo [] t = linesL t from rfl, List.nil_append] at HLT
        obtain ⟨ms, hms⟩ : ∃ ms, linesL t = ms := ⟨_, rfl⟩
        have HMS := Lib.hid hms
        rw [hms] at HLT hl40 hl13
        have Hl40 := Lib.hid hl40
        clear hms hl40
        go_wp2_with fail
        refine (implLines (strOf t) _ (by rw [strOf_size]; omega)).mono ?_
        rintro e W7 ⟨v7, rfl, hS7, hb7⟩
        rw [strOf_data, HMS.out] at hS7
        obtain ⟨ao7, cp7, rfl⟩ := hS7.slice
        have hB7 := hB6.trans (hb7.mono hB6.size)
        have hS67 := hS6.on hb7
        clear hS5 hB5 hS6 hB6 hb6 hb7
        go_wp2
        go_loop [8, 9] (fun jv i => ∃ k : Nat, k ≤ ms.length ∧ i = .int .i64 k ∧ jv = .string (strOf (textL (ms.take k)))) (fun _ i => ms.length - (intOf i).toNat)
        case atStart => exact ⟨0, Nat.zero_le _, rfl, rfl⟩
        case round =>
          obtain ⟨k, hk2, rfl, rfl⟩ := hrel
          by_cases h2 : k < ms.length
          · obtain ⟨g, rfl, hcell⟩ := hS7.at k h2
            have htl := textL_len ms Hl40.out k
            have hl40 := Hl40.out ms[k] (List.getElem_mem h2)
            have HJ := Lib.hid (textL_take ms k h2)
            obtain ⟨l, hl⟩ : ∃ l, ms[k] = l := ⟨_, rfl⟩
            obtain ⟨tt, htt⟩ : ∃ tt, textL (ms.take k) = tt := ⟨_, rfl⟩
            rw [hl, htt] at HJ
            rw [hl] at hcell hl40
            rw [htt] at htl ⊢
            have ha1 := run_add tt l (by omega)
            have ha2 := run_add (tt ++ l) [10] (by simp; omega)
            rw [show strOf [10] = (⟨#[10]⟩ : ByteArray) from rfl] at ha2
            obtain ⟨r1, hr1⟩ : ∃ r, tt ++ l = r := ⟨_, rfl⟩
            rw [hr1] at ha1 ha2 HJ
            obtain ⟨r2, hr2⟩ : ∃ r, r1 ++ [10] = r := ⟨_, rfl⟩
            rw [hr2] at ha2 HJ
            have hki : (k : Int) < (ms.length : Int) := by omega
            clear hl htt hr1 hr2
            go_wp2
            go_round
            case rel => exact ⟨k + 1, by omega, by go_num, by rw [HJ.out]⟩
            case measure => simp [intOf]; omega
          · obtain rfl : k = ms.length := by omega
            rw [List.take_length]
            rcases HLT.out with ht | ⟨ht, hne⟩
            · rw [ht]
              have he : ((strOf t).toList == (strOf t).toList) = true := by rw [text_eq]; exact beq_self_eq_true t
              go_wp2_with fail
              refine (implWords (strOf jj) _ (by rw [strOf_size]; omega)).mono ?_
              rintro e W8 ⟨v8, rfl, hS8, hb8⟩
              rw [strOf_data, HWJ.out] at hS8
              go_wp2_with fail
              refine (sameTexts_t _ _ _ _ _ ls hS8 (hS67.on hb8)).mono ?_
              rintro e W9 ⟨rfl, n9, rfl⟩
              go_wp2
              go_ret
              exact ⟨rfl, below_drewN (hB7.trans (hb8.mono hB7.size)) n9⟩
            · rw [ht]
              have ha := run_add t [10] (by simp; omega)
              rw [show strOf [10] = (⟨#[10]⟩ : ByteArray) from rfl] at ha
              have he : ((strOf (t ++ [10])).toList == (strOf t).toList) = false := by rw [text_eq, beq_eq_false_iff_ne]; intro e; have := congrArg List.length e; simp at this
              have he2 : ((strOf (t ++ [10])).toList == (strOf (t ++ [10])).toList) = true := by rw [text_eq]; exact beq_self_eq_true _
              have hnn := nil_text hne
              obtain ⟨t1, ht1⟩ : ∃ t1, t ++ [10] = t1 := ⟨_, rfl⟩
              rw [ht1] at ha he he2 ⊢
              clear ht1 hne
              go_wp2_with fail
              refine (implWords (strOf jj) _ (by rw [strOf_size]; omega)).mono ?_
              rintro e W8 ⟨v8, rfl, hS8, hb8⟩
              rw [strOf_data, HWJ.out] at hS8
              go_wp2_with fail
              refine (sameTexts_t _ _ _ _ _ ls hS8 (hS67.on hb8)).mono ?_
              rintro e W9 ⟨rfl, n9, rfl⟩
              go_wp2
              go_ret
              exact ⟨rfl, below_drewN (hB7.trans (hb8.mono hB7.size)) n9⟩
  · go_enter Try.func3, Try.ntmps3
    go_wp2_with (go_at_call 10; refine (bigT _ _ _ _ hlen).mono ?_; rintro e w' ⟨rfl, rfl⟩)
    go_ret
    exact ⟨rfl, Below.refl _ _⟩
end Go.Proofs.Ytlkmpmlcjiiboaa
