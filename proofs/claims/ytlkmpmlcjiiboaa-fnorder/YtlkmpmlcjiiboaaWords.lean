/- The words of a text, and the contract of spec.Words. -/
import Derived.Test.YtlkmpmlcjiiboaaLines
namespace Go.Proofs.Ytlkmpmlcjiiboaa
open Go.RowKit

def blankB (c : UInt8) : Bool := c == 32 || c == 9
/-- The words of what is left: cur is what the word under way holds, bg whether one is under way, qt whether within bytes 34. -/
def wGo : List UInt8 → Bool → Bool → List UInt8 → List (List UInt8)
  | cur, bg, _, [] => if bg then [cur] else []
  | cur, bg, qt, c :: r =>
    if c = 34 then wGo cur true (!qt) r
    else if qt || !blankB c then wGo (cur ++ [c]) true qt r
    else if bg then cur :: wGo [] false false r else wGo [] false false r
def wordsL (l : List UInt8) : List (List UInt8) := wGo [] false false l

theorem wGo_len : ∀ (r cur : List UInt8) (bg qt : Bool), (wGo cur bg qt r).length ≤ r.length + 1
  | [], cur, bg, qt => by unfold wGo; split <;> simp
  | c :: r, cur, bg, qt => by
    unfold wGo
    split
    · have := wGo_len r cur true (!qt); simp; omega
    · split
      · have := wGo_len r (cur ++ [c]) true qt; simp; omega
      · split
        · have := wGo_len r [] false false; simp; omega
        · have := wGo_len r [] false false; simp; omega

theorem w_quote (s : ByteArray) (cur : List UInt8) (bg qt : Bool) (k : Nat) (h : k < s.size) (hc : s[k].toNat = 34) :
    wGo cur bg qt (s.data.toList.drop k) = wGo cur true (!qt) (s.data.toList.drop (k + 1)) := by
  rw [drop_at s k h, wGo, if_pos (UInt8.toNat_inj.mp (by simpa using hc))]
theorem w_sign (s : ByteArray) (cur : List UInt8) (bg qt : Bool) (k : Nat) (h : k < s.size) (hc : ¬ s[k].toNat = 34) (hb : (qt || !blankB s[k]) = true) :
    wGo cur bg qt (s.data.toList.drop k) = wGo (cur ++ [s[k]]) true qt (s.data.toList.drop (k + 1)) := by
  rw [drop_at s k h, wGo, if_neg (by intro e; apply hc; rw [e]; rfl), if_pos hb]
theorem w_blank (s : ByteArray) (cur : List UInt8) (bg qt : Bool) (k : Nat) (h : k < s.size) (hb : (qt || !blankB s[k]) = false) :
    wGo cur bg qt (s.data.toList.drop k) = (if bg then [cur] else []) ++ wGo [] false false (s.data.toList.drop (k + 1)) := by
  have hc : ¬ s[k] = 34 := by intro e; rw [e] at hb; simp [blankB] at hb
  rw [drop_at s k h, wGo, if_neg hc, if_neg (by rw [hb]; decide)]
  cases bg <;> simp
theorem w_end (s : ByteArray) (cur : List UInt8) (bg qt : Bool) (k : Nat) (h : s.size ≤ k) : wGo cur bg qt (s.data.toList.drop k) = if bg then [cur] else [] := by
  rw [show s.data.toList.drop k = [] from List.drop_eq_nil_of_le (by simpa using h), wGo]
/-- A word begins with what is no blank. -/
theorem w_begin (s : ByteArray) (k : Nat) (h : k < s.size) (hb : blankB s[k] = false) :
    wGo [] false false (s.data.toList.drop k) = wGo [] true false (s.data.toList.drop k) := by
  by_cases hc : s[k].toNat = 34
  · rw [w_quote s _ _ _ k h hc, w_quote s _ _ _ k h hc]
  · rw [w_sign s _ _ _ k h hc (by rw [hb]; rfl), w_sign s _ _ _ k h hc (by rw [hb]; rfl)]

/-- The bytes of a text as cells. -/
def byteVals (l : List UInt8) : List Value := l.map fun c => Value.int .u8 (c.toNat : Int)
/-- The slice v, whose row lies from block B on, holds the bytes l. -/
def Bytes (w : World) (B : Nat) (v : Value) (l : List UInt8) : Prop := w.ownsRow B 5 1 v l.length (byteVals l)
theorem Bytes.own {w : World} {B : Nat} {v : Value} {l : List UInt8} (h : Bytes w B v l) : w.ownsRow B 5 1 v l.length (byteVals l) := h
theorem Bytes.snoc {w : World} {B : Nat} {v : Value} {l : List UInt8} {c : UInt8} (h : w.ownsRow B 5 1 v (l.length + 1) (byteVals l ++ [.int .u8 (c.toNat : Int)])) : Bytes w B v (l ++ [c]) := by
  unfold Bytes byteVals at *
  rw [List.length_append, List.map_append]
  exact h
theorem infoB : (Try.prog.info? 5).map (fun i => (i.zero, i.size, i.bytes)) = some (some (.int .u8 0), 1, 1) := by kernel_rfl

theorem Bytes.shape {w : World} {B : Nat} {v : Value} {l : List UInt8} (h : Bytes w B v l) : (v = .slice none 0 0 ∧ l = []) ∨ ∃ g cap cur, v = .slice (some ⟨g, 0, none⟩) l.length cap ∧ B ≤ g ∧ w.heap[g]? = some (.cells cur 5 (0, 0)) := by
  rcases h.2 with ⟨hv, hn⟩ | ⟨g, cap, cur, hv, hb, hg, _⟩
  · exact .inl ⟨hv, List.eq_nil_of_length_eq_zero hn⟩
  · exact .inr ⟨g, cap, cur, hv, hb, hg⟩

/-- string(v). -/
theorem conv_bytes {w : World} {B : Nat} {v : Value} {l : List UInt8} (h : Bytes w B v l) :
    (convert 22 9 v).run Try.prog w = .ok (.string (strOf l)) w := by
  rcases h.2 with ⟨hv, hn⟩ | ⟨g, cap, cur, hv, hb, hg, _⟩
  · obtain rfl := List.eq_nil_of_length_eq_zero hn
    subst hv
    rw [run_convert_bytes_string w 22 9 5 none 0 0 Try.underlying22 Try.underlying5 Try.underlying9]
    rfl
  · subst hv
    exact run_convert_bytes_back (P := Try.prog) w 22 9 5 ⟨g, 0, none⟩ cap l Try.underlying22 Try.underlying5 Try.underlying9 (fun j hj => by
      have := h.own.cells (g := g) rfl j (.int .u8 (l[j].toNat : Int)) (by simp [byteVals, hj])
      exact this)

/-- A list of texts stands where bytes are appended to. -/
theorem Strs.beside {w w1 : World} {B B' : Nat} {v v2 : Value} {ls : List (List UInt8)} {l : List UInt8} {o : Obj} (h : Strs w B v ls) (h2 : Bytes w B' v2 l) (hg : (w.alloc o).grownBy w1 v2.ownBlock) : Strs w1 B v ls := by
  refine (World.ownsRow.alloc h o).kept hg ?_
  rcases h.2 with ⟨rfl, _⟩ | ⟨g, cap, cur, rfl, _, hg1, _⟩
  · exact .inl rfl
  · refine .inr ?_
    rcases h2.2 with ⟨rfl, _⟩ | ⟨g2, cap2, cur2, rfl, _, hg2, _⟩
    · simp [Value.ownBlock]
    · simp only [Value.ownBlock]
      intro e
      cases e
      rw [hg1] at hg2
      cases hg2
theorem Bytes.grown {w w0 w1 : World} {B : Nat} {v : Value} {l : List UInt8} {o : Obj} (h : Bytes w B v l) (hb : Below B w0 w) (hB : B ≤ w.heap.size) (hg : (w.alloc o).grownBy w1 v.ownBlock) : Below B w0 w1 :=
  (hb.alloc hB o).grown hg (by simp; omega) (fun k e => (World.ownsRow.lt h k e).1)

theorem specBlank (c : UInt8) (w : World) :
    Calls Try.prog 33 #[.int .u8 c.toNat] w fun e w' => e = .returned (.bool (blankB c)) ∧ w = w' := by
  have key : ∀ n : Nat, n < 256 → (c == UInt8.ofNat n) = ((c.toNat : Int) == (n : Int)) := fun n hn => by
    rw [Bool.eq_iff_iff]; simp
    constructor
    · intro e; rw [e]; simp; omega
    · intro e; apply UInt8.toNat_inj.mp; simp; omega
  have e32 : (c == 32) = ((c.toNat : Int) == 32) := key 32 (by decide)
  have e9 : (c == 9) = ((c.toNat : Int) == 9) := key 9 (by decide)
  have hv : blankB c = (((c.toNat : Int) == 32) || ((c.toNat : Int) == 9)) := by unfold blankB; rw [e32, e9]
  rw [hv]
  clear hv e32 e9 key
  cases h1 : ((c.toNat : Int) == 32)
  · cases h2 : ((c.toNat : Int) == 9)
    · go_enter Try.func33, Try.ntmps33
      go_wp2
      go_ret
      exact ⟨rfl, rfl⟩
    · go_enter Try.func33, Try.ntmps33
      go_wp2
      go_ret
      exact ⟨rfl, rfl⟩
  · go_enter Try.func33, Try.ntmps33
    go_wp2
    go_ret
    exact ⟨rfl, rfl⟩

set_option maxRecDepth 100000 in
set_option maxHeartbeats 2000000 in
theorem specWords (s : ByteArray) (w : World) (hs : s.size ≤ 1048576) :
    Calls Try.prog 14 #[.string s] w fun e w' => ∃ v, e = .returned v ∧ Strs w' w.heap.size v (wordsL s.data.toList) ∧ Below w.heap.size w w' := by
  obtain ⟨i0, hi, hz0, hz1, hz2⟩ := info_parts infoS
  obtain ⟨j0, kj, kz0, kz1, kz2⟩ := info_parts infoB
  go_enter Try.func14, Try.ntmps14
  go_wp2
  go_loopw [3, 4, 5, 6] (fun out i _ _ W => ∃ (k : Nat) (acc : List (List UInt8)), k ≤ s.size ∧ i = .int .i64 k ∧ Strs W w.heap.size out acc ∧ Below w.heap.size w W ∧ acc.length ≤ k ∧ wordsL s.data.toList = acc ++ wGo [] false false (s.data.toList.drop k)) (fun _ i _ _ _ => s.size - (intOf i).toNat)
  case atStart => exact ⟨0, [], Nat.zero_le _, rfl, World.ownsRow_lit w #[] 0 (Nat.le_refl _) (by simp [maxLen]) (by simp), (Below.refl _ _).alloc (Nat.le_refl _) _, Nat.le_refl _, by simp [wordsL]⟩
  case round =>
    obtain ⟨k, acc, hk, rfl, hS, hb, hacc, hl⟩ := hrel
    have HL := Lib.hid hl
    have hsz := hb.size
    have HB := Lib.hid hb
    have HS := Lib.hid hS
    clear hl hb hS
    by_cases h1 : k < s.size
    · cases h2 : blankB s[k] with
      | true =>
        have HN := Lib.hid (w_blank s [] false false k h1 (by rw [h2]; rfl))
        go_wp2_with (go_at_call 33; refine (specBlank _ _).mono ?_; rintro e w' ⟨rfl, rfl⟩)
        go_roundw
        case rel => exact ⟨k + 1, acc, by omega, by go_num, HS.out, HB.out, by omega, by rw [HL.out, HN.out]; simp⟩
        case measure => simp [intOf]; omega
      | false =>
        have HN := Lib.hid (w_begin s k h1 h2)
        go_wp2_with (go_at_call 33; refine (specBlank _ _).mono ?_; rintro e w' ⟨rfl, rfl⟩)
        go_loopw [4, 5, 6] (fun i wv qv Wi => ∃ (k2 : Nat) (wd : List UInt8) (qt : Bool), k ≤ k2 ∧ k2 ≤ s.size ∧ i = .int .i64 k2 ∧ qv = .bool qt ∧ Bytes Wi w.heap.size wv wd ∧ wd.length ≤ k2 ∧ Strs Wi w.heap.size u3 acc ∧ Below w.heap.size w Wi ∧ (k2 = k → wd = [] ∧ qt = false) ∧ wordsL s.data.toList = acc ++ wGo wd true qt (s.data.toList.drop k2)) (fun i _ _ _ => s.size - (intOf i).toNat)
        case atStart => exact ⟨k, [], false, Nat.le_refl _, hk, rfl, rfl, World.ownsRow_lit wr #[] 0 (by omega) (by simp [maxLen]) (by simp), Nat.zero_le _, HS.out.on ((Below.refl _ _).alloc (Nat.le_refl _) _), HB.out.alloc hsz _, fun _ => ⟨rfl, rfl⟩, by rw [HL.out, HN.out]⟩
        case round =>
          obtain ⟨k2, wd, qt, hkk, hk2, rfl, rfl, hW, hwd, hS2, hb2, hfirst, hl2⟩ := hrel
          have HL2 := Lib.hid hl2
          have hsz2 := hb2.size
          have HB2 := Lib.hid hb2
          have HS2 := Lib.hid hS2
          have HW := Lib.hid hW
          have HF := Lib.hid hfirst
          clear hl2 hb2 hS2 hW hfirst HL HN HS HB
          by_cases g1 : k2 < s.size
          · cases g2 : (qt || !blankB s[k2]) with
            | true =>
              by_cases g3 : s[k2].toNat = 34
              · have g4 : ((s[k2].toNat : Int) == 34) = true := by simp [g3]
                have HQ := Lib.hid (w_quote s wd true qt k2 g1 g3)
                clear g3
                cases qt with
                | true =>
                  go_wp2
                  go_roundw
                  case rel => exact ⟨k2 + 1, wd, false, by omega, by omega, by go_num, rfl, HW.out, by omega, HS2.out, HB2.out, fun e => by omega, by rw [HL2.out, HQ.out]; rfl⟩
                  case measure => simp [intOf]; omega
                | false =>
                  have g5 : blankB s[k2] = false := by simpa using g2
                  clear g2
                  go_wp2_with (go_at_call 33; refine (specBlank _ _).mono ?_; rintro e w' ⟨rfl, rfl⟩)
                  go_roundw
                  case rel => exact ⟨k2 + 1, wd, true, by omega, by omega, by go_num, rfl, HW.out, by omega, HS2.out, HB2.out, fun e => by omega, by rw [HL2.out, HQ.out]; rfl⟩
                  case measure => simp [intOf]; omega
              · have g4 : ((s[k2].toNat : Int) == 34) = false := by simp; omega
                have HQ := Lib.hid (w_sign s wd true qt k2 g1 g3 g2)
                clear g3
                cases qt with
                | true =>
                  go_wp2_with (at_builtin; refine wpList_append_own _ rfl _ _ 22 rfl w.heap.size 5 j0 (.int .u8 0) 1 1 Try.underlying22 kj kz0 kz1 kz2 rfl (by decide) _ _ _ rfl (HW.out.own.alloc _) ⟨wr.heap.size, 0, none⟩ 1 1 [.int .u8 s[k2].toNat] rfl rfl (cell_one_new _ _ _) (by simp [Value.oneCell']) (by unfold maxLen; omega) (by omega) (by simp; omega) ?_; intro v' w1 hown' hgrow _)
                  go_roundw
                  case rel => exact ⟨k2 + 1, wd ++ [s[k2]], true, by omega, by omega, by go_num, rfl, Bytes.snoc hown', by simp; omega, HS2.out.beside HW.out hgrow, HW.out.grown HB2.out hsz2 hgrow, fun e => by omega, by rw [HL2.out, HQ.out]⟩
                  case measure => simp [intOf]; omega
                | false =>
                  have g5 : blankB s[k2] = false := by simpa using g2
                  clear g2
                  go_wp2_with (first | (go_at_call 33; refine (specBlank _ _).mono ?_; rintro e w' ⟨rfl, rfl⟩) | (at_builtin; refine wpList_append_own _ rfl _ _ 22 rfl w.heap.size 5 j0 (.int .u8 0) 1 1 Try.underlying22 kj kz0 kz1 kz2 rfl (by decide) _ _ _ rfl (HW.out.own.alloc _) ⟨wr.heap.size, 0, none⟩ 1 1 [.int .u8 s[k2].toNat] rfl rfl (cell_one_new _ _ _) (by simp [Value.oneCell']) (by unfold maxLen; omega) (by omega) (by simp; omega) ?_; intro v' w1 hown' hgrow _))
                  go_roundw
                  case rel => exact ⟨k2 + 1, wd ++ [s[k2]], false, by omega, by omega, by go_num, rfl, Bytes.snoc hown', by simp; omega, HS2.out.beside HW.out hgrow, HW.out.grown HB2.out hsz2 hgrow, fun e => by omega, by rw [HL2.out, HQ.out]⟩
                  case measure => simp [intOf]; omega
            | false =>
              obtain ⟨rfl, g5⟩ : qt = false ∧ blankB s[k2] = true := by
                cases qt with
                | true => simp at g2
                | false => simp at g2; exact ⟨rfl, g2⟩
              have hne : k < k2 := by
                rcases Nat.lt_or_ge k k2 with h | h
                · exact h
                · have e : k2 = k := by omega
                  subst e
                  rw [h2] at g5; cases g5
              have HQ := Lib.hid (w_blank s wd true false k2 g1 g2)
              have HQ2 := Lib.hid (w_blank s [] false false k2 g1 g2)
              have hcv := conv_bytes HW.out
              clear g2
              go_wp2_with (first | (go_at_call 33; refine (specBlank _ _).mono ?_; rintro e w' ⟨rfl, rfl⟩) | (at_builtin; refine wpList_append_own _ rfl _ _ 24 rfl w.heap.size 9 i0 (.string ⟨#[]⟩) 1 16 Try.underlying24 hi hz0 hz1 hz2 rfl (by decide) _ _ _ rfl (HS2.out.own.alloc _) ⟨wr.heap.size, 0, none⟩ 1 1 [.string (strOf wd)] rfl rfl (cell_one_new _ _ _) (by simp [Value.oneCell']) (by unfold maxLen; omega) (by omega) (by simp; omega) ?_; intro v' w1 hown' hgrow _))
              go_roundw
              case rel => exact ⟨k2, acc ++ [wd], by omega, rfl, Strs.snoc rfl hown', HS2.out.grown HB2.out hsz2 hgrow, by simp; omega, by rw [HL2.out, HQ.out, HQ2.out]; simp⟩
              case measure => simp [intOf]; omega
          · have hne : k < k2 := by omega
            have HQ := Lib.hid (w_end s wd true qt k2 (by omega))
            have HQ2 := Lib.hid (w_end s [] false false k2 (by omega))
            have hcv := conv_bytes HW.out
            go_wp2_with (at_builtin; refine wpList_append_own _ rfl _ _ 24 rfl w.heap.size 9 i0 (.string ⟨#[]⟩) 1 16 Try.underlying24 hi hz0 hz1 hz2 rfl (by decide) _ _ _ rfl (HS2.out.own.alloc _) ⟨wr.heap.size, 0, none⟩ 1 1 [.string (strOf wd)] rfl rfl (cell_one_new _ _ _) (by simp [Value.oneCell']) (by unfold maxLen; omega) (by omega) (by simp; omega) ?_; intro v' w1 hown' hgrow _)
            go_roundw
            case rel => exact ⟨k2, acc ++ [wd], by omega, rfl, Strs.snoc rfl hown', HS2.out.grown HB2.out hsz2 hgrow, by simp; omega, by rw [HL2.out, HQ.out, HQ2.out]; simp⟩
            case measure => simp [intOf]; omega
    · go_wp2
      go_ret
      exact ⟨_, rfl, by rw [HL.out, w_end s [] false false k (by omega)]; simpa using HS.out, HB.out⟩
end Go.Proofs.Ytlkmpmlcjiiboaa
