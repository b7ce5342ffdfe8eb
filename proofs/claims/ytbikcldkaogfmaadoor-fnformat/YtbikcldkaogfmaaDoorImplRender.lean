/- The contract of impl.Render. -/
import Derived.Test.YtbikcldkaogfmaaDoorPieces
import Derived.Test.YtbikcldkaogfmaaDoorLetters
import Derived.Test.YtbikcldkaogfmaaDoorImplDays
namespace Go.Proofs.YtbikcldkaogfmaaDoor
open Go.RowKit

/-- The cells of a moment. -/
def momA (x : Dt) : Array Value := #[.int .i64 x.y, .int .i64 x.mo, .int .i64 x.d, .int .i64 x.h, .int .i64 x.mi, .int .i64 x.s, .int .i64 (msum x.y x.mo + x.d), .int .i64 x.time]
def momN (x : Dt) (c : UInt8) : Int := if c = 89 then x.y else if c = 109 then x.mo else if c = 100 then x.d else if c = 72 then x.h else if c = 77 then x.mi else if c = 83 then x.s else if c = 106 then msum x.y x.mo + x.d else x.time
theorem pad_one (n : Int) (h : 0 ≤ n) : padV n 1 = Lib.itoa n := by
  unfold padV
  rw [if_neg (by omega)]
  refine padL_long _ _ ?_
  obtain ⟨u, rfl⟩ : ∃ u : Nat, n = u := ⟨n.toNat, by omega⟩
  rw [Lib.itoa_nonneg, Lib.decDigits_length]
  exact Lib.nDigits_pos u
theorem look_none (c : UInt8) (h : lookF c letL = none) (x : Dt) : fieldV c x = none := by
  unfold letL at h
  rw [lookF] at h
  by_cases k89 : 89 = c
  · rw [if_pos k89] at h; cases h
  rw [if_neg k89] at h
  rw [lookF] at h
  by_cases k109 : 109 = c
  · rw [if_pos k109] at h; cases h
  rw [if_neg k109] at h
  rw [lookF] at h
  by_cases k100 : 100 = c
  · rw [if_pos k100] at h; cases h
  rw [if_neg k100] at h
  rw [lookF] at h
  by_cases k72 : 72 = c
  · rw [if_pos k72] at h; cases h
  rw [if_neg k72] at h
  rw [lookF] at h
  by_cases k77 : 77 = c
  · rw [if_pos k77] at h; cases h
  rw [if_neg k77] at h
  rw [lookF] at h
  by_cases k83 : 83 = c
  · rw [if_pos k83] at h; cases h
  rw [if_neg k83] at h
  rw [lookF] at h
  by_cases k106 : 106 = c
  · rw [if_pos k106] at h; cases h
  rw [if_neg k106] at h
  rw [lookF] at h
  by_cases k115 : 115 = c
  · rw [if_pos k115] at h; cases h
  rw [if_neg k115] at h
  unfold fieldV
  rw [if_neg (Ne.symm k89), if_neg (Ne.symm k109), if_neg (Ne.symm k100), if_neg (Ne.symm k72), if_neg (Ne.symm k77), if_neg (Ne.symm k83), if_neg (Ne.symm k106), if_neg (Ne.symm k115)]
theorem look_some (c : UInt8) (f : Nat) (h : lookF c letL = some f) (x : Dt) (hx : x.Ok) :
    fieldV c x = some (padV (momN x c) (digF c)) ∧ (momA x)[offF c]? = some (.int .i64 (momN x c)) ∧ 0 ≤ momN x c ∧ momN x c ≤ 253402300799 := by
  obtain ⟨⟨y1, y2⟩, ⟨m1, m2⟩, ⟨d1, d2⟩, ⟨h1, h2⟩, ⟨i1, i2⟩, ⟨s1, s2⟩, j1, j2⟩ := hx.fields
  have ht := hx.time_bd
  unfold letL at h
  rw [lookF] at h
  by_cases k89 : 89 = c
  · subst k89; exact ⟨rfl, rfl, by show 0 ≤ x.y; omega, by show x.y ≤ _; omega⟩
  rw [if_neg k89] at h
  rw [lookF] at h
  by_cases k109 : 109 = c
  · subst k109; exact ⟨rfl, rfl, by show 0 ≤ (x.mo : Int); omega, by show (x.mo : Int) ≤ _; omega⟩
  rw [if_neg k109] at h
  rw [lookF] at h
  by_cases k100 : 100 = c
  · subst k100; exact ⟨rfl, rfl, by show 0 ≤ x.d; omega, by show x.d ≤ _; omega⟩
  rw [if_neg k100] at h
  rw [lookF] at h
  by_cases k72 : 72 = c
  · subst k72; exact ⟨rfl, rfl, by show 0 ≤ x.h; omega, by show x.h ≤ _; omega⟩
  rw [if_neg k72] at h
  rw [lookF] at h
  by_cases k77 : 77 = c
  · subst k77; exact ⟨rfl, rfl, by show 0 ≤ x.mi; omega, by show x.mi ≤ _; omega⟩
  rw [if_neg k77] at h
  rw [lookF] at h
  by_cases k83 : 83 = c
  · subst k83; exact ⟨rfl, rfl, by show 0 ≤ x.s; omega, by show x.s ≤ _; omega⟩
  rw [if_neg k83] at h
  rw [lookF] at h
  by_cases k106 : 106 = c
  · subst k106; exact ⟨rfl, rfl, by show 0 ≤ (msum x.y x.mo + x.d); omega, by show (msum x.y x.mo + x.d) ≤ _; omega⟩
  rw [if_neg k106] at h
  rw [lookF] at h
  by_cases k115 : 115 = c
  · subst k115; exact ⟨by show some (Lib.itoa x.time) = some (padV x.time 1); rw [pad_one _ ht.1], rfl, by show 0 ≤ x.time; omega, by show x.time ≤ _; omega⟩
  rw [if_neg k115] at h
  cases h
/-- The row of the pieces, read alone. -/
def PC (w : World) (a : Option Addr) (ps : List (UInt8 × Bool)) : Prop :=
  ps = [] ∨ ∃ g cur, a = some ⟨g, 0, none⟩ ∧ w.heap[g]? = some (.cells cur 52 (0, 0)) ∧ ∀ k p, ps[k]? = some p → cur[k * 2]? = some (.int .u8 (p.1.toNat : Int)) ∧ cur[k * 2 + 1]? = some (.bool p.2)
theorem PieceRow.pc {w : World} {B : Nat} {v : Value} {ps : List (UInt8 × Bool)} (h : PieceRow w B v ps) : ∃ a cap, v = .slice a ps.length cap ∧ PC w a ps := by
  rcases h.2 with ⟨rfl, hn⟩ | ⟨g, cap, cur, rfl, _, hg, _, _, _, htake⟩
  · have := List.eq_nil_of_length_eq_zero hn
    subst this
    exact ⟨none, 0, rfl, .inl rfl⟩
  · refine ⟨_, _, rfl, .inr ⟨g, cur, rfl, hg, fun k p hk => ?_⟩⟩
    have hkl := (List.getElem?_eq_some_iff.1 hk).1
    have hat := pieceVals_at ps k p hk
    rw [← htake] at hat
    rw [List.getElem?_take_of_lt (by omega), List.getElem?_take_of_lt (by omega)] at hat
    simpa using hat
theorem PC.on {w w' : World} {a : Option Addr} {ps : List (UInt8 × Bool)} (h : PC w a ps) (hb : Below w.heap.size w w') : PC w' a ps := by
  rcases h with h | ⟨g, cur, h1, h2, h3⟩
  · exact .inl h
  · exact .inr ⟨g, cur, h1, (hb.block g (Array.getElem?_eq_some_iff.1 h2).1).trans h2, h3⟩
/-- What stands beside a row of bytes stays where bytes are appended. -/
theorem Bytes.kept {w w1 : World} {B : Nat} {v : Value} {l : List UInt8} (h : Bytes w B v l) {g : Nat} {o : Obj} (hg : w.heap[g]? = some o) (ho : ∀ cur, o ≠ .cells cur 5 (0, 0)) (hw : w.grownBy w1 v.ownBlock) : w1.heap[g]? = some o := by
  refine (hw.block g (Array.getElem?_eq_some_iff.1 hg).1 ?_).trans hg
  rcases h.shape with ⟨rfl, _⟩ | ⟨g2, cap, cur, rfl, _, hg2⟩
  · simp [Value.ownBlock]
  · intro e
    simp only [Value.ownBlock, Option.some.injEq] at e
    subst e
    rw [hg] at hg2
    exact ho cur (Option.some.inj hg2)
theorem PC.kept {w w1 : World} {B : Nat} {v : Value} {l : List UInt8} (hB : Bytes w B v l) (hw : w.grownBy w1 v.ownBlock) {a : Option Addr} {ps : List (UInt8 × Bool)} (h : PC w a ps) : PC w1 a ps := by
  rcases h with h | ⟨g, cur, h1, h2, h3⟩
  · exact .inl h
  · exact .inr ⟨g, cur, h1, hB.kept h2 (fun cur e => by cases e) hw, h3⟩
theorem MapF.kept {w w1 : World} {B : Nat} {v : Value} {l : List UInt8} (hB : Bytes w B v l) (hw : w.grownBy w1 v.ownBlock) {b : Nat} {m : List (UInt8 × Nat)} (h : MapF w b m) : MapF w1 b m :=
  hB.kept h (fun cur e => by cases e) hw
def MomAt (w : World) (pm : Nat) (x : Dt) : Prop := w.heap[pm]? = some (.cells (momA x) 45 (0, 0))
theorem MomAt.on {w w' : World} {pm : Nat} {x : Dt} (h : MomAt w pm x) (hb : Below w.heap.size w w') : MomAt w' pm x := (hb.block pm (Array.getElem?_eq_some_iff.1 h).1).trans h
theorem MomAt.kept {w w1 : World} {B : Nat} {v : Value} {l : List UInt8} (hB : Bytes w B v l) (hw : w.grownBy w1 v.ownBlock) {pm : Nat} {x : Dt} (h : MomAt w pm x) : MomAt w1 pm x :=
  hB.kept h (fun cur e => by cases e) hw
/-- All that the loop of Render reads. -/
structure Beside (w : World) (a : Option Addr) (ps : List (UInt8 × Bool)) (mb pm : Nat) (x : Dt) : Prop where
  pc : PC w a ps
  map : MapF w mb letL
  mom : MomAt w pm x
theorem Beside.on {w w' : World} {a : Option Addr} {ps : List (UInt8 × Bool)} {mb pm : Nat} {x : Dt} (h : Beside w a ps mb pm x) (hb : Below w.heap.size w w') : Beside w' a ps mb pm x := ⟨h.pc.on hb, h.map.on hb, h.mom.on hb⟩
theorem Beside.kept {w w1 : World} {B : Nat} {v : Value} {l : List UInt8} {a : Option Addr} {ps : List (UInt8 × Bool)} {mb pm : Nat} {x : Dt} (h : Beside w a ps mb pm x) (hB : Bytes w B v l) (hw : w.grownBy w1 v.ownBlock) : Beside w1 a ps mb pm x :=
  ⟨h.pc.kept hB hw, h.map.kept hB hw, h.mom.kept hB hw⟩
theorem rendP_step (x : Dt) {ps : List (UInt8 × Bool)} {k : Nat} {p : UInt8 × Bool} (h : ps[k]? = some p) {s : List UInt8} (hp : pieceV x p = some s) : rendP x (ps.drop k) = (rendP x (ps.drop (k + 1))).map (s ++ ·) := by
  obtain ⟨a1, a2⟩ := List.getElem?_eq_some_iff.1 h
  rw [List.drop_eq_getElem_cons a1, a2, rendP, hp]; rfl
theorem rendP_stop (x : Dt) {ps : List (UInt8 × Bool)} {k : Nat} {p : UInt8 × Bool} (h : ps[k]? = some p) (hp : pieceV x p = none) : rendP x (ps.drop k) = none := by
  obtain ⟨a1, a2⟩ := List.getElem?_eq_some_iff.1 h
  rw [List.drop_eq_getElem_cons a1, a2, rendP, hp]; rfl
theorem pieces_len : ∀ (n : Nat) (l : List UInt8), l.length ≤ n → (pieces l).length ≤ l.length
  | _, [], _ => by simp [pieces]
  | 0, c :: r, h => by simp at h
  | n + 1, [c], _ => by unfold pieces; split <;> simp
  | n + 1, c :: d :: r, h => by
    have h1 := pieces_len n r (by simp at h; omega)
    have h2 := pieces_len n (d :: r) (by simp at h ⊢; omega)
    unfold pieces
    split
    · simp; omega
    · simp at h2 ⊢; omega

theorem below_new (w : World) (o : Obj) : Below w.heap.size w (w.alloc o) := (Below.refl _ _).alloc (Nat.le_refl _) _
theorem cell_one_next (w : World) (o : Obj) (y : Value) (t : TypeId) : ∀ j u, [y][j]? = some u → ((w.alloc o).alloc (.cells #[y] t)).cell? ((⟨w.heap.size + 1, 0, none⟩ : Addr).add j) = some u := by
  have h := cell_one_new (w.alloc o) y t
  rwa [show (w.alloc o).heap.size = w.heap.size + 1 by simp] at h
theorem app_new {wr w1 w0 : World} {B : Nat} {v : Value} {l : List UInt8} {o1 o2 : Obj} {a : Option Addr} {ps : List (UInt8 × Bool)} {mb pm : Nat} {x : Dt} (h : Bytes wr B v l) (hb : Below B w0 wr) (hB : B ≤ wr.heap.size) (hS : Beside wr a ps mb pm x)
    (hg : ((wr.alloc o1).alloc o2).grownBy w1 v.ownBlock) : Below B w0 w1 ∧ Beside w1 a ps mb pm x :=
  ⟨(h.on (below_new wr o1)).grown (hb.alloc hB o1) (by simp; omega) hg, ((hS.on (below_new wr o1)).on (below_new _ o2)).kept ((h.on (below_new wr o1)).on (below_new _ o2)) hg⟩

theorem implRender_out (s : ByteArray) (t : Int) (w : World) (ht : timeB t = false) :
    Calls Tryd.prog 14 #[.string s, .int .i64 t] w fun e w' => e = .returned (.string ⟨#[]⟩) ∧ Below w.heap.size w w' := by
  go_enter Tryd.func14, Tryd.ntmps14
  go_wp2_with (go_at_call 40; refine (implIsTime _ _).mono ?_; rintro e w' ⟨rfl, rfl⟩)
  go_ret
  exact ⟨rfl, Below.refl _ _⟩
set_option maxRecDepth 100000 in
set_option maxHeartbeats 8000000 in
theorem implRender (s : ByteArray) (x : Dt) (hx : x.Ok) (w : World) (hs : s.size ≤ 1048576) (hT : TabsC w) :
    Calls Tryd.prog 14 #[.string s, .int .i64 x.time] w fun e w' => e = .returned (.string (strOf (rendV x s.data.toList))) ∧ Below w.heap.size w w' := by
  obtain ⟨j0, kj, kz0, kz1, kz2⟩ := info_parts infoB
  have ht := timeB_ok hx
  obtain ⟨T, hTT⟩ : ∃ T, rendP x (pieces s.data.toList) = T := ⟨_, rfl⟩
  rw [show rendV x s.data.toList = T.getD [] by unfold rendV; rw [rend_pieces x _ _ (Nat.le_refl _), hTT]]
  have HT := Lib.hid hTT
  have hpl := pieces_len _ s.data.toList (Nat.le_refl _)
  have hpl2 : (pieces s.data.toList).length ≤ 1048576 := by simp at hpl; omega
  have CD := Lib.hid (fun W hW => implDateOf x hx W hW)
  have CY := Lib.hid (fun W => implYearDay x hx W)
  have CP := Lib.hid (fun W => implFormatPieces s W hs)
  have HS := Lib.hid (fun c f h => look_some c f h x hx)
  have HNn := Lib.hid (fun c h => look_none c h x)
  have CT := Lib.hid (fun W (h : Below w.heap.size w W) => hT.on h)
  generalize pieces s.data.toList = ps at HT hpl2 CP
  clear hTT hpl hT
  go_enter Tryd.func14, Tryd.ntmps14
  go_wp2_with (go_at_call 40; refine (implIsTime _ _).mono ?_; rintro e w' ⟨rfl, rfl⟩)
  refine (CD.out _ (CT.out _ (Below.refl _ _)).m).mono ?_
  rintro e W1 ⟨rfl, hb1⟩
  go_wp2_with fail
  refine (CY.out _).mono ?_
  rintro e W1' ⟨rfl, rfl⟩
  go_wp2_with fail
  obtain ⟨M, hMe⟩ : ∃ M, W1.alloc (.cells #[.int .i64 x.y, .int .i64 x.mo, .int .i64 x.d, .int .i64 x.h, .int .i64 x.mi, .int .i64 x.s, .int .i64 (msum x.y x.mo + x.d), .int .i64 x.time] 45) = M := ⟨_, rfl⟩
  have hM : MomAt M W1.heap.size x := by rw [← hMe]; exact heap_alloc_new W1 _
  have hB2 : Below w.heap.size w M := by rw [← hMe]; exact hb1.alloc hb1.size _
  rw [hMe]
  obtain ⟨pm, hpm⟩ : ∃ pm, W1.heap.size = pm := ⟨_, rfl⟩
  rw [hpm] at hM ⊢
  obtain ⟨mb, hmb⟩ : ∃ mb, M.heap.size = mb := ⟨_, rfl⟩
  refine (implFormatLetters _).mono ?_
  rintro e W3 ⟨rfl, hF3, hb3⟩
  have hM3 := hM.on hb3
  have hB3 := hB2.trans (hb3.mono hB2.size)
  rw [hmb] at hF3 ⊢
  clear hM hB2 hb3 hmb hpm hMe hb1
  go_wp2_with fail
  refine (CP.out _).mono ?_
  rintro e W4 ⟨v, rfl, hP4, hb4⟩
  obtain ⟨a, cap, rfl, hpc⟩ := hP4.pc
  have hBs : Beside W4 a ps mb pm x := ⟨hpc, hF3.on hb4, hM3.on hb4⟩
  have hB4 := hB3.trans (hb4.mono hB3.size)
  clear hP4 hpc hF3 hM3 hB3 hb4 CP CD CY ht hx
  go_wp2
  go_loopw [7, 9, 10, 11, 12, 13, 27] (fun ov _ _ _ _ _ iv wr => ∃ (acc : List UInt8) (k : Nat), iv = .int .i64 k ∧ k ≤ ps.length ∧ acc.length ≤ 120 * k ∧ Bytes wr w.heap.size ov acc ∧ Beside wr a ps mb pm x ∧ Below w.heap.size w wr ∧ Hid (T = (rendP x (ps.drop k)).map (acc ++ ·))) (fun _ _ _ _ _ _ iv _ => ps.length - (intOf iv).toNat)
  case atStart => exact ⟨[], 0, rfl, Nat.zero_le _, by simp, World.ownsRow_nil _ _ _ _, hBs, hB4, Lib.hid (by rw [List.drop_zero, HT.out]; cases T <;> simp)⟩
  case round =>
    clear HT hBs hB4
    obtain ⟨acc, k, rfl, hk, hacc, hO, hS, hb, HR⟩ := hrel
    have hsz := hb.size
    have HB := Lib.hid hb
    have HO := Lib.hid hO
    have HBs := Lib.hid hS
    clear hb hO
    have hkl : ps.length ≤ 1048576 := hpl2
    by_cases h1 : k < ps.length
    · obtain ⟨⟨c, lt⟩, hp⟩ : ∃ p, ps[k]? = some p := ⟨ps[k], List.getElem?_eq_getElem h1⟩
      have HP := Lib.hid hp
      rcases hS.pc with e | ⟨g, cur, rfl, hg, hcur⟩
      · subst e; simp at h1
      have hc0 : wr.cell? ⟨g, k * 2, none⟩ = some (.int .u8 c.toNat) := by simp [World.cell?, hg, (hcur k _ hp).1]
      have hc1 : wr.cell? ⟨g, k * 2 + 1, none⟩ = some (.bool lt) := by simp [World.cell?, hg, (hcur k _ hp).2]
      have h1i : (k : Int) < (ps.length : Int) := by omega
      clear hp hS hcur hg hpl2
      cases lt with
      | false =>
        have HV := Lib.hid (rendP_step x HP.out (s := [c]) rfl)
        go_wp2_with (at_builtin; refine wpList_append_own _ rfl _ _ 22 rfl w.heap.size 5 j0 (.int .u8 0) 1 1 Tryd.underlying22 kj kz0 kz1 kz2 rfl (by decide) _ _ _ rfl ((HO.out.own.alloc _).alloc _) ⟨wr.heap.size + 1, 0, none⟩ 1 1 [.int .u8 c.toNat] rfl rfl (cell_one_next _ _ _ _) (by simp [Value.oneCell']) (by unfold maxLen; omega) (by omega) (by simp; omega) ?_; intro v' w1 hown' hgrow _)
        go_roundw
        case rel => exact ⟨acc ++ [c], k + 1, by go_num, by omega, by simp; omega, Bytes.snoc hown', (app_new HO.out HB.out hsz HBs.out hgrow).2, (app_new HO.out HB.out hsz HBs.out hgrow).1, Lib.hid (map_more HR.out HV.out)⟩
        case measure => simp [intOf]; omega
      | true =>
        have b1 := below_new wr (.cells #[.int .u8 c.toNat, .bool true] 52)
        have hS1 := HBs.out.on b1
        have hlk := run_look_F (P := Tryd.prog) Tryd.underlying46 Tryd.underlying5 (zeroF _) hS1.map c
        cases hq : lookF c letL with
        | none =>
          rw [hq] at hlk
          simp only at hlk
          have HV := Lib.hid (rendP_stop x HP.out (by show (if true = true then fieldV c x else _) = none; rw [if_pos rfl, HNn.out c hq]))
          have HB1 := Lib.hid (HB.out.trans (b1.mono hsz))
          clear b1 hS1 hq
          go_wp2
          go_ret
          exact ⟨ret_str (by rw [HR.out, HV.out]; rfl), HB1.out⟩
        | some f =>
          rw [hq] at hlk
          simp only at hlk
          obtain ⟨f1, f2, f3, f4⟩ := HS.out c f hq
          have CF := Lib.hid (fun W => look_is c f hq pm W)
          have hcf := look_enter c f hq
          have HV := Lib.hid (rendP_step x HP.out (s := padV (momN x c) (digF c)) (by show (if true = true then fieldV c x else _) = _; rw [if_pos rfl, f1]))
          have hcell : (wr.alloc (.cells #[.int .u8 c.toNat, .bool true] 52)).cell? ⟨pm, offF c, none⟩ = some (.int .i64 (momN x c)) := by
            have hm : (wr.alloc (.cells #[.int .u8 c.toNat, .bool true] 52)).heap[pm]? = some (.cells (momA x) 45 (0, 0)) := hS1.mom
            simp only [World.cell?, hm]
            exact f2
          have CPd := Lib.hid (fun W h => implPadText (momN x c) (digF c) W (by omega) (by omega) h)
          have hql := pad_len (momN x c) (digF c) (by omega) (by omega)
          have HB1 := Lib.hid (HB.out.trans (b1.mono hsz))
          have HS1 := Lib.hid hS1
          have HO1 := Lib.hid (HO.out.on b1)
          have HL1 := Lib.hid (show w.heap.size ≤ (wr.alloc (.cells #[.int .u8 c.toNat, .bool true] 52)).heap.size by simp; omega)
          generalize momN x c = n at CPd hql HV hcell
          generalize digF c = dg at CPd hql HV CF
          generalize offF c = off at CF hcell
          generalize padV n dg = q at CPd hql HV
          have hq2 : (strOf q).size = q.length := strOf_size q
          clear f1 f2 f3 f4 hq b1 hS1
          go_wp2_with fail
          refine (CF.out _).mono ?_
          rintro e W' ⟨rfl, rfl⟩
          clear hcf
          go_wp2_with fail
          refine (CPd.out _ (CT.out _ HB1.out).s).mono ?_
          rintro e W5 ⟨rfl, hb5⟩
          have HB5 := Lib.hid (HB1.out.trans (hb5.mono HL1.out))
          have HO5 := Lib.hid (HO1.out.on hb5)
          have HS5 := Lib.hid (HS1.out.on hb5)
          have hsz5 := HB5.out.size
          clear hb5 hlk hcell
          go_wp2_with (at_builtin; refine wpList_append_own_str _ rfl _ _ 22 9 rfl w.heap.size 5 j0 (.int .u8 0) Tryd.underlying22 Tryd.underlying9 kj kz0 kz1 kz2 rfl _ _ _ rfl HO5.out.own (strOf q) rfl (by unfold maxLen; omega) (by omega) (by omega) ?_; intro v' w1 hown' hgrow)
          go_roundw
          case rel => exact ⟨acc ++ q, k + 1, by go_num, by omega, by simp; omega, Bytes.more hown', HS5.out.kept HO5.out hgrow, HO5.out.grown0 HB5.out hsz5 hgrow, Lib.hid (map_more HR.out HV.out)⟩
          case measure => simp [intOf]; omega
    · have hcv := conv_bytes HO.out
      have HD := Lib.hid (show ps.drop k = [] from List.drop_eq_nil_of_le (by omega))
      go_wp2
      go_ret
      exact ⟨ret_str (by rw [HR.out, HD.out]; simp [rendP]), HB.out⟩
end Go.Proofs.YtbikcldkaogfmaaDoor
