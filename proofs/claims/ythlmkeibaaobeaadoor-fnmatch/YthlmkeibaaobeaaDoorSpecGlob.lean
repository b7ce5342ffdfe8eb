/- Contracts of spec.l05Set and spec.PatternOk. -/
import Derived.Test.YthlmkeibaaobeaaDoorGlobs
namespace Go.Proofs.YthlmkeibaaobeaaDoor
open Go.RowKit

def optI : Option Nat → Int
  | some n => (n : Int)
  | none => -1
/-- Where the ] of the set that begins at i stands. -/
def setO (l : List UInt8) (i : Nat) : Option Nat := (endL true (l.drop (i + 1 + setN (l.drop (i + 1))))).map (· + (i + 1 + setN (l.drop (i + 1))))
theorem at_headIs (s : ByteArray) (k : Nat) (h : k < s.size) (c : UInt8) : headIs c (s.data.toList.drop k) = (s[k] == c) := by
  rw [drop_one _ (at_byte s k h)]; rfl
theorem drop_end (s : ByteArray) (k : Nat) (h : ¬ k < s.size) : s.data.toList.drop k = [] := List.drop_eq_nil_of_le (by simp; omega)
theorem end_esc {T : Option Nat} {f : Bool} {l : List UInt8} {k : Nat} (h : T = (endL f (l.drop k)).map (· + k)) (hd : l.drop k = 92 :: l.drop (k + 1)) : T = (endL false (l.drop (k + 2))).map (· + (k + 2)) := by
  rw [h, hd, endL_esc, List.drop_drop]
  simp only [Option.map_map]
  congr 1; funext x; simp; omega
theorem end_go {T : Option Nat} {f : Bool} {l : List UInt8} {k : Nat} {c : UInt8} (h : T = (endL f (l.drop k)).map (· + k)) (hd : l.drop k = c :: l.drop (k + 1)) (h1 : ¬ (c = 93 ∧ f = false)) (h2 : c ≠ 92) : T = (endL false (l.drop (k + 1))).map (· + (k + 1)) := by
  rw [h, hd, endL_go f _ h1 h2]
  simp only [Option.map_map]
  congr 1; funext x; simp; omega

set_option maxRecDepth 100000 in
set_option maxHeartbeats 4000000 in
theorem specSet_loop (s : ByteArray) (i : Nat) (hi : i < s.size) (hs : s.size ≤ 60) (w : World) :
    Calls Tryd.prog 24 #[.string s, .int .i64 i] w fun e w' => e = .returned (.int .i64 (optI (setO s.data.toList i))) ∧ w = w' := by
  obtain ⟨T, hT⟩ : ∃ T, setO s.data.toList i = T := ⟨_, rfl⟩
  rw [hT]
  have hsi : (s.size : Int) ≤ 60 := by omega
  have START := Lib.hid (show ∀ q : Nat, setN (s.data.toList.drop (i + 1)) = q → T = (endL true (s.data.toList.drop (i + 1 + q))).map (· + (i + 1 + q)) from fun q hq => by rw [← hT]; unfold setO; rw [hq])
  clear hT
  by_cases h1 : i + 1 < s.size
  · have h1i : (i : Int) + 1 < (s.size : Int) := by omega
    have HH := Lib.hid (at_headIs s (i + 1) h1 33)
    by_cases h2 : s[i + 1].toNat = 33
    · have hc : ((s[i + 1].toNat : Int) == 33) = true := byte_t h2
      have HS := Lib.hid (START.out 1 (by unfold setN; rw [HH.out, u8_is (c := 33) h2]; rfl))
      clear h2 START HH
      go_enter Tryd.func24, Tryd.ntmps24
      go_wp2
      go_loop [5, 6] (fun kv fv => ∃ (k : Nat) (f : Bool), kv = .int .i64 k ∧ fv = .bool f ∧ k ≤ s.size + 1 ∧ Hid (T = (endL f (s.data.toList.drop k)).map (· + k))) (fun kv _ => s.size + 2 - (intOf kv).toNat)
      case atStart => exact ⟨i + 2, true, by go_num, rfl, by omega, HS⟩
      case round =>
        clear HS hc
        obtain ⟨k, f, rfl, rfl, hk, HR⟩ := hrel
        by_cases h3 : k < s.size
        · have HD := Lib.hid (drop_one _ (at_byte s k h3))
          have h3i : (k : Int) < (s.size : Int) := by omega
          obtain ⟨x, hx⟩ : ∃ x : UInt8, s[k] = x := ⟨_, rfl⟩
          rw [hx] at HD
          by_cases h4 : x.toNat = 93
          · have c1 : ((x.toNat : Int) == 93) = true := byte_t h4
            have c2 : ((x.toNat : Int) == 92) = false := byte_f (n := 92) (by omega)
            cases f with
            | false =>
              have HE := Lib.hid (show T = some k by rw [HR.out, HD.out, u8_is (c := 93) h4, endL_stop]; simp)
              clear h4 HR
              go_wp2
              go_ret
              exact ⟨ret_int (by rw [HE.out]; rfl), rfl⟩
            | true =>
              have HE := Lib.hid (end_go HR.out HD.out (by rintro ⟨-, e⟩; cases e) (by intro e; rw [e] at h4; cases h4))
              clear h4 HR
              go_wp2
              go_round
              case rel => exact ⟨k + 1, false, by go_num, rfl, by omega, HE⟩
              case measure => simp [intOf]; omega
          · have c1 : ((x.toNat : Int) == 93) = false := byte_f h4
            by_cases h5 : x.toNat = 92
            · have c2 : ((x.toNat : Int) == 92) = true := byte_t h5
              have HE := Lib.hid (end_esc HR.out (by rw [HD.out, u8_is (c := 92) h5]))
              clear h4 h5 HR
              go_wp2
              go_round
              case rel => exact ⟨k + 2, false, by go_num, rfl, by omega, HE⟩
              case measure => simp [intOf]; omega
            · have c2 : ((x.toNat : Int) == 92) = false := byte_f h5
              have HE := Lib.hid (end_go HR.out HD.out (by rintro ⟨e, -⟩; rw [e] at h4; exact h4 rfl) (by intro e; rw [e] at h5; exact h5 rfl))
              clear h4 h5 HR
              go_wp2
              go_round
              case rel => exact ⟨k + 1, false, by go_num, rfl, by omega, HE⟩
              case measure => simp [intOf]; omega
        · have HE := Lib.hid (show T = none by rw [HR.out, drop_end s k h3]; rfl)
          have h3i : ¬ (k : Int) < (s.size : Int) := by omega
          go_wp2
          go_ret
          exact ⟨ret_int (by rw [HE.out]; rfl), rfl⟩
    · have hc : ((s[i + 1].toNat : Int) == 33) = false := byte_f h2
      have HS := Lib.hid (START.out 0 (by unfold setN; rw [HH.out, if_neg (by simp; intro e; rw [e] at h2; exact h2 rfl)]))
      clear h2 START HH
      go_enter Tryd.func24, Tryd.ntmps24
      go_wp2
      go_loop [5, 6] (fun kv fv => ∃ (k : Nat) (f : Bool), kv = .int .i64 k ∧ fv = .bool f ∧ k ≤ s.size + 1 ∧ Hid (T = (endL f (s.data.toList.drop k)).map (· + k))) (fun kv _ => s.size + 2 - (intOf kv).toNat)
      case atStart => exact ⟨i + 1, true, by go_num, rfl, by omega, HS⟩
      case round =>
        clear HS hc
        obtain ⟨k, f, rfl, rfl, hk, HR⟩ := hrel
        by_cases h3 : k < s.size
        · have HD := Lib.hid (drop_one _ (at_byte s k h3))
          have h3i : (k : Int) < (s.size : Int) := by omega
          obtain ⟨x, hx⟩ : ∃ x : UInt8, s[k] = x := ⟨_, rfl⟩
          rw [hx] at HD
          by_cases h4 : x.toNat = 93
          · have c1 : ((x.toNat : Int) == 93) = true := byte_t h4
            have c2 : ((x.toNat : Int) == 92) = false := byte_f (n := 92) (by omega)
            cases f with
            | false =>
              have HE := Lib.hid (show T = some k by rw [HR.out, HD.out, u8_is (c := 93) h4, endL_stop]; simp)
              clear h4 HR
              go_wp2
              go_ret
              exact ⟨ret_int (by rw [HE.out]; rfl), rfl⟩
            | true =>
              have HE := Lib.hid (end_go HR.out HD.out (by rintro ⟨-, e⟩; cases e) (by intro e; rw [e] at h4; cases h4))
              clear h4 HR
              go_wp2
              go_round
              case rel => exact ⟨k + 1, false, by go_num, rfl, by omega, HE⟩
              case measure => simp [intOf]; omega
          · have c1 : ((x.toNat : Int) == 93) = false := byte_f h4
            by_cases h5 : x.toNat = 92
            · have c2 : ((x.toNat : Int) == 92) = true := byte_t h5
              have HE := Lib.hid (end_esc HR.out (by rw [HD.out, u8_is (c := 92) h5]))
              clear h4 h5 HR
              go_wp2
              go_round
              case rel => exact ⟨k + 2, false, by go_num, rfl, by omega, HE⟩
              case measure => simp [intOf]; omega
            · have c2 : ((x.toNat : Int) == 92) = false := byte_f h5
              have HE := Lib.hid (end_go HR.out HD.out (by rintro ⟨e, -⟩; rw [e] at h4; exact h4 rfl) (by intro e; rw [e] at h5; exact h5 rfl))
              clear h4 h5 HR
              go_wp2
              go_round
              case rel => exact ⟨k + 1, false, by go_num, rfl, by omega, HE⟩
              case measure => simp [intOf]; omega
        · have HE := Lib.hid (show T = none by rw [HR.out, drop_end s k h3]; rfl)
          have h3i : ¬ (k : Int) < (s.size : Int) := by omega
          go_wp2
          go_ret
          exact ⟨ret_int (by rw [HE.out]; rfl), rfl⟩
  · have h1i : ¬ (i : Int) + 1 < (s.size : Int) := by omega
    have HS := Lib.hid (START.out 0 (by unfold setN; rw [drop_end s (i + 1) h1]; rfl))
    have hc : True := trivial
    clear START
    go_enter Tryd.func24, Tryd.ntmps24
    go_wp2
    go_loop [5, 6] (fun kv fv => ∃ (k : Nat) (f : Bool), kv = .int .i64 k ∧ fv = .bool f ∧ k ≤ s.size + 1 ∧ Hid (T = (endL f (s.data.toList.drop k)).map (· + k))) (fun kv _ => s.size + 2 - (intOf kv).toNat)
    case atStart => exact ⟨i + 1, true, by go_num, rfl, by omega, HS⟩
    case round =>
      clear HS hc
      obtain ⟨k, f, rfl, rfl, hk, HR⟩ := hrel
      by_cases h3 : k < s.size
      · have HD := Lib.hid (drop_one _ (at_byte s k h3))
        have h3i : (k : Int) < (s.size : Int) := by omega
        obtain ⟨x, hx⟩ : ∃ x : UInt8, s[k] = x := ⟨_, rfl⟩
        rw [hx] at HD
        by_cases h4 : x.toNat = 93
        · have c1 : ((x.toNat : Int) == 93) = true := byte_t h4
          have c2 : ((x.toNat : Int) == 92) = false := byte_f (n := 92) (by omega)
          cases f with
          | false =>
            have HE := Lib.hid (show T = some k by rw [HR.out, HD.out, u8_is (c := 93) h4, endL_stop]; simp)
            clear h4 HR
            go_wp2
            go_ret
            exact ⟨ret_int (by rw [HE.out]; rfl), rfl⟩
          | true =>
            have HE := Lib.hid (end_go HR.out HD.out (by rintro ⟨-, e⟩; cases e) (by intro e; rw [e] at h4; cases h4))
            clear h4 HR
            go_wp2
            go_round
            case rel => exact ⟨k + 1, false, by go_num, rfl, by omega, HE⟩
            case measure => simp [intOf]; omega
        · have c1 : ((x.toNat : Int) == 93) = false := byte_f h4
          by_cases h5 : x.toNat = 92
          · have c2 : ((x.toNat : Int) == 92) = true := byte_t h5
            have HE := Lib.hid (end_esc HR.out (by rw [HD.out, u8_is (c := 92) h5]))
            clear h4 h5 HR
            go_wp2
            go_round
            case rel => exact ⟨k + 2, false, by go_num, rfl, by omega, HE⟩
            case measure => simp [intOf]; omega
          · have c2 : ((x.toNat : Int) == 92) = false := byte_f h5
            have HE := Lib.hid (end_go HR.out HD.out (by rintro ⟨e, -⟩; rw [e] at h4; exact h4 rfl) (by intro e; rw [e] at h5; exact h5 rfl))
            clear h4 h5 HR
            go_wp2
            go_round
            case rel => exact ⟨k + 1, false, by go_num, rfl, by omega, HE⟩
            case measure => simp [intOf]; omega
      · have HE := Lib.hid (show T = none by rw [HR.out, drop_end s k h3]; rfl)
        have h3i : ¬ (k : Int) < (s.size : Int) := by omega
        go_wp2
        go_ret
        exact ⟨ret_int (by rw [HE.out]; rfl), rfl⟩

/-- PatternOk as spec goes through it. -/
def patS : Nat → List UInt8 → Bool
  | _, [] => true
  | 0, _ :: _ => false
  | n + 1, c :: r =>
    match pieceL (c :: r) with
    | none => false
    | some (_, k) => ((c :: r).take k).all okP && patS n ((c :: r).drop k)
theorem patS_eq : ∀ (n : Nat) (l : List UInt8), l.length ≤ n → patS n l = (l.all okP && (piecesL l).isSome)
  | n, [], _ => by cases n <;> rfl
  | 0, c :: r, h => by simp at h
  | n + 1, c :: r, h => by
    rw [patS]
    cases hp : pieceL (c :: r) with
    | none => rw [piecesL_none (by simp) hp]; simp
    | some x =>
      obtain ⟨p, k⟩ := x
      obtain ⟨g1, g2⟩ := pieceL_pos hp
      simp only []
      rw [patS_eq n _ (by simp at h ⊢; omega), piecesL_some hp, Option.isSome_map, ← Bool.and_assoc, ← List.all_append, List.take_append_drop]
/-- What is left to be asked of a pattern. -/
def restB (l : List UInt8) : Bool := l.all okP && (piecesL l).isSome
theorem restB_none {l : List UInt8} (h : l ≠ []) (hp : pieceL l = none) : restB l = false := by unfold restB; rw [piecesL_none h hp]; simp
theorem restB_some {l : List UInt8} {p : Pc} {k : Nat} (hp : pieceL l = some (p, k)) : restB l = ((l.take k).all okP && restB (l.drop k)) := by
  unfold restB
  rw [piecesL_some hp, Option.isSome_map, ← Bool.and_assoc, ← List.all_append, List.take_append_drop]
theorem restB_bad {l : List UInt8} {c : UInt8} {r : List UInt8} (hd : l = c :: r) (h : okP c = false) : restB l = false := by
  unfold restB; rw [hd, List.all_cons, h]; rfl
theorem okP_iff (c : UInt8) : okP c = true ↔ c.toNat ≠ 47 ∧ c.toNat ≠ 10 := by
  unfold okP
  simp only [Bool.not_eq_true', Bool.or_eq_false_iff, beq_eq_false_iff_ne, ne_eq, ← UInt8.toNat_inj]
  exact Iff.rfl
theorem okP_f {c : UInt8} (h : c.toNat = 47 ∨ c.toNat = 10) : okP c = false := by
  cases hh : okP c with
  | false => rfl
  | true => obtain ⟨h1, h2⟩ := (okP_iff c).1 hh; omega
theorem okP_t {c : UInt8} (h : c.toNat ≠ 47) (h2 : c.toNat ≠ 10) : okP c = true := (okP_iff c).2 ⟨h, h2⟩
end Go.Proofs.YthlmkeibaaobeaaDoor
