/- Contracts of spec.l05One and spec.l05In. spec.l05Match at a piece that stands alone. -/
import Derived.Test.YtipepbnmllbonaaGreatDoorM20
import Derived.Test.YtipepbnmllbonaaGreatDoorM21
namespace Go.Proofs.YtipepbnmllbonaaGreatDoor
open Go.RowKit

theorem take_cons {l : List UInt8} {m : Nat} {c : UInt8} {r : List UInt8} (h : l.take m = c :: r) : ∃ t, l = c :: t ∧ 1 ≤ m ∧ r = t.take (m - 1) := by
  cases l with
  | nil => simp at h
  | cons d t =>
    cases m with
    | zero => simp at h
    | succ m =>
      rw [List.take_succ_cons] at h
      cases h
      exact ⟨t, rfl, by omega, rfl⟩
/-- A sign of a set's body, told of the whole pattern. -/
theorem sign_at {L : List UInt8} {i m : Nat} {lo : UInt8} {rest : List UInt8} (h : signL ((L.drop i).take m) = some (lo, rest)) : ∃ nx, i < nx ∧ nx ≤ i + m ∧ rest = (L.drop nx).take (i + m - nx) ∧ signL (L.drop i) = some (lo, L.drop nx) ∧ nx ≤ L.length := by
  rcases signL_cases h with h1 | ⟨hb, h1⟩
  · obtain ⟨t, g1, g2, g3⟩ := take_cons h1
    obtain ⟨t2, k1, k2, k3⟩ := take_cons g3.symm
    have e : L.drop (i + 2) = t2 := by rw [← List.drop_drop, g1, k1]; rfl
    have hl : i + 2 ≤ L.length := by
      have := congrArg List.length g1
      rw [k1] at this
      simp at this
      omega
    refine ⟨i + 2, by omega, by omega, ?_, ?_, hl⟩
    · rw [e, k3]; congr 1; omega
    · rw [e, g1, k1]; rfl
  · obtain ⟨t, g1, g2, g3⟩ := take_cons h1
    have e : L.drop (i + 1) = t := by rw [← List.drop_drop, g1]; rfl
    have hl : i + 1 ≤ L.length := by
      have := congrArg List.length g1
      simp at this
      omega
    refine ⟨i + 1, by omega, by omega, ?_, ?_, hl⟩
    · rw [e, g3]; congr 1; omega
    · rw [e, g1]; exact signL_plain t hb

set_option maxRecDepth 100000 in
set_option maxHeartbeats 4000000 in
theorem specOne (s : ByteArray) (i nx : Nat) (b : UInt8) (hs : s.size ≤ 60) (h : signL (s.data.toList.drop i) = some (b, s.data.toList.drop nx)) (hi : i < nx) (hn : nx ≤ s.size) (w : World) :
    Calls Tryz.prog 188 #[.string s, .int .i64 i] w fun e w' => e = .returned (.tuple #[.int .u8 (b.toNat : Int), .int .i64 nx]) ∧ w = w' := by
  have hsi : (s.size : Int) ≤ 60 := by omega
  have h1 : i < s.size := by omega
  have hsz : s.data.toList.length = s.size := by simp
  have hD := drop_one _ (at_byte s i h1)
  obtain ⟨x, hx⟩ : ∃ x : UInt8, s[i] = x := ⟨_, rfl⟩
  rw [hx] at hD
  have hii : (i : Int) < (s.size : Int) := by omega
  rcases signL_cases h with g | ⟨hb, g⟩
  · rw [hD] at g
    have e1 : x = 92 := by injection g
    have e2 : s.data.toList.drop (i + 1) = b :: s.data.toList.drop nx := by injection g
    have h2 : i + 1 < s.size := by
      have := congrArg List.length e2
      simp at this; omega
    have e3 : nx = i + 2 := by
      have := congrArg List.length e2
      simp at this; omega
    have h2i : (i : Int) + 1 < (s.size : Int) := by omega
    have e4 : s[i + 1] = b := by
      have := drop_one _ (at_byte s (i + 1) h2)
      rw [e2] at this
      injection this with q1 q2
      exact q1.symm
    have c1 : ((x.toNat : Int) == 92) = true := by rw [e1]; rfl
    subst e3
    clear h g hD e1 e2 hsz
    go_enter Tryz.func188, Tryz.ntmps188
    go_wp2
    go_ret2
    exact ⟨by simp [e4], rfl⟩
  · rw [hD] at g
    have e1 : x = b := by injection g
    have e2 : s.data.toList.drop (i + 1) = s.data.toList.drop nx := by injection g
    have e3 : nx = i + 1 := by
      have := congrArg List.length e2
      simp at this; omega
    have c1 : ((x.toNat : Int) == 92) = false := byte_f (n := 92) (by intro e; exact hb (by rw [← e1]; exact u8_is (c := 92) e))
    subst e3
    subst e1
    clear h g hD e2 hsz hb
    go_enter Tryz.func188, Tryz.ntmps188
    go_wp2
    go_ret2
    exact ⟨by simp, rfl⟩

theorem Signs.inv {l : List UInt8} (h : Signs l) : l = [] ∨ ∃ b r, signL l = some (b, r) ∧ Signs r := by
  cases h with
  | nil => exact .inl rfl
  | cons h hr => exact .inr ⟨_, _, h, hr⟩
/-- What is left of a set's body at a place: both ways to go on. -/
theorem body_step {L : List UInt8} {i e0 : Nat} (hi : i < e0) (he : e0 ≤ L.length) (hS : Signs ((L.drop i).take (e0 - i))) :
    ∃ lo nx, i < nx ∧ nx ≤ e0 ∧ signL (L.drop i) = some (lo, L.drop nx) ∧
      ((¬ (nx + 1 < e0 ∧ headIs 45 (L.drop nx) = true) ∧ bodyL ((L.drop i).take (e0 - i)) = (lo, lo) :: bodyL ((L.drop nx).take (e0 - nx)) ∧ Signs ((L.drop nx).take (e0 - nx))) ∨
       (nx + 1 < e0 ∧ headIs 45 (L.drop nx) = true ∧ ∃ hi nx2, nx + 1 < nx2 ∧ nx2 ≤ e0 ∧ signL (L.drop (nx + 1)) = some (hi, L.drop nx2) ∧ bodyL ((L.drop i).take (e0 - i)) = (lo, hi) :: bodyL ((L.drop nx2).take (e0 - nx2)) ∧ Signs ((L.drop nx2).take (e0 - nx2)))) := by
  have hne : (L.drop i).take (e0 - i) ≠ [] := by
    intro e
    have := congrArg List.length e
    simp at this
    omega
  rcases hS.inv with hn0 | ⟨lo, rest, h, hr⟩
  · exact (hne hn0).elim
  · skip
    obtain ⟨nx, h1, h2, h3, h4, h5⟩ := sign_at h
    have hm : i + (e0 - i) = e0 := by omega
    rw [hm] at h2 h3
    refine ⟨lo, nx, h1, h2, h4, ?_⟩
    by_cases hc : nx + 1 < e0 ∧ headIs 45 (L.drop nx) = true
    · right
      obtain ⟨t, ht⟩ := headIs_t hc.2
      have hrest : rest = 45 :: (L.drop (nx + 1)).take (e0 - (nx + 1)) := by
        rw [h3, ht, show e0 - nx = (e0 - (nx + 1)) + 1 by omega, List.take_succ_cons, ← List.drop_drop, ht]; rfl
      have hto : (L.drop (nx + 1)).take (e0 - (nx + 1)) ≠ [] := by
        intro e
        have := congrArg List.length e
        simp at this
        omega
      rw [hrest] at hr h
      rcases hr.inv with hn1 | ⟨b0, r0, q1, q2⟩
      · cases hn1
      · have q3 : r0 = (L.drop (nx + 1)).take (e0 - (nx + 1)) := by
          rw [signL_plain _ (by decide)] at q1; cases q1; rfl
        rw [q3] at q2
        cases hq : signL ((L.drop (nx + 1)).take (e0 - (nx + 1))) with
        | none =>
          exfalso
          rcases q2.inv with hn2 | ⟨_, _, z1, _⟩
          · exact hto hn2
          · rw [hq] at z1; cases z1
        | some y =>
          obtain ⟨hi', r'⟩ := y
          obtain ⟨nx2, k1, k2, k3, k4, k5⟩ := sign_at hq
          have hm2 : nx + 1 + (e0 - (nx + 1)) = e0 := by omega
          rw [hm2] at k2 k3
          refine ⟨hc.1, hc.2, hi', nx2, k1, k2, k4, ?_, ?_⟩
          · rw [bodyL_two h hto hq, k3]
          · rw [← k3]
            generalize (L.drop (nx + 1)).take (e0 - (nx + 1)) = z at q2 hq
            rcases q2.inv with hn2 | ⟨_, _, z1, z2⟩
            · rw [hn2] at hq; cases hq
            · rw [hq] at z1; cases z1; exact z2
    · left
      refine ⟨hc, ?_, by rw [← h3]; exact hr⟩
      rw [← h3]
      refine bodyL_one h ?_
      rintro ⟨g1, g2⟩
      apply hc
      rw [h3] at g1 g2
      obtain ⟨t, ht⟩ := headIs_t g1
      obtain ⟨t2, q1, q2, q3⟩ := take_cons ht
      refine ⟨?_, by rw [q1]; rfl⟩
      rw [ht] at g2
      simp only [List.drop_succ_cons, List.drop_zero] at g2
      have : (e0 - nx) - 1 ≠ 0 := by
        intro e
        rw [q3, e] at g2
        exact g2 rfl
      omega

theorem in_go {T : Bool} {th : Bool} {c : UInt8} {x : UInt8 × UInt8} {xs ys : List (UInt8 × UInt8)} (h : T = (th || xs.any (inR c))) (hx : xs = x :: ys) : T = ((th || inR c x) || ys.any (inR c)) := by
  rw [h, hx, List.any_cons, Bool.or_assoc]

set_option maxRecDepth 100000 in
set_option maxHeartbeats 8000000 in
theorem specSetIn (s : ByteArray) (i e0 m : Nat) (c : UInt8) (hs : s.size ≤ 60) (hi : i + 1 < s.size) (hm : endL true (s.data.toList.drop (i + 1 + setN (s.data.toList.drop (i + 1)))) = some m) (he : e0 = m + (i + 1 + setN (s.data.toList.drop (i + 1)))) (w : World) :
    Calls Tryz.prog 187 #[.string s, .int .i64 i, .int .i64 e0, .int .u8 (c.toNat : Int)] w fun e w' => e = .returned (.bool (((bodyL ((s.data.toList.drop (i + 1 + setN (s.data.toList.drop (i + 1)))).take m)).any (inR c)) != headIs 33 (s.data.toList.drop (i + 1)))) ∧ w = w' := by
  have hsz : s.data.toList.length = s.size := by simp
  obtain ⟨f1, f2, f3⟩ := endL_facts _ _ _ _ (Nat.le_refl _) hm
  have he1 : e0 < s.size := by rw [List.length_drop] at f1; omega
  obtain ⟨T, hT⟩ : ∃ T, ((bodyL ((s.data.toList.drop (i + 1 + setN (s.data.toList.drop (i + 1)))).take m)).any (inR c)) = T := ⟨_, rfl⟩
  rw [hT]
  have hh := at_headIs s (i + 1) hi 33
  obtain ⟨n0, hn0⟩ : ∃ n0, setN (s.data.toList.drop (i + 1)) = n0 := ⟨_, rfl⟩
  rw [hn0] at hT f3 he
  have hme : e0 - (i + 1 + n0) = m := by omega
  have START := Lib.hid (show ∃ k : Nat, k = i + 1 + n0 ∧ k ≤ e0 ∧ Signs ((s.data.toList.drop k).take (e0 - k)) ∧ T = (false || (bodyL ((s.data.toList.drop k).take (e0 - k))).any (inR c)) from ⟨_, rfl, by omega, by rw [hme]; exact f3, by rw [hme, ← hT]; simp⟩)
  have hsi : (s.size : Int) ≤ 60 := by omega
  have hii : (i : Int) + 1 < (s.size : Int) := by omega
  have he1i : (e0 : Int) < (s.size : Int) := by omega
  have hn01 : n0 ≤ 1 := by rw [← hn0]; unfold setN; split <;> omega
  clear hm f1 f2 f3 hT hme he
  cases h33 : headIs 33 (s.data.toList.drop (i + 1)) with
  | true =>
    have hb : s[i + 1].toNat = 33 := by rw [hh] at h33; have := eq_of_beq h33; rw [this]; rfl
    have c0 : ((s[i + 1].toNat : Int) == 33) = true := byte_t hb
    have hn1 : n0 = 1 := by rw [← hn0]; unfold setN; rw [h33]; rfl
    subst hn1
    clear hh h33 hn0 hb hn01
    go_enter Tryz.func187, Tryz.ntmps187
    go_wp2
    go_loop [1, 10, 11, 12, 13] (fun iv tv _ _ _ => ∃ (k : Nat) (th : Bool), iv = .int .i64 k ∧ tv = .bool th ∧ k ≤ e0 ∧ Hid (Signs ((s.data.toList.drop k).take (e0 - k))) ∧ Hid (T = (th || (bodyL ((s.data.toList.drop k).take (e0 - k))).any (inR c)))) (fun iv _ _ _ _ => e0 - (intOf iv).toNat)
    case atStart =>
      obtain ⟨k, h1, h2, h3, h4⟩ := START.out
      exact ⟨k, false, by rw [h1]; go_num, rfl, h2, Lib.hid h3, Lib.hid h4⟩
    case round =>
      clear START
      obtain ⟨k, th, rfl, rfl, hk, HS, HR⟩ := hrel
      by_cases hlt : k < e0
      rotate_left
      · have hlti : ¬ (k : Int) < (e0 : Int) := by omega
        have HE := Lib.hid (show T = th by rw [HR.out, show e0 - k = 0 by omega]; simp [bodyL_nil])
        clear HS HR
        go_wp2
        go_ret
        exact ⟨ret_bool (by rw [HE.out]), rfl⟩
      have hlti : (k : Int) < (e0 : Int) := by omega
      obtain ⟨lo, nx, g1, g2, g3, hcase⟩ := body_step hlt (by omega) HS.out
      have C1 := Lib.hid (fun W => specOne s k nx lo hs g3 g1 (by omega) W)
      have g1i : (k : Int) < (nx : Int) := by omega
      have g2i : (nx : Int) ≤ (e0 : Int) := by omega
      clear HS g3
      have hnxs : nx < s.size := by omega
      have hnxi : (nx : Int) < (s.size : Int) := by omega
      have hhx := at_headIs s nx hnxs 45
      rcases hcase with ⟨hc, hbd, hsg⟩ | ⟨hc1, hc2, hi2, nx2, k1, k2, k3, hbd, hsg⟩
      · have HE := Lib.hid (in_go HR.out hbd)
        have HSG := Lib.hid hsg
        have hcc : ((nx : Int) + 1 < (e0 : Int) ∧ ((s[nx].toNat : Int) == 45) = false) ∨ ¬ ((nx : Int) + 1 < (e0 : Int)) := by
          by_cases hq : nx + 1 < e0
          · left
            refine ⟨by omega, ?_⟩
            cases hh : headIs 45 (s.data.toList.drop nx) with
            | true => exact (hc ⟨hq, hh⟩).elim
            | false =>
              rw [hhx] at hh
              exact byte_f (n := 45) (by intro e; rw [u8_is (c := 45) e] at hh; cases hh)
          · right; omega
        clear hhx hc hbd hsg HR
        obtain ⟨y, hy⟩ : ∃ y, inR c (lo, lo) = y := ⟨_, rfl⟩
        have hy2 : y = (decide (lo.toNat ≤ c.toNat) && decide (c.toNat ≤ lo.toNat)) := hy.symm
        rw [hy] at HE
        clear hy
        rcases hcc with ⟨q1, q2⟩ | q1
        all_goals
          cases th with
          | true =>
            go_wp2_with fail
            refine (C1.out _).mono ?_
            rintro e W1 ⟨rfl, rfl⟩
            go_wp2
            go_round
            case rel => exact ⟨nx, true, by go_num, rfl, by omega, HSG, Lib.hid (by rw [HE.out]; simp)⟩
            case measure => simp [intOf]; omega
          | false =>
            by_cases z1 : lo.toNat ≤ c.toNat
            · have z1i : (lo.toNat : Int) ≤ (c.toNat : Int) := by omega
              by_cases z2 : c.toNat ≤ lo.toNat
              · have z2i : (c.toNat : Int) ≤ (lo.toNat : Int) := by omega
                have HY := Lib.hid (show y = true by rw [hy2]; simp [z1, z2])
                clear hy2 z1 z2
                go_wp2_with fail
                refine (C1.out _).mono ?_
                rintro e W1 ⟨rfl, rfl⟩
                go_wp2
                go_round
                case rel => exact ⟨nx, true, by go_num, rfl, by omega, HSG, Lib.hid (by rw [HE.out, HY.out]; simp)⟩
                case measure => simp [intOf]; omega
              · have z2i : ¬ (c.toNat : Int) ≤ (lo.toNat : Int) := by omega
                have HY := Lib.hid (show y = false by rw [hy2]; simp [z2])
                clear hy2 z1 z2
                go_wp2_with fail
                refine (C1.out _).mono ?_
                rintro e W1 ⟨rfl, rfl⟩
                go_wp2
                go_round
                case rel => exact ⟨nx, false, by go_num, congrArg Value.bool (decide_eq_false (by omega)), by omega, HSG, Lib.hid (by rw [HE.out, HY.out]; simp)⟩
                case measure => simp [intOf]; omega
            · have z1i : ¬ (lo.toNat : Int) ≤ (c.toNat : Int) := by omega
              have HY := Lib.hid (show y = false by rw [hy2]; simp [z1])
              clear hy2 z1
              go_wp2_with fail
              refine (C1.out _).mono ?_
              rintro e W1 ⟨rfl, rfl⟩
              go_wp2
              go_round
              case rel => exact ⟨nx, false, by go_num, rfl, by omega, HSG, Lib.hid (by rw [HE.out, HY.out]; simp)⟩
              case measure => simp [intOf]; omega
      · have HE := Lib.hid (in_go HR.out hbd)
        have HSG := Lib.hid hsg
        have C2 := Lib.hid (fun W => specOne s (nx + 1) nx2 hi2 hs k3 k1 (by omega) W)
        rw [show (((nx + 1 : Nat)) : Int) = (nx : Int) + 1 by omega] at C2
        have q1 : (nx : Int) + 1 < (e0 : Int) := by omega
        have q2 : ((s[nx].toNat : Int) == 45) = true := by
          rw [hhx] at hc2
          have := eq_of_beq hc2
          rw [this]; rfl
        have k2i : (nx2 : Int) ≤ (e0 : Int) := by omega
        clear hhx hc1 hc2 hbd hsg HR k3
        obtain ⟨y, hy⟩ : ∃ y, inR c (lo, hi2) = y := ⟨_, rfl⟩
        have hy2 : y = (decide (lo.toNat ≤ c.toNat) && decide (c.toNat ≤ hi2.toNat)) := hy.symm
        rw [hy] at HE
        clear hy
        cases th with
        | true =>
          go_wp2_with fail
          refine (C1.out _).mono ?_
          rintro e W1 ⟨rfl, rfl⟩
          go_wp2_with fail
          refine (C2.out _).mono ?_
          rintro e W1 ⟨rfl, rfl⟩
          go_wp2
          go_round
          case rel => exact ⟨nx2, true, by go_num, rfl, by omega, HSG, Lib.hid (by rw [HE.out]; simp)⟩
          case measure => simp [intOf]; omega
        | false =>
          by_cases z1 : lo.toNat ≤ c.toNat
          · have z1i : (lo.toNat : Int) ≤ (c.toNat : Int) := by omega
            by_cases z2 : c.toNat ≤ hi2.toNat
            · have z2i : (c.toNat : Int) ≤ (hi2.toNat : Int) := by omega
              have HY := Lib.hid (show y = true by rw [hy2]; simp [z1, z2])
              clear hy2 z1 z2
              go_wp2_with fail
              refine (C1.out _).mono ?_
              rintro e W1 ⟨rfl, rfl⟩
              go_wp2_with fail
              refine (C2.out _).mono ?_
              rintro e W1 ⟨rfl, rfl⟩
              go_wp2
              go_round
              case rel => exact ⟨nx2, true, by go_num, rfl, by omega, HSG, Lib.hid (by rw [HE.out, HY.out]; simp)⟩
              case measure => simp [intOf]; omega
            · have z2i : ¬ (c.toNat : Int) ≤ (hi2.toNat : Int) := by omega
              have HY := Lib.hid (show y = false by rw [hy2]; simp [z2])
              clear hy2 z1 z2
              go_wp2_with fail
              refine (C1.out _).mono ?_
              rintro e W1 ⟨rfl, rfl⟩
              go_wp2_with fail
              refine (C2.out _).mono ?_
              rintro e W1 ⟨rfl, rfl⟩
              go_wp2
              go_round
              case rel => exact ⟨nx2, false, by go_num, congrArg Value.bool (decide_eq_false (by omega)), by omega, HSG, Lib.hid (by rw [HE.out, HY.out]; simp)⟩
              case measure => simp [intOf]; omega
          · have z1i : ¬ (lo.toNat : Int) ≤ (c.toNat : Int) := by omega
            have HY := Lib.hid (show y = false by rw [hy2]; simp [z1])
            clear hy2 z1
            go_wp2_with fail
            refine (C1.out _).mono ?_
            rintro e W1 ⟨rfl, rfl⟩
            go_wp2_with fail
            refine (C2.out _).mono ?_
            rintro e W1 ⟨rfl, rfl⟩
            go_wp2
            go_round
            case rel => exact ⟨nx2, false, by go_num, rfl, by omega, HSG, Lib.hid (by rw [HE.out, HY.out]; simp)⟩
            case measure => simp [intOf]; omega
  | false =>
    have hb : s[i + 1].toNat ≠ 33 := by rw [hh] at h33; intro e; rw [u8_is (c := 33) e] at h33; cases h33
    have c0 : ((s[i + 1].toNat : Int) == 33) = false := byte_f hb
    have hn1 : n0 = 0 := by rw [← hn0]; unfold setN; rw [h33]; rfl
    subst hn1
    clear hh h33 hn0 hb hn01
    go_enter Tryz.func187, Tryz.ntmps187
    go_wp2
    go_loop [1, 10, 11, 12, 13] (fun iv tv _ _ _ => ∃ (k : Nat) (th : Bool), iv = .int .i64 k ∧ tv = .bool th ∧ k ≤ e0 ∧ Hid (Signs ((s.data.toList.drop k).take (e0 - k))) ∧ Hid (T = (th || (bodyL ((s.data.toList.drop k).take (e0 - k))).any (inR c)))) (fun iv _ _ _ _ => e0 - (intOf iv).toNat)
    case atStart =>
      obtain ⟨k, h1, h2, h3, h4⟩ := START.out
      exact ⟨k, false, by rw [h1]; go_num, rfl, h2, Lib.hid h3, Lib.hid h4⟩
    case round =>
      clear START
      obtain ⟨k, th, rfl, rfl, hk, HS, HR⟩ := hrel
      by_cases hlt : k < e0
      rotate_left
      · have hlti : ¬ (k : Int) < (e0 : Int) := by omega
        have HE := Lib.hid (show T = th by rw [HR.out, show e0 - k = 0 by omega]; simp [bodyL_nil])
        clear HS HR
        go_wp2
        go_ret
        exact ⟨ret_bool (by rw [HE.out]), rfl⟩
      have hlti : (k : Int) < (e0 : Int) := by omega
      obtain ⟨lo, nx, g1, g2, g3, hcase⟩ := body_step hlt (by omega) HS.out
      have C1 := Lib.hid (fun W => specOne s k nx lo hs g3 g1 (by omega) W)
      have g1i : (k : Int) < (nx : Int) := by omega
      have g2i : (nx : Int) ≤ (e0 : Int) := by omega
      clear HS g3
      have hnxs : nx < s.size := by omega
      have hnxi : (nx : Int) < (s.size : Int) := by omega
      have hhx := at_headIs s nx hnxs 45
      rcases hcase with ⟨hc, hbd, hsg⟩ | ⟨hc1, hc2, hi2, nx2, k1, k2, k3, hbd, hsg⟩
      · have HE := Lib.hid (in_go HR.out hbd)
        have HSG := Lib.hid hsg
        have hcc : ((nx : Int) + 1 < (e0 : Int) ∧ ((s[nx].toNat : Int) == 45) = false) ∨ ¬ ((nx : Int) + 1 < (e0 : Int)) := by
          by_cases hq : nx + 1 < e0
          · left
            refine ⟨by omega, ?_⟩
            cases hh : headIs 45 (s.data.toList.drop nx) with
            | true => exact (hc ⟨hq, hh⟩).elim
            | false =>
              rw [hhx] at hh
              exact byte_f (n := 45) (by intro e; rw [u8_is (c := 45) e] at hh; cases hh)
          · right; omega
        clear hhx hc hbd hsg HR
        obtain ⟨y, hy⟩ : ∃ y, inR c (lo, lo) = y := ⟨_, rfl⟩
        have hy2 : y = (decide (lo.toNat ≤ c.toNat) && decide (c.toNat ≤ lo.toNat)) := hy.symm
        rw [hy] at HE
        clear hy
        rcases hcc with ⟨q1, q2⟩ | q1
        all_goals
          cases th with
          | true =>
            go_wp2_with fail
            refine (C1.out _).mono ?_
            rintro e W1 ⟨rfl, rfl⟩
            go_wp2
            go_round
            case rel => exact ⟨nx, true, by go_num, rfl, by omega, HSG, Lib.hid (by rw [HE.out]; simp)⟩
            case measure => simp [intOf]; omega
          | false =>
            by_cases z1 : lo.toNat ≤ c.toNat
            · have z1i : (lo.toNat : Int) ≤ (c.toNat : Int) := by omega
              by_cases z2 : c.toNat ≤ lo.toNat
              · have z2i : (c.toNat : Int) ≤ (lo.toNat : Int) := by omega
                have HY := Lib.hid (show y = true by rw [hy2]; simp [z1, z2])
                clear hy2 z1 z2
                go_wp2_with fail
                refine (C1.out _).mono ?_
                rintro e W1 ⟨rfl, rfl⟩
                go_wp2
                go_round
                case rel => exact ⟨nx, true, by go_num, rfl, by omega, HSG, Lib.hid (by rw [HE.out, HY.out]; simp)⟩
                case measure => simp [intOf]; omega
              · have z2i : ¬ (c.toNat : Int) ≤ (lo.toNat : Int) := by omega
                have HY := Lib.hid (show y = false by rw [hy2]; simp [z2])
                clear hy2 z1 z2
                go_wp2_with fail
                refine (C1.out _).mono ?_
                rintro e W1 ⟨rfl, rfl⟩
                go_wp2
                go_round
                case rel => exact ⟨nx, false, by go_num, congrArg Value.bool (decide_eq_false (by omega)), by omega, HSG, Lib.hid (by rw [HE.out, HY.out]; simp)⟩
                case measure => simp [intOf]; omega
            · have z1i : ¬ (lo.toNat : Int) ≤ (c.toNat : Int) := by omega
              have HY := Lib.hid (show y = false by rw [hy2]; simp [z1])
              clear hy2 z1
              go_wp2_with fail
              refine (C1.out _).mono ?_
              rintro e W1 ⟨rfl, rfl⟩
              go_wp2
              go_round
              case rel => exact ⟨nx, false, by go_num, rfl, by omega, HSG, Lib.hid (by rw [HE.out, HY.out]; simp)⟩
              case measure => simp [intOf]; omega
      · have HE := Lib.hid (in_go HR.out hbd)
        have HSG := Lib.hid hsg
        have C2 := Lib.hid (fun W => specOne s (nx + 1) nx2 hi2 hs k3 k1 (by omega) W)
        rw [show (((nx + 1 : Nat)) : Int) = (nx : Int) + 1 by omega] at C2
        have q1 : (nx : Int) + 1 < (e0 : Int) := by omega
        have q2 : ((s[nx].toNat : Int) == 45) = true := by
          rw [hhx] at hc2
          have := eq_of_beq hc2
          rw [this]; rfl
        have k2i : (nx2 : Int) ≤ (e0 : Int) := by omega
        clear hhx hc1 hc2 hbd hsg HR k3
        obtain ⟨y, hy⟩ : ∃ y, inR c (lo, hi2) = y := ⟨_, rfl⟩
        have hy2 : y = (decide (lo.toNat ≤ c.toNat) && decide (c.toNat ≤ hi2.toNat)) := hy.symm
        rw [hy] at HE
        clear hy
        cases th with
        | true =>
          go_wp2_with fail
          refine (C1.out _).mono ?_
          rintro e W1 ⟨rfl, rfl⟩
          go_wp2_with fail
          refine (C2.out _).mono ?_
          rintro e W1 ⟨rfl, rfl⟩
          go_wp2
          go_round
          case rel => exact ⟨nx2, true, by go_num, rfl, by omega, HSG, Lib.hid (by rw [HE.out]; simp)⟩
          case measure => simp [intOf]; omega
        | false =>
          by_cases z1 : lo.toNat ≤ c.toNat
          · have z1i : (lo.toNat : Int) ≤ (c.toNat : Int) := by omega
            by_cases z2 : c.toNat ≤ hi2.toNat
            · have z2i : (c.toNat : Int) ≤ (hi2.toNat : Int) := by omega
              have HY := Lib.hid (show y = true by rw [hy2]; simp [z1, z2])
              clear hy2 z1 z2
              go_wp2_with fail
              refine (C1.out _).mono ?_
              rintro e W1 ⟨rfl, rfl⟩
              go_wp2_with fail
              refine (C2.out _).mono ?_
              rintro e W1 ⟨rfl, rfl⟩
              go_wp2
              go_round
              case rel => exact ⟨nx2, true, by go_num, rfl, by omega, HSG, Lib.hid (by rw [HE.out, HY.out]; simp)⟩
              case measure => simp [intOf]; omega
            · have z2i : ¬ (c.toNat : Int) ≤ (hi2.toNat : Int) := by omega
              have HY := Lib.hid (show y = false by rw [hy2]; simp [z2])
              clear hy2 z1 z2
              go_wp2_with fail
              refine (C1.out _).mono ?_
              rintro e W1 ⟨rfl, rfl⟩
              go_wp2_with fail
              refine (C2.out _).mono ?_
              rintro e W1 ⟨rfl, rfl⟩
              go_wp2
              go_round
              case rel => exact ⟨nx2, false, by go_num, congrArg Value.bool (decide_eq_false (by omega)), by omega, HSG, Lib.hid (by rw [HE.out, HY.out]; simp)⟩
              case measure => simp [intOf]; omega
          · have z1i : ¬ (lo.toNat : Int) ≤ (c.toNat : Int) := by omega
            have HY := Lib.hid (show y = false by rw [hy2]; simp [z1])
            clear hy2 z1
            go_wp2_with fail
            refine (C1.out _).mono ?_
            rintro e W1 ⟨rfl, rfl⟩
            go_wp2_with fail
            refine (C2.out _).mono ?_
            rintro e W1 ⟨rfl, rfl⟩
            go_wp2
            go_round
            case rel => exact ⟨nx2, false, by go_num, rfl, by omega, HSG, Lib.hid (by rw [HE.out, HY.out]; simp)⟩
            case measure => simp [intOf]; omega
end Go.Proofs.YtipepbnmllbonaaGreatDoor
namespace Go.Proofs.YtipepbnmllbonaaGreatDoor
open Go.RowKit

set_option maxRecDepth 100000 in
set_option maxHeartbeats 4000000 in
theorem matchEnd (s q : ByteArray) (w : World) :
    Calls Tryz.prog 165 #[.string s, .int .i64 s.size, .string q, .int .i64 q.size] w fun e w' => e = .returned (.bool true) ∧ w = w' := by
  have h1 : ((s.size : Int) == (s.size : Int)) = true := by simp
  go_enter Tryz.func165, Tryz.ntmps165
  go_wp2
  go_ret
  exact ⟨ret_bool (by simp), rfl⟩

set_option maxRecDepth 100000 in
set_option maxHeartbeats 4000000 in
theorem matchOne (s q : ByteArray) (i n k : Nat) (p : Pc) (c : UInt8) (hs : s.size ≤ 60) (hp : pieceL (s.data.toList.drop i) = some (p, n)) (hst : p.isStar = false) (hn : i + n = s.size) (hk : k + 1 = q.size) (hq : q.size ≤ 1000) (hc : q.data.toList[k]? = some c) (w : World) :
    Calls Tryz.prog 165 #[.string s, .int .i64 i, .string q, .int .i64 k] w fun e w' => e = .returned (.bool (p.has c)) ∧ w = w' := by
  have hsz : s.data.toList.length = s.size := by simp
  obtain ⟨hn1, hn2⟩ := pieceL_pos hp
  have hi : i < s.size := by omega
  have hsi : (s.size : Int) ≤ 60 := by omega
  have hii : (i : Int) < (s.size : Int) := by omega
  have hne : ((i : Int) == (s.size : Int)) = false := by simp; omega
  have hki : (k : Int) < (q.size : Int) := by omega
  have hk1 : (k : Int) + 1 = (q.size : Int) := by omega
  have hqi : (q.size : Int) ≤ 1000 := by omega
  have hkq : k < q.size := by omega
  have hcq : q[k] = c := by
    have := at_byte q k hkq
    rw [hc] at this
    exact (Option.some.inj this).symm
  have CE := Lib.hid (fun W => matchEnd s q W)
  have hD := drop_one _ (at_byte s i hi)
  obtain ⟨x, hx⟩ : ∃ x : UInt8, s[i] = x := ⟨_, rfl⟩
  rw [hx] at hD
  by_cases h1 : x.toNat = 42
  · exfalso
    rw [hD, u8_is (c := 42) h1, pieceL_star] at hp
    cases hp; cases hst
  have c1 : ((x.toNat : Int) == 42) = false := byte_f h1
  by_cases h2 : x.toNat = 63
  · have c2 : ((x.toNat : Int) == 63) = true := byte_t h2
    rw [hD, u8_is (c := 63) h2, pieceL_any] at hp
    cases hp
    have e1 : (i : Int) + 1 = (s.size : Int) := by omega
    rw [← e1, ← hk1] at CE
    clear hD h1 h2 hc hst hn1 hn2 hsz hcq e1 hk1 hk hn hs
    go_enter Tryz.func165, Tryz.ntmps165
    go_wp2_with fail
    refine (CE.out _).mono ?_
    rintro e W1 ⟨rfl, rfl⟩
    go_wp2
    go_ret
    exact ⟨rfl, rfl⟩
  have c2 : ((x.toNat : Int) == 63) = false := byte_f h2
  by_cases h3 : x.toNat = 91
  · have c3 : ((x.toNat : Int) == 91) = true := byte_t h3
    rw [u8_is (c := 91) h3] at hD
    have CS := Lib.hid (fun W => specSet_loop s i hi hs W)
    cases hO : setO s.data.toList i with
    | none => rw [setO_none hD hO] at hp; cases hp
    | some e0 =>
      obtain ⟨m, hm1, hm2, hp2, he1, he2, he3⟩ := setO_some hD hO
      rw [hp2] at hp
      have hpe : p = .set (headIs 33 (s.data.toList.drop (i + 1))) (bodyL ((s.data.toList.drop (i + 1 + setN (s.data.toList.drop (i + 1)))).take m)) := by cases hp; rfl
      have hne2 : e0 + 1 - i = n := by cases hp; rfl
      have CI := Lib.hid (fun W => specSetIn s i e0 m c hs (by omega) hm1 hm2 W)
      have HV := Lib.hid (show p.has c = (((bodyL ((s.data.toList.drop (i + 1 + setN (s.data.toList.drop (i + 1)))).take m)).any (inR c)) != headIs 33 (s.data.toList.drop (i + 1))) by rw [hpe]; rfl)
      generalize (((bodyL ((s.data.toList.drop (i + 1 + setN (s.data.toList.drop (i + 1)))).take m)).any (inR c)) != headIs 33 (s.data.toList.drop (i + 1))) = b at CI HV
      rw [HV.out]
      rw [hO] at CS
      have CS2 := Lib.hid (show ∀ W : World, Calls Tryz.prog 164 #[.string s, .int .i64 i] W fun e w' => e = .returned (.int .i64 e0) ∧ W = w' from CS.out)
      have e1 : (e0 : Int) + 1 = (s.size : Int) := by omega
      rw [← e1, ← hk1] at CE
      have he0i : (e0 : Int) ≤ 59 := by omega
      have he0j : (0 : Int) ≤ (e0 : Int) := by omega
      clear hD h1 h2 h3 hc hst hn1 hn2 hsz CS hO hm1 hm2 hp hp2 he1 he2 hpe HV e1 hk1 hk hn hs hne2
      cases b with
      | false =>
        go_enter Tryz.func165, Tryz.ntmps165
        go_wp2_with fail
        refine (CS2.out _).mono ?_
        rintro e W1 ⟨rfl, rfl⟩
        go_wp2_with fail
        refine (CI.out _).mono ?_
        rintro e W1 ⟨rfl, rfl⟩
        go_wp2
        go_ret
        exact ⟨rfl, rfl⟩
      | true =>
        go_enter Tryz.func165, Tryz.ntmps165
        go_wp2_with fail
        refine (CS2.out _).mono ?_
        rintro e W1 ⟨rfl, rfl⟩
        go_wp2_with fail
        refine (CI.out _).mono ?_
        rintro e W1 ⟨rfl, rfl⟩
        go_wp2_with fail
        refine (CE.out _).mono ?_
        rintro e W1 ⟨rfl, rfl⟩
        go_wp2
        go_ret
        exact ⟨rfl, rfl⟩
  have c3 : ((x.toNat : Int) == 91) = false := byte_f h3
  have n1 : x ≠ 42 := fun e => h1 (by rw [e]; rfl)
  have n2 : x ≠ 63 := fun e => h2 (by rw [e]; rfl)
  have n3 : x ≠ 91 := fun e => h3 (by rw [e]; rfl)
  have HB := Lib.hid (show ∃ b, p = .sign b ∧ signL (s.data.toList.drop i) = some (b, s.data.toList.drop s.size) by
    rw [show s.data.toList.drop s.size = [] from List.drop_eq_nil_of_le (by omega)]
    have hlen : (s.data.toList.drop i).length = n := by rw [List.length_drop]; omega
    rw [hD] at hp hlen ⊢
    by_cases h4 : x = 92
    · subst h4
      cases hr : s.data.toList.drop (i + 1) with
      | nil => rw [hr] at hp; cases hp
      | cons d t =>
        rw [hr] at hp hlen
        rw [pieceL_esc] at hp
        cases hp
        have : t = [] := by simpa using hlen
        subst this
        exact ⟨d, rfl, rfl⟩
    · rw [pieceL_sign _ n1 n2 n3 h4] at hp
      cases hp
      have : s.data.toList.drop (i + 1) = [] := List.eq_nil_of_length_eq_zero (by simp at hlen ⊢; omega)
      rw [this]
      exact ⟨x, rfl, signL_plain [] h4⟩)
  obtain ⟨b, hb1, hb2⟩ := HB.out
  have C1 := Lib.hid (fun W => specOne s i s.size b hs hb2 hi (Nat.le_refl _) W)
  rw [← hk1] at CE
  subst hb1
  have HV := Lib.hid (show Pc.has c (.sign b) = (c == b) from rfl)
  rw [HV.out]
  clear hD h1 h2 h3 hc hst hn1 hn2 hsz n1 n2 n3 HB hb2 hp HV hk1 hk hn hs
  by_cases hcb : c.toNat = b.toNat
  · have d1 : ((c.toNat : Int) == (b.toNat : Int)) = true := byte_t hcb
    have HE := Lib.hid (show (c == b) = true by rw [u8_is hcb]; simp)
    rw [HE.out]
    clear hcb
    go_enter Tryz.func165, Tryz.ntmps165
    go_wp2_with fail
    refine (C1.out _).mono ?_
    rintro e W1 ⟨rfl, rfl⟩
    go_wp2_with fail
    refine (CE.out _).mono ?_
    rintro e W1 ⟨rfl, rfl⟩
    go_wp2
    go_ret
    exact ⟨rfl, rfl⟩
  · have d1 : ((c.toNat : Int) == (b.toNat : Int)) = false := byte_f hcb
    have HE := Lib.hid (show (c == b) = false by simp; intro e; exact hcb (by rw [e]))
    rw [HE.out]
    clear hcb
    go_enter Tryz.func165, Tryz.ntmps165
    go_wp2_with fail
    refine (C1.out _).mono ?_
    rintro e W1 ⟨rfl, rfl⟩
    go_wp2
    go_ret
    exact ⟨rfl, rfl⟩
end Go.Proofs.YtipepbnmllbonaaGreatDoor
