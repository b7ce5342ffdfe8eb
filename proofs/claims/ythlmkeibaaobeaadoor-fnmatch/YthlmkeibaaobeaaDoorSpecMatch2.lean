/- spec.l05Match at a piece that stands alone. -/
import Derived.Test.YthlmkeibaaobeaaDoorSpecMatch
import Derived.Test.YthlmkeibaaobeaaDoorMatchV
namespace Go.Proofs.YthlmkeibaaobeaaDoor
open Go.RowKit

set_option maxRecDepth 100000 in
set_option maxHeartbeats 4000000 in
theorem matchEnd (s q : ByteArray) (w : World) :
    Calls Tryd.prog 38 #[.string s, .int .i64 s.size, .string q, .int .i64 q.size] w fun e w' => e = .returned (.bool true) ∧ w = w' := by
  have h1 : ((s.size : Int) == (s.size : Int)) = true := by simp
  go_enter Tryd.func38, Tryd.ntmps38
  go_wp2
  go_ret
  exact ⟨ret_bool (by simp), rfl⟩

set_option maxRecDepth 100000 in
set_option maxHeartbeats 4000000 in
theorem matchOne (s q : ByteArray) (i n k : Nat) (p : Pc) (c : UInt8) (hs : s.size ≤ 60) (hp : pieceL (s.data.toList.drop i) = some (p, n)) (hst : p.isStar = false) (hn : i + n = s.size) (hk : k + 1 = q.size) (hq : q.size ≤ 1000) (hc : q.data.toList[k]? = some c) (w : World) :
    Calls Tryd.prog 38 #[.string s, .int .i64 i, .string q, .int .i64 k] w fun e w' => e = .returned (.bool (p.has c)) ∧ w = w' := by
  have hsz : s.data.toList.length = s.size := by simp
  obtain ⟨hn1, hn2⟩ := pieceL_pos hp
  have hi : i < s.size := by omega
  have hsi : (s.size : Int) ≤ 60 := by omega
  have hii : (i : Int) < (s.size : Int) := by omega
  have hne : ((i : Int) == (s.size : Int)) = false := by simp; omega
  have hki : (k : Int) < (q.size : Int) := by omega
  have hk1 : (k : Int) + 1 = (q.size : Int) := by omega
  have hqi : (q.size : Int) ≤ 1000 := by omega
  have hkq : k < q.size := by omega
  have hcq : q[k] = c := by
    have := at_byte q k hkq
    rw [hc] at this
    exact (Option.some.inj this).symm
  have CE := Lib.hid (fun W => matchEnd s q W)
  have hD := drop_one _ (at_byte s i hi)
  obtain ⟨x, hx⟩ : ∃ x : UInt8, s[i] = x := ⟨_, rfl⟩
  rw [hx] at hD
  by_cases h1 : x.toNat = 42
  · exfalso
    rw [hD, u8_is (c := 42) h1, pieceL_star] at hp
    cases hp; cases hst
  have c1 : ((x.toNat : Int) == 42) = false := byte_f h1
  by_cases h2 : x.toNat = 63
  · have c2 : ((x.toNat : Int) == 63) = true := byte_t h2
    rw [hD, u8_is (c := 63) h2, pieceL_any] at hp
    cases hp
    have e1 : (i : Int) + 1 = (s.size : Int) := by omega
    rw [← e1, ← hk1] at CE
    clear hD h1 h2 hc hst hn1 hn2 hsz hcq e1 hk1 hk hn hs
    go_enter Tryd.func38, Tryd.ntmps38
    go_wp2_with fail
    refine (CE.out _).mono ?_
    rintro e W1 ⟨rfl, rfl⟩
    go_wp2
    go_ret
    exact ⟨rfl, rfl⟩
  have c2 : ((x.toNat : Int) == 63) = false := byte_f h2
  by_cases h3 : x.toNat = 91
  · have c3 : ((x.toNat : Int) == 91) = true := byte_t h3
    rw [u8_is (c := 91) h3] at hD
    have CS := Lib.hid (fun W => specSet_loop s i hi hs W)
    cases hO : setO s.data.toList i with
    | none => rw [setO_none hD hO] at hp; cases hp
    | some e0 =>
      obtain ⟨m, hm1, hm2, hp2, he1, he2, he3⟩ := setO_some hD hO
      rw [hp2] at hp
      have hpe : p = .set (headIs 33 (s.data.toList.drop (i + 1))) (bodyL ((s.data.toList.drop (i + 1 + setN (s.data.toList.drop (i + 1)))).take m)) := by cases hp; rfl
      have hne2 : e0 + 1 - i = n := by cases hp; rfl
      have CI := Lib.hid (fun W => specSetIn s i e0 m c hs (by omega) hm1 hm2 W)
      have HV := Lib.hid (show p.has c = (((bodyL ((s.data.toList.drop (i + 1 + setN (s.data.toList.drop (i + 1)))).take m)).any (inR c)) != headIs 33 (s.data.toList.drop (i + 1))) by rw [hpe]; rfl)
      generalize (((bodyL ((s.data.toList.drop (i + 1 + setN (s.data.toList.drop (i + 1)))).take m)).any (inR c)) != headIs 33 (s.data.toList.drop (i + 1))) = b at CI HV
      rw [HV.out]
      rw [hO] at CS
      have CS2 := Lib.hid (show ∀ W : World, Calls Tryd.prog 24 #[.string s, .int .i64 i] W fun e w' => e = .returned (.int .i64 e0) ∧ W = w' from CS.out)
      have e1 : (e0 : Int) + 1 = (s.size : Int) := by omega
      rw [← e1, ← hk1] at CE
      have he0i : (e0 : Int) ≤ 59 := by omega
      have he0j : (0 : Int) ≤ (e0 : Int) := by omega
      clear hD h1 h2 h3 hc hst hn1 hn2 hsz CS hO hm1 hm2 hp hp2 he1 he2 hpe HV e1 hk1 hk hn hs hne2
      cases b with
      | false =>
        go_enter Tryd.func38, Tryd.ntmps38
        go_wp2_with fail
        refine (CS2.out _).mono ?_
        rintro e W1 ⟨rfl, rfl⟩
        go_wp2_with fail
        refine (CI.out _).mono ?_
        rintro e W1 ⟨rfl, rfl⟩
        go_wp2
        go_ret
        exact ⟨rfl, rfl⟩
      | true =>
        go_enter Tryd.func38, Tryd.ntmps38
        go_wp2_with fail
        refine (CS2.out _).mono ?_
        rintro e W1 ⟨rfl, rfl⟩
        go_wp2_with fail
        refine (CI.out _).mono ?_
        rintro e W1 ⟨rfl, rfl⟩
        go_wp2_with fail
        refine (CE.out _).mono ?_
        rintro e W1 ⟨rfl, rfl⟩
        go_wp2
        go_ret
        exact ⟨rfl, rfl⟩
  have c3 : ((x.toNat : Int) == 91) = false := byte_f h3
  have n1 : x ≠ 42 := fun e => h1 (by rw [e]; rfl)
  have n2 : x ≠ 63 := fun e => h2 (by rw [e]; rfl)
  have n3 : x ≠ 91 := fun e => h3 (by rw [e]; rfl)
  have HB := Lib.hid (show ∃ b, p = .sign b ∧ signL (s.data.toList.drop i) = some (b, s.data.toList.drop s.size) by
    rw [show s.data.toList.drop s.size = [] from List.drop_eq_nil_of_le (by omega)]
    have hlen : (s.data.toList.drop i).length = n := by rw [List.length_drop]; omega
    rw [hD] at hp hlen ⊢
    by_cases h4 : x = 92
    · subst h4
      cases hr : s.data.toList.drop (i + 1) with
      | nil => rw [hr] at hp; cases hp
      | cons d t =>
        rw [hr] at hp hlen
        rw [pieceL_esc] at hp
        cases hp
        have : t = [] := by simpa using hlen
        subst this
        exact ⟨d, rfl, rfl⟩
    · rw [pieceL_sign _ n1 n2 n3 h4] at hp
      cases hp
      have : s.data.toList.drop (i + 1) = [] := List.eq_nil_of_length_eq_zero (by simp at hlen ⊢; omega)
      rw [this]
      exact ⟨x, rfl, signL_plain [] h4⟩)
  obtain ⟨b, hb1, hb2⟩ := HB.out
  have C1 := Lib.hid (fun W => specOne s i s.size b hs hb2 hi (Nat.le_refl _) W)
  rw [← hk1] at CE
  subst hb1
  have HV := Lib.hid (show Pc.has c (.sign b) = (c == b) from rfl)
  rw [HV.out]
  clear hD h1 h2 h3 hc hst hn1 hn2 hsz n1 n2 n3 HB hb2 hp HV hk1 hk hn hs
  by_cases hcb : c.toNat = b.toNat
  · have d1 : ((c.toNat : Int) == (b.toNat : Int)) = true := byte_t hcb
    have HE := Lib.hid (show (c == b) = true by rw [u8_is hcb]; simp)
    rw [HE.out]
    clear hcb
    go_enter Tryd.func38, Tryd.ntmps38
    go_wp2_with fail
    refine (C1.out _).mono ?_
    rintro e W1 ⟨rfl, rfl⟩
    go_wp2_with fail
    refine (CE.out _).mono ?_
    rintro e W1 ⟨rfl, rfl⟩
    go_wp2
    go_ret
    exact ⟨rfl, rfl⟩
  · have d1 : ((c.toNat : Int) == (b.toNat : Int)) = false := byte_f hcb
    have HE := Lib.hid (show (c == b) = false by simp; intro e; exact hcb (by rw [e]))
    rw [HE.out]
    clear hcb
    go_enter Tryd.func38, Tryd.ntmps38
    go_wp2_with fail
    refine (C1.out _).mono ?_
    rintro e W1 ⟨rfl, rfl⟩
    go_wp2
    go_ret
    exact ⟨rfl, rfl⟩
end Go.Proofs.YthlmkeibaaobeaaDoor
