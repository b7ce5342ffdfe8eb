/- What a letter of a format stands for; the contract of spec.l03Field. -/
import Derived.Test.YtbikcldkaogfmaaDoorDays4
import Derived.Test.YtbikcldkaogfmaaDoorPad
namespace Go.Proofs.YtbikcldkaogfmaaDoor
open Go.RowKit

/-- A letter's text at a date (% aside). -/
def fieldV (c : UInt8) (x : Dt) : Option (List UInt8) :=
  if c = 89 then some (padV x.y 4) else if c = 109 then some (padV x.mo 2) else if c = 100 then some (padV x.d 2) else if c = 72 then some (padV x.h 2)
  else if c = 77 then some (padV x.mi 2) else if c = 83 then some (padV x.s 2) else if c = 106 then some (padV (msum x.y x.mo + x.d) 3) else if c = 115 then some (Lib.itoa x.time) else none
def fieldS (c : UInt8) (x : Dt) : Option (List UInt8) := if c = 37 then some [37] else fieldV c x
def digS (c : UInt8) : Int :=
  if c = 89 then 4 else if c = 109 then 2 else if c = 100 then 2 else if c = 72 then 2 else if c = 77 then 2 else if c = 83 then 2 else if c = 106 then 3 else if c = 115 then 0 else if c = 37 then 1 else 0
theorem Dt.Ok.fields {x : Dt} (h : x.Ok) : (1970 ≤ x.y ∧ x.y ≤ 9999) ∧ (1 ≤ x.mo ∧ x.mo ≤ 12) ∧ (1 ≤ x.d ∧ x.d ≤ 31) ∧ (0 ≤ x.h ∧ x.h ≤ 23) ∧ (0 ≤ x.mi ∧ x.mi ≤ 59) ∧ (0 ≤ x.s ∧ x.s ≤ 59) ∧ (1 ≤ msum x.y x.mo + x.d ∧ msum x.y x.mo + x.d ≤ 366) := by
  have h1 := mlen_bd x.y x.mo
  have h2 := h.yday
  have h3 := ylen_bd x.y
  have h4 := h.d1; have h5 := h.d2
  exact ⟨⟨h.y1, h.y2⟩, ⟨h.m1, h.m2⟩, ⟨by omega, by omega⟩, ⟨h.h1, h.h2⟩, ⟨h.i1, h.i2⟩, ⟨h.s1, h.s2⟩, by omega, by omega⟩
theorem ret3 {a a' b b' c c' : Value} (h1 : a = a') (h2 : b = b') (h3 : c = c') : Ending.returned (.tuple #[a, b, c]) = .returned (.tuple #[a', b', c']) := by rw [h1, h2, h3]
set_option maxRecDepth 100000 in
set_option maxHeartbeats 4000000 in
theorem specField (c : UInt8) (x : Dt) (hx : x.Ok) (w : World) :
    Calls Tryd.prog 34 #[.int .u8 c.toNat, .int .i64 x.time] w fun e w' => e = .returned (.tuple #[.string (strOf ((fieldS c x).getD [])), .int .i64 (digS c), .bool (fieldS c x).isSome]) ∧ Below w.heap.size w w' := by
  have ne : ∀ n : UInt8, c ≠ n → ((c.toNat : Int) == (n.toNat : Int)) = false := fun n h => by
    simp; intro e; exact h (UInt8.toNat_inj.mp (by omega))
  obtain ⟨⟨y1, y2⟩, ⟨m1, m2⟩, ⟨d1, d2⟩, ⟨h1, h2⟩, ⟨i1, i2⟩, ⟨s1, s2⟩, j1, j2⟩ := hx.fields
  have ht := hx.time_bd
  have CD := Lib.hid (fun W => specDateOfX x hx W)
  have CY := Lib.hid (fun W => specYearDay x hx W)
  by_cases k89 : c = 89
  · subst k89
    have CP := Lib.hid (fun W => specPadText x.y 4 W (by omega) (by omega))
    rw [show (fieldS 89 x) = some (padV x.y 4) from rfl, show digS 89 = 4 from rfl]
    generalize padV x.y 4 = q at CP
    clear ne
    go_enter Tryd.func34, Tryd.ntmps34
    go_wp2_with fail
    refine (CD.out _).mono ?_
    rintro e W1 ⟨rfl, hb1⟩
    have hsz := hb1.size
    go_wp2_with fail
    refine (CP.out _).mono ?_
    rintro e W3 ⟨rfl, rfl⟩
    go_wp2
    go_ret3
    exact ⟨rfl, hb1.alloc hsz _⟩
  by_cases k109 : c = 109
  · subst k109
    have CP := Lib.hid (fun W => specPadText (x.mo : Int) 2 W (by omega) (by omega))
    rw [show (fieldS 109 x) = some (padV (x.mo : Int) 2) from rfl, show digS 109 = 2 from rfl]
    generalize padV (x.mo : Int) 2 = q at CP
    clear ne
    go_enter Tryd.func34, Tryd.ntmps34
    go_wp2_with fail
    refine (CD.out _).mono ?_
    rintro e W1 ⟨rfl, hb1⟩
    have hsz := hb1.size
    go_wp2_with fail
    refine (CP.out _).mono ?_
    rintro e W3 ⟨rfl, rfl⟩
    go_wp2
    go_ret3
    exact ⟨rfl, hb1.alloc hsz _⟩
  by_cases k100 : c = 100
  · subst k100
    have CP := Lib.hid (fun W => specPadText x.d 2 W (by omega) (by omega))
    rw [show (fieldS 100 x) = some (padV x.d 2) from rfl, show digS 100 = 2 from rfl]
    generalize padV x.d 2 = q at CP
    clear ne
    go_enter Tryd.func34, Tryd.ntmps34
    go_wp2_with fail
    refine (CD.out _).mono ?_
    rintro e W1 ⟨rfl, hb1⟩
    have hsz := hb1.size
    go_wp2_with fail
    refine (CP.out _).mono ?_
    rintro e W3 ⟨rfl, rfl⟩
    go_wp2
    go_ret3
    exact ⟨rfl, hb1.alloc hsz _⟩
  by_cases k72 : c = 72
  · subst k72
    have CP := Lib.hid (fun W => specPadText x.h 2 W (by omega) (by omega))
    rw [show (fieldS 72 x) = some (padV x.h 2) from rfl, show digS 72 = 2 from rfl]
    generalize padV x.h 2 = q at CP
    clear ne
    go_enter Tryd.func34, Tryd.ntmps34
    go_wp2_with fail
    refine (CD.out _).mono ?_
    rintro e W1 ⟨rfl, hb1⟩
    have hsz := hb1.size
    go_wp2_with fail
    refine (CP.out _).mono ?_
    rintro e W3 ⟨rfl, rfl⟩
    go_wp2
    go_ret3
    exact ⟨rfl, hb1.alloc hsz _⟩
  by_cases k77 : c = 77
  · subst k77
    have CP := Lib.hid (fun W => specPadText x.mi 2 W (by omega) (by omega))
    rw [show (fieldS 77 x) = some (padV x.mi 2) from rfl, show digS 77 = 2 from rfl]
    generalize padV x.mi 2 = q at CP
    clear ne
    go_enter Tryd.func34, Tryd.ntmps34
    go_wp2_with fail
    refine (CD.out _).mono ?_
    rintro e W1 ⟨rfl, hb1⟩
    have hsz := hb1.size
    go_wp2_with fail
    refine (CP.out _).mono ?_
    rintro e W3 ⟨rfl, rfl⟩
    go_wp2
    go_ret3
    exact ⟨rfl, hb1.alloc hsz _⟩
  by_cases k83 : c = 83
  · subst k83
    have CP := Lib.hid (fun W => specPadText x.s 2 W (by omega) (by omega))
    rw [show (fieldS 83 x) = some (padV x.s 2) from rfl, show digS 83 = 2 from rfl]
    generalize padV x.s 2 = q at CP
    clear ne
    go_enter Tryd.func34, Tryd.ntmps34
    go_wp2_with fail
    refine (CD.out _).mono ?_
    rintro e W1 ⟨rfl, hb1⟩
    have hsz := hb1.size
    go_wp2_with fail
    refine (CP.out _).mono ?_
    rintro e W3 ⟨rfl, rfl⟩
    go_wp2
    go_ret3
    exact ⟨rfl, hb1.alloc hsz _⟩
  by_cases k106 : c = 106
  · subst k106
    have CP := Lib.hid (fun W => specPadText (msum x.y x.mo + x.d) 3 W (by omega) (by omega))
    rw [show (fieldS 106 x) = some (padV (msum x.y x.mo + x.d) 3) from rfl, show digS 106 = 3 from rfl]
    generalize padV (msum x.y x.mo + x.d) 3 = q at CP
    clear ne
    go_enter Tryd.func34, Tryd.ntmps34
    go_wp2_with fail
    refine (CD.out _).mono ?_
    rintro e W1 ⟨rfl, hb1⟩
    have hsz := hb1.size
    go_wp2_with fail
    refine (CY.out _).mono ?_
    rintro e W2 ⟨rfl, hb2⟩
    go_wp2_with fail
    refine (CP.out _).mono ?_
    rintro e W3 ⟨rfl, rfl⟩
    go_wp2
    go_ret3
    exact ⟨rfl, (hb1.alloc hsz _).trans (hb2.mono (hb1.alloc hsz _).size)⟩
  by_cases k115 : c = 115
  · subst k115
    have CP := Lib.hid (fun W => specDecText x.time W (by omega) (by omega))
    rw [show (fieldS 115 x) = some (Lib.itoa x.time) from rfl, show digS 115 = 0 from rfl]
    generalize Lib.itoa x.time = q at CP
    clear ne
    go_enter Tryd.func34, Tryd.ntmps34
    go_wp2_with fail
    refine (CD.out _).mono ?_
    rintro e W1 ⟨rfl, hb1⟩
    have hsz := hb1.size
    go_wp2_with fail
    refine (CP.out _).mono ?_
    rintro e W3 ⟨rfl, rfl⟩
    go_wp2
    go_ret3
    exact ⟨rfl, hb1.alloc hsz _⟩
  by_cases k37 : c = 37
  · subst k37
    rw [show (fieldS 37 x) = some [37] from rfl, show digS 37 = 1 from rfl]
    clear ne
    go_enter Tryd.func34, Tryd.ntmps34
    go_wp2_with fail
    refine (CD.out _).mono ?_
    rintro e W1 ⟨rfl, hb1⟩
    have hsz := hb1.size
    go_wp2
    go_ret3
    exact ⟨rfl, hb1.alloc hsz _⟩
  have n89 : ((c.toNat : Int) == 89) = false := ne 89 k89
  have n109 : ((c.toNat : Int) == 109) = false := ne 109 k109
  have n100 : ((c.toNat : Int) == 100) = false := ne 100 k100
  have n72 : ((c.toNat : Int) == 72) = false := ne 72 k72
  have n77 : ((c.toNat : Int) == 77) = false := ne 77 k77
  have n83 : ((c.toNat : Int) == 83) = false := ne 83 k83
  have n106 : ((c.toNat : Int) == 106) = false := ne 106 k106
  have n115 : ((c.toNat : Int) == 115) = false := ne 115 k115
  have n37 : ((c.toNat : Int) == 37) = false := ne 37 k37
  rw [show fieldS c x = none by unfold fieldS fieldV; rw [if_neg k37, if_neg k89, if_neg k109, if_neg k100, if_neg k72, if_neg k77, if_neg k83, if_neg k106, if_neg k115],
    show digS c = 0 by unfold digS; rw [if_neg k89, if_neg k109, if_neg k100, if_neg k72, if_neg k77, if_neg k83, if_neg k106, if_neg k115, if_neg k37]]
  clear ne
  go_enter Tryd.func34, Tryd.ntmps34
  go_wp2_with fail
  refine (CD.out _).mono ?_
  rintro e W1 ⟨rfl, hb1⟩
  have hsz := hb1.size
  go_wp2
  go_ret3
  exact ⟨rfl, hb1.alloc hsz _⟩
end Go.Proofs.YtbikcldkaogfmaaDoor
