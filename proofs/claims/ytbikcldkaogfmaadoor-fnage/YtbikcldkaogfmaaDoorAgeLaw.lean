/- Proved: laws.FnAge answers true at every code: an age that is drawn comes back from its text, which is what spec.AgeText tells; sizes of a drawn number without a letter, with k, M and G are as the letters say, and ages in minutes are 60 times those in seconds; the argument reads as before. The listed tables (the letters of ages, those of the standard library) are tied to the program's text; the card speaks of the pruned copy of the project that the seat holds. -/
import Derived.Test.YtbikcldkaogfmaaDoorAgeTextS
import Derived.Test.YtbikcldkaogfmaaDoorAgeTextI
import Derived.Test.YtbikcldkaogfmaaDoorAgeBack
import Derived.Test.YtbikcldkaogfmaaDoorImplSize
import Derived.Test.YtbikcldkaogfmaaDoorDrawAges
import Derived.Test.YtbikcldkaogfmaaDoorBig
namespace Go.Proofs.YtbikcldkaogfmaaDoor
open Go.RowKit

theorem sizeAt (l : List UInt8) (z : Int) (hl : l.length ≤ 1000) (hz : sizeV l = z) (W : World) :
    Calls Tryd.prog 21 #[.string (strOf l)] W fun e w' => e = .returned (.int .i64 z) ∧ Below W.heap.size W w' := by
  refine (implSizeOf (strOf l) W (by rw [strOf_size]; unfold maxLen; omega)).mono ?_
  rintro e w' ⟨rfl, hb⟩
  rw [strOf_data, hz]
  exact ⟨rfl, hb⟩
theorem ageAt (l : List UInt8) (z : Int) (hl : l.length ≤ 1000) (hz : ageV l = z) (W : World) (hT : TabsU W) :
    Calls Tryd.prog 18 #[.string (strOf l)] W fun e w' => e = .returned (.int .i64 z) ∧ Below W.heap.size W w' := by
  refine (implAgeOf (strOf l) W (by rw [strOf_size]; omega) hT).mono ?_
  rintro e w' ⟨rfl, hb⟩
  rw [strOf_data, hz]
  exact ⟨rfl, hb⟩
theorem text_some {l : List UInt8} (h : l ≠ []) : (strOf l).toList.isEmpty = false := by
  rw [Lib.toList_data, strOf_data]
  cases l with
  | nil => exact absurd rfl h
  | cons a t => rfl

set_option maxRecDepth 100000 in
set_option maxHeartbeats 8000000 in
theorem walkFnAge (a : Option Addr) (len cap : Nat) (zs : List Int) (w : World) (hr : IsRow .u8 w a len cap zs) (hT : TabsB w) :
    Calls Tryd.prog 4 #[.slice a len cap] w fun e w' => e = .returned (.bool true) ∧ Below w.heap.size w w' := by
  by_cases hlen : len ≤ 1048576
  · have CT := Lib.hid (fun W (h : Below w.heap.size w W) => hT.on h)
    have HR := Lib.hid hr
    clear hT hr
    go_enter Tryd.func4, Tryd.ntmps4
    go_wp2_with fail
    refine (bigF _ _ _ _ hlen).mono ?_
    rintro e w' ⟨rfl, rfl⟩
    go_wp2_with fail
    refine (specDrawAgeText w _ a len cap zs HR.out (Below.refl _ _) hlen).mono ?_
    rintro e W1 ⟨⟨n, rfl⟩, hB1⟩
    go_wp2_with fail
    refine (implAgeText n _ (CT.out _ hB1)).mono ?_
    rintro e W2 ⟨rfl, hb2⟩
    have hB2 := hB1.trans (hb2.mono hB1.size)
    go_wp2_with fail
    refine (specAgeText n _).mono ?_
    rintro e W3 ⟨rfl, hb3⟩
    have hB3 := hB2.trans (hb3.mono hB2.size)
    clear hb2 hb3 hB1 hB2
    have hback := age_back n
    have hlenT := ageTextV_len n
    generalize ageTextV n = q at hback hlenT
    --TAIL
    by_cases hq : q = []
    · subst hq
      have he : (strOf []).toList.isEmpty = true := by rw [Lib.toList_data, strOf_data]; rfl
      have hB4 := hB3
      clear hback hB3 hlenT
      go_wp2_with fail
      refine (lawsAt w _ a len cap 1 zs HR.out hB4 hlen (by omega)).mono ?_
      rintro e W' ⟨⟨x, rfl, hx0, hx1⟩, rfl⟩
      go_wp2_with fail
      refine (lawsAt w _ a len cap 2 zs HR.out hB4 hlen (by omega)).mono ?_
      rintro e W' ⟨⟨y, rfl, hy0, hy1⟩, rfl⟩
      go_wp2_with fail
      obtain ⟨k, hk⟩ : ∃ k, x * 256 + y + 1 = k := ⟨_, rfl⟩
      have hk0 : 1 ≤ k := by omega
      have hk1 : k ≤ 65536 := by omega
      rw [hk]
      clear hk hx0 hx1 hy0 hy1
      refine (specDecText k _ (by omega) (by omega)).mono ?_
      rintro e W' ⟨rfl, rfl⟩
      have hlD := (itoa_facts k (by omega) (by omega)).2.2.2
      have Z0 := size_plain k (by omega) (by omega)
      have Zk := size_lettered k (by omega) (by omega) 107 1024 rfl (by decide)
      have ZM := size_lettered k (by omega) (by omega) 77 1048576 rfl (by decide)
      have ZG := size_lettered k (by omega) (by omega) 71 1073741824 rfl (by decide)
      have Am := age_lettered k (by omega) (by omega) 109 60 rfl rfl (by decide) (by decide)
      have As := age_lettered k (by omega) (by omega) 115 1 rfl rfl (by decide) (by decide)
      rw [Int.mul_one] at As
      generalize Lib.itoa k = d at hlD Z0 Zk ZM ZG Am As
      have ha107 : ∀ W : World, (Op.stringOp .add (strOf d) ⟨#[107]⟩).run Tryd.prog W = .ok (.string (strOf (d ++ [107]))) W := fun W => run_add _ [107] (by simp; omega) W
      have ha77 : ∀ W : World, (Op.stringOp .add (strOf d) ⟨#[77]⟩).run Tryd.prog W = .ok (.string (strOf (d ++ [77]))) W := fun W => run_add _ [77] (by simp; omega) W
      have ha71 : ∀ W : World, (Op.stringOp .add (strOf d) ⟨#[71]⟩).run Tryd.prog W = .ok (.string (strOf (d ++ [71]))) W := fun W => run_add _ [71] (by simp; omega) W
      have ha109 : ∀ W : World, (Op.stringOp .add (strOf d) ⟨#[109]⟩).run Tryd.prog W = .ok (.string (strOf (d ++ [109]))) W := fun W => run_add _ [109] (by simp; omega) W
      have ha115 : ∀ W : World, (Op.stringOp .add (strOf d) ⟨#[115]⟩).run Tryd.prog W = .ok (.string (strOf (d ++ [115]))) W := fun W => run_add _ [115] (by simp; omega) W
      have C0 := Lib.hid (fun W => sizeAt d k (by omega) Z0 W)
      have Ck := Lib.hid (fun W => sizeAt (d ++ [107]) _ (by simp; omega) Zk W)
      have CM := Lib.hid (fun W => sizeAt (d ++ [77]) _ (by simp; omega) ZM W)
      have CG := Lib.hid (fun W => sizeAt (d ++ [71]) _ (by simp; omega) ZG W)
      have Cm := Lib.hid (fun W h => ageAt (d ++ [109]) _ (by simp; omega) Am W h)
      have Cs := Lib.hid (fun W h => ageAt (d ++ [115]) _ (by simp; omega) As W h)
      clear Z0 Zk ZM ZG Am As hlD
      go_wp2_with fail
      refine (C0.out _).mono ?_
      rintro e W5 ⟨rfl, hb5⟩
      have hB5 := hB4.trans (hb5.mono hB4.size)
      clear hb5 hB4
      go_wp2_with fail
      refine (Ck.out _).mono ?_
      rintro e W6 ⟨rfl, hb6⟩
      have hB6 := hB5.trans (hb6.mono hB5.size)
      clear hb6 hB5
      go_wp2_with fail
      refine (CM.out _).mono ?_
      rintro e W7 ⟨rfl, hb7⟩
      have hB7 := hB6.trans (hb7.mono hB6.size)
      clear hb7 hB6
      go_wp2_with fail
      refine (Ck.out _).mono ?_
      rintro e W8 ⟨rfl, hb8⟩
      have hB8 := hB7.trans (hb8.mono hB7.size)
      clear hb8 hB7
      go_wp2_with fail
      refine (CG.out _).mono ?_
      rintro e W9 ⟨rfl, hb9⟩
      have hB9 := hB8.trans (hb9.mono hB8.size)
      clear hb9 hB8
      go_wp2_with fail
      refine (CM.out _).mono ?_
      rintro e W10 ⟨rfl, hb10⟩
      have hB10 := hB9.trans (hb10.mono hB9.size)
      clear hb10 hB9
      go_wp2_with fail
      refine (Cm.out _ (CT.out _ hB10).u).mono ?_
      rintro e W11 ⟨rfl, hb11⟩
      have hB11 := hB10.trans (hb11.mono hB10.size)
      clear hb11 hB10
      go_wp2_with fail
      refine (Cs.out _ (CT.out _ hB11).u).mono ?_
      rintro e W12 ⟨rfl, hb12⟩
      have hB12 := hB11.trans (hb12.mono hB11.size)
      clear hb12 hB11
      go_wp2
      go_ret
      exact ⟨ret_bool (by first | rfl | (simp; omega)), hB12⟩
    · have he := text_some hq
      have CA := Lib.hid (fun W h => ageAt q _ hlenT (hback hq) W h)
      clear hback hq hlenT
      go_wp2_with fail
      refine (CA.out _ (CT.out _ hB3).u).mono ?_
      rintro e W4 ⟨rfl, hb4⟩
      have hB4 := hB3.trans (hb4.mono hB3.size)
      clear hb4 hB3 CA
      go_wp2_with fail
      refine (lawsAt w _ a len cap 1 zs HR.out hB4 hlen (by omega)).mono ?_
      rintro e W' ⟨⟨x, rfl, hx0, hx1⟩, rfl⟩
      go_wp2_with fail
      refine (lawsAt w _ a len cap 2 zs HR.out hB4 hlen (by omega)).mono ?_
      rintro e W' ⟨⟨y, rfl, hy0, hy1⟩, rfl⟩
      go_wp2_with fail
      obtain ⟨k, hk⟩ : ∃ k, x * 256 + y + 1 = k := ⟨_, rfl⟩
      have hk0 : 1 ≤ k := by omega
      have hk1 : k ≤ 65536 := by omega
      rw [hk]
      clear hk hx0 hx1 hy0 hy1
      refine (specDecText k _ (by omega) (by omega)).mono ?_
      rintro e W' ⟨rfl, rfl⟩
      have hlD := (itoa_facts k (by omega) (by omega)).2.2.2
      have Z0 := size_plain k (by omega) (by omega)
      have Zk := size_lettered k (by omega) (by omega) 107 1024 rfl (by decide)
      have ZM := size_lettered k (by omega) (by omega) 77 1048576 rfl (by decide)
      have ZG := size_lettered k (by omega) (by omega) 71 1073741824 rfl (by decide)
      have Am := age_lettered k (by omega) (by omega) 109 60 rfl rfl (by decide) (by decide)
      have As := age_lettered k (by omega) (by omega) 115 1 rfl rfl (by decide) (by decide)
      rw [Int.mul_one] at As
      generalize Lib.itoa k = d at hlD Z0 Zk ZM ZG Am As
      have ha107 : ∀ W : World, (Op.stringOp .add (strOf d) ⟨#[107]⟩).run Tryd.prog W = .ok (.string (strOf (d ++ [107]))) W := fun W => run_add _ [107] (by simp; omega) W
      have ha77 : ∀ W : World, (Op.stringOp .add (strOf d) ⟨#[77]⟩).run Tryd.prog W = .ok (.string (strOf (d ++ [77]))) W := fun W => run_add _ [77] (by simp; omega) W
      have ha71 : ∀ W : World, (Op.stringOp .add (strOf d) ⟨#[71]⟩).run Tryd.prog W = .ok (.string (strOf (d ++ [71]))) W := fun W => run_add _ [71] (by simp; omega) W
      have ha109 : ∀ W : World, (Op.stringOp .add (strOf d) ⟨#[109]⟩).run Tryd.prog W = .ok (.string (strOf (d ++ [109]))) W := fun W => run_add _ [109] (by simp; omega) W
      have ha115 : ∀ W : World, (Op.stringOp .add (strOf d) ⟨#[115]⟩).run Tryd.prog W = .ok (.string (strOf (d ++ [115]))) W := fun W => run_add _ [115] (by simp; omega) W
      have C0 := Lib.hid (fun W => sizeAt d k (by omega) Z0 W)
      have Ck := Lib.hid (fun W => sizeAt (d ++ [107]) _ (by simp; omega) Zk W)
      have CM := Lib.hid (fun W => sizeAt (d ++ [77]) _ (by simp; omega) ZM W)
      have CG := Lib.hid (fun W => sizeAt (d ++ [71]) _ (by simp; omega) ZG W)
      have Cm := Lib.hid (fun W h => ageAt (d ++ [109]) _ (by simp; omega) Am W h)
      have Cs := Lib.hid (fun W h => ageAt (d ++ [115]) _ (by simp; omega) As W h)
      clear Z0 Zk ZM ZG Am As hlD
      go_wp2_with fail
      refine (C0.out _).mono ?_
      rintro e W5 ⟨rfl, hb5⟩
      have hB5 := hB4.trans (hb5.mono hB4.size)
      clear hb5 hB4
      go_wp2_with fail
      refine (Ck.out _).mono ?_
      rintro e W6 ⟨rfl, hb6⟩
      have hB6 := hB5.trans (hb6.mono hB5.size)
      clear hb6 hB5
      go_wp2_with fail
      refine (CM.out _).mono ?_
      rintro e W7 ⟨rfl, hb7⟩
      have hB7 := hB6.trans (hb7.mono hB6.size)
      clear hb7 hB6
      go_wp2_with fail
      refine (Ck.out _).mono ?_
      rintro e W8 ⟨rfl, hb8⟩
      have hB8 := hB7.trans (hb8.mono hB7.size)
      clear hb8 hB7
      go_wp2_with fail
      refine (CG.out _).mono ?_
      rintro e W9 ⟨rfl, hb9⟩
      have hB9 := hB8.trans (hb9.mono hB8.size)
      clear hb9 hB8
      go_wp2_with fail
      refine (CM.out _).mono ?_
      rintro e W10 ⟨rfl, hb10⟩
      have hB10 := hB9.trans (hb10.mono hB9.size)
      clear hb10 hB9
      go_wp2_with fail
      refine (Cm.out _ (CT.out _ hB10).u).mono ?_
      rintro e W11 ⟨rfl, hb11⟩
      have hB11 := hB10.trans (hb11.mono hB10.size)
      clear hb11 hB10
      go_wp2_with fail
      refine (Cs.out _ (CT.out _ hB11).u).mono ?_
      rintro e W12 ⟨rfl, hb12⟩
      have hB12 := hB11.trans (hb12.mono hB11.size)
      clear hb12 hB11
      go_wp2
      go_ret
      exact ⟨ret_bool (by first | rfl | (simp; omega)), hB12⟩
  · go_enter Tryd.func4, Tryd.ntmps4
    go_wp2_with fail
    refine (bigT _ _ _ _ hlen).mono ?_
    rintro e w' ⟨rfl, rfl⟩
    go_wp2
    go_ret
    exact ⟨rfl, Below.refl _ _⟩
end Go.Proofs.YtbikcldkaogfmaaDoor
