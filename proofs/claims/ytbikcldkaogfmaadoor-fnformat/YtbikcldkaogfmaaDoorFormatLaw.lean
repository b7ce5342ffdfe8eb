/- Proved: laws.FnFormat answers true at every code: of a format and a text that are drawn impl.ReadDate tells what spec.ReadDate tells, and where that is a time, its Render is the text; a time that is drawn comes back from two formats that tell it, and its full text has 19 bytes; the argument reads as before. The listed tables (the months' lengths, those of the standard library) are tied to the program's text; the card speaks of the pruned copy of the project that the seat holds. -/
import Derived.Test.YtbikcldkaogfmaaDoorDrawFormat
import Derived.Test.YtbikcldkaogfmaaDoorReadSW
import Derived.Test.YtbikcldkaogfmaaDoorReadIW
import Derived.Test.YtbikcldkaogfmaaDoorBig
namespace Go.Proofs.YtbikcldkaogfmaaDoor
open Go.RowKit

def fullL : List UInt8 := [37, 89, 45, 37, 109, 45, 37, 100, 32, 37, 72, 58, 37, 77, 58, 37, 83]
def atLL : List UInt8 := [97, 116, 32, 37, 115]
theorem read_told {f s : List UInt8} {r : Int} (x : Dt) (hx : x.Ok) (hg : goodP (pieces f) = true) (hr : rend x f = some s) (ht : toldR f x = x.time) (h : ReadI f s r) : r = x.time := by
  obtain ⟨q, hq, e⟩ := readI_rend x hx hg hr h
  rw [ht] at hq e
  have hq2 : RendIs f x.time s := .inr ⟨x, hx, rfl, by unfold rendV; rw [hr]; rfl⟩
  rw [RendIs.one hq hq2, if_pos rfl] at e
  exact e
theorem full_told (x : Dt) (hx : x.Ok) : toldR fullL x = x.time := by
  rw [← timeV_ok x hx]; rfl
theorem full_rend (x : Dt) : rend x fullL = some (padV x.y 4 ++ ([45] ++ (padV x.mo 2 ++ ([45] ++ (padV x.d 2 ++ ([32] ++ (padV x.h 2 ++ ([58] ++ (padV x.mi 2 ++ ([58] ++ (padV x.s 2 ++ []))))))))))) := by
  rw [rend_pieces x _ fullL (Nat.le_refl _)]; rfl
theorem full_len (x : Dt) (hx : x.Ok) : (rendV x fullL).length = 19 := by
  obtain ⟨⟨y1, y2⟩, ⟨m1, m2⟩, ⟨d1, d2⟩, ⟨h1, h2⟩, ⟨i1, i2⟩, ⟨s1, s2⟩, j1, j2⟩ := hx.fields
  have p1 := (pad_facts x.y 4 (by omega) (by omega) (by omega) (by omega)).1
  have p2 := (pad_facts x.mo 2 (by omega) (by omega) (by omega) (by omega)).1
  have p3 := (pad_facts x.d 2 (by omega) (by omega) (by omega) (by omega)).1
  have p4 := (pad_facts x.h 2 (by omega) (by omega) (by omega) (by omega)).1
  have p5 := (pad_facts x.mi 2 (by omega) (by omega) (by omega) (by omega)).1
  have p6 := (pad_facts x.s 2 (by omega) (by omega) (by omega) (by omega)).1
  unfold rendV
  rw [full_rend]
  simp only [Option.getD_some, List.length_append, List.length_cons, List.length_nil]
  rw [show (4 : Int) = ((4 : Nat) : Int) from rfl, show (2 : Int) = ((2 : Nat) : Int) from rfl, p1, p2, p3, p4, p5, p6]
theorem at_rend (x : Dt) : rend x atLL = some ([97] ++ ([116] ++ ([32] ++ (Lib.itoa x.time ++ [])))) := by
  rw [rend_pieces x _ atLL (Nat.le_refl _)]; rfl
theorem readAt (f : ByteArray) (l : List UInt8) (hl : f.data.toList = l) (t : Int) (q : List UInt8) (z : Int) (hf : f.size ≤ 1048576) (hq : q.length ≤ 1048576) (hz : ∀ r, ReadI l q r → r = z) (w : World) (hT : TabsC w) :
    Calls Tryd.prog 11 #[.string f, .string (strOf q)] w fun e w' => e = .returned (.int .i64 z) ∧ Below w.heap.size w w' := by
  refine (implReadDate f (strOf q) w hf (by rw [strOf_size]; omega) hT).mono ?_
  rintro e w' ⟨⟨r, rfl, hr⟩, hb⟩
  rw [strOf_data, hl] at hr
  rw [hz r hr]
  exact ⟨rfl, hb⟩
/-- What the law asks of a time that was drawn. -/
structure Back (w : World) (u : Int) (q q2 : List UInt8) : Prop where
  c1 : ∀ W, Below w.heap.size w W → Calls Tryd.prog 14 #[.string ⟨#[37, 89, 45, 37, 109, 45, 37, 100, 32, 37, 72, 58, 37, 77, 58, 37, 83]⟩, .int .i64 u] W fun e w' => e = .returned (.string (strOf q)) ∧ Below W.heap.size W w'
  c2 : ∀ W, Below w.heap.size w W → Calls Tryd.prog 11 #[.string ⟨#[37, 89, 45, 37, 109, 45, 37, 100, 32, 37, 72, 58, 37, 77, 58, 37, 83]⟩, .string (strOf q)] W fun e w' => e = .returned (.int .i64 u) ∧ Below W.heap.size W w'
  c3 : ∀ W, Below w.heap.size w W → Calls Tryd.prog 14 #[.string ⟨#[97, 116, 32, 37, 115]⟩, .int .i64 u] W fun e w' => e = .returned (.string (strOf q2)) ∧ Below W.heap.size W w'
  c4 : ∀ W, Below w.heap.size w W → Calls Tryd.prog 11 #[.string ⟨#[97, 116, 32, 37, 115]⟩, .string (strOf q2)] W fun e w' => e = .returned (.int .i64 u) ∧ Below W.heap.size W w'
  len : q.length = 19
theorem back_of (w : World) (hT : TabsC w) (u : Int) (h0 : 0 ≤ u) (h1 : u ≤ 253402300799) : ∃ q q2, Back w u q q2 := by
  obtain ⟨x, hx, rfl⟩ := dt_some u h0 h1
  refine ⟨rendV x fullL, rendV x atLL, ?_, ?_, ?_, ?_, full_len x hx⟩
  · exact fun W h => implRenderR _ _ _ (.inr ⟨x, hx, rfl, rfl⟩) W (by decide) (hT.on h)
  · exact fun W h => readAt _ fullL rfl x.time _ _ (by decide) (by rw [full_len x hx]; omega) (fun r hr => read_told x hx (by decide) (by unfold rendV; rw [full_rend]; rfl) (full_told x hx) hr) W (hT.on h)
  · exact fun W h => implRenderR _ _ _ (.inr ⟨x, hx, rfl, rfl⟩) W (by decide) (hT.on h)
  · have hlen := (sec_facts x hx).2.2.2
    exact fun W h => readAt _ atLL rfl x.time _ _ (by decide) (by unfold rendV; rw [at_rend]; simp; omega) (fun r hr => read_told x hx (by decide) (by unfold rendV; rw [at_rend]; rfl) rfl hr) W (hT.on h)

set_option maxRecDepth 100000 in
set_option maxHeartbeats 8000000 in
theorem walkFnFormat (a : Option Addr) (len cap : Nat) (zs : List Int) (w : World) (hr : IsRow .u8 w a len cap zs) (hT : TabsC w) :
    Calls Tryd.prog 3 #[.slice a len cap] w fun e w' => e = .returned (.bool true) ∧ Below w.heap.size w w' := by
  by_cases hlen : len ≤ 1048576
  · have CT := Lib.hid (fun W (h : Below w.heap.size w W) => hT.on h)
    have HBk := Lib.hid (fun u h0 h1 => back_of w hT u h0 h1)
    have HR := Lib.hid hr
    clear hT hr
    go_enter Tryd.func3, Tryd.ntmps3
    go_wp2_with fail
    refine (bigF _ _ _ _ hlen).mono ?_
    rintro e w' ⟨rfl, rfl⟩
    go_wp2_with fail
    refine (specDrawReadDate w _ a len cap zs HR.out (Below.refl _ _) hlen).mono ?_
    rintro e W1 ⟨⟨f, s, ⟨⟨hg, hf⟩, hs⟩, rfl⟩, hB1⟩
    have HGo := Lib.hid hg
    clear hg
    go_wp2_with fail
    refine (implReadDate f s _ (by omega) (by omega) (CT.out _ hB1)).mono ?_
    rintro e W2 ⟨⟨t, rfl, hI⟩, hb2⟩
    have hB2 := hB1.trans (hb2.mono hB1.size)
    go_wp2_with fail
    refine (specReadDate f s _ (by omega) (by omega)).mono ?_
    rintro e W3 ⟨⟨t', rfl, hS⟩, hb3⟩
    obtain rfl : t' = t := read_one HGo.out hS hI
    have hB3 := hB2.trans (hb3.mono hB2.size)
    have HRb := Lib.hid (read_back hI)
    clear hb2 hb3 hB1 hB2 hI hS HGo
    go_wp2_with fail
    refine (specDrawDateOf w _ a len cap zs HR.out hB3 hlen).mono ?_
    rintro e W4 ⟨⟨u, ⟨hu0, hu1⟩, rfl⟩, hb4⟩
    have hB4 := hB3.trans (hb4.mono hB3.size)
    clear hb4 hB3
    by_cases k0 : 0 ≤ u
    · by_cases k1 : u ≤ 253402300799
      · obtain ⟨q, q2, hbk⟩ := HBk.out u (by omega) (by omega)
        have HK := Lib.hid hbk
        have hql : (strOf q).size = 19 := by rw [strOf_size]; exact hbk.len
        clear hbk
        go_wp2_with fail
        refine (HK.out.c1 _ hB4).mono ?_
        rintro e W5 ⟨rfl, hb5⟩
        have hB5 := hB4.trans (hb5.mono hB4.size)
        clear hb5
        go_wp2_with fail
        refine (HK.out.c2 _ hB5).mono ?_
        rintro e W6 ⟨rfl, hb6⟩
        have hB6 := hB5.trans (hb6.mono hB5.size)
        clear hb6
        go_wp2_with fail
        refine (HK.out.c3 _ hB6).mono ?_
        rintro e W7 ⟨rfl, hb7⟩
        have hB7 := hB6.trans (hb7.mono hB6.size)
        clear hb7
        go_wp2_with fail
        refine (HK.out.c4 _ hB7).mono ?_
        rintro e W8 ⟨rfl, hb8⟩
        have hB8 := hB7.trans (hb8.mono hB7.size)
        clear hb8
        by_cases ht : t' < 0
        · go_wp2
          go_ret
          exact ⟨rfl, hB8⟩
        · have hRI : RendIs f.data.toList t' s.data.toList := by
            rcases HRb.out with h | h
            · omega
            · exact h
          have CR := Lib.hid (fun W hW => implRenderR f t' _ hRI W (by omega) hW)
          have heq := text_eqI (q := s.data.toList) (s := s) rfl
          clear hRI
          go_wp2_with fail
          refine (CR.out _ (CT.out _ hB8)).mono ?_
          rintro e W9 ⟨rfl, hb9⟩
          have hB9 := Below.trans hB8 (hb9.mono (Below.size hB8))
          clear hb9
          go_wp2
          go_ret
          exact ⟨rfl, hB9⟩
      · have htb : timeB u = false := inB_f (by omega)
        have CQ := Lib.hid (fun W => implRender_out ⟨#[37, 89, 45, 37, 109, 45, 37, 100, 32, 37, 72, 58, 37, 77, 58, 37, 83]⟩ u W htb)
        clear htb
        go_wp2_with fail
        refine (CQ.out _).mono ?_
        rintro e W5 ⟨rfl, hb5⟩
        have hB5 := hB4.trans (hb5.mono hB4.size)
        clear hb5
        by_cases ht : t' < 0
        · go_wp2
          go_ret
          exact ⟨rfl, hB5⟩
        · have hRI : RendIs f.data.toList t' s.data.toList := by
            rcases HRb.out with h | h
            · omega
            · exact h
          have CR := Lib.hid (fun W hW => implRenderR f t' _ hRI W (by omega) hW)
          have heq := text_eqI (q := s.data.toList) (s := s) rfl
          clear hRI
          go_wp2_with fail
          refine (CR.out _ (CT.out _ hB5)).mono ?_
          rintro e W9 ⟨rfl, hb9⟩
          have hB9 := Below.trans hB5 (hb9.mono (Below.size hB5))
          clear hb9
          go_wp2
          go_ret
          exact ⟨rfl, hB9⟩
    · have htb : timeB u = false := inB_f (by omega)
      have CQ := Lib.hid (fun W => implRender_out ⟨#[37, 89, 45, 37, 109, 45, 37, 100, 32, 37, 72, 58, 37, 77, 58, 37, 83]⟩ u W htb)
      clear htb
      go_wp2_with fail
      refine (CQ.out _).mono ?_
      rintro e W5 ⟨rfl, hb5⟩
      have hB5 := hB4.trans (hb5.mono hB4.size)
      clear hb5
      by_cases ht : t' < 0
      · go_wp2
        go_ret
        exact ⟨rfl, hB5⟩
      · have hRI : RendIs f.data.toList t' s.data.toList := by
          rcases HRb.out with h | h
          · omega
          · exact h
        have CR := Lib.hid (fun W hW => implRenderR f t' _ hRI W (by omega) hW)
        have heq := text_eqI (q := s.data.toList) (s := s) rfl
        clear hRI
        go_wp2_with fail
        refine (CR.out _ (CT.out _ hB5)).mono ?_
        rintro e W9 ⟨rfl, hb9⟩
        have hB9 := Below.trans hB5 (hb9.mono (Below.size hB5))
        clear hb9
        go_wp2
        go_ret
        exact ⟨rfl, hB9⟩
  · go_enter Tryd.func3, Tryd.ntmps3
    go_wp2_with fail
    refine (bigT _ _ _ _ hlen).mono ?_
    rintro e w' ⟨rfl, rfl⟩
    go_wp2
    go_ret
    exact ⟨rfl, Below.refl _ _⟩
end Go.Proofs.YtbikcldkaogfmaaDoor
