/- The draws of formats and of dates as texts. -/
import Derived.Test.YtbikcldkaogfmaaDoorDrawDays
import Derived.Test.YtbikcldkaogfmaaDoorBent
import Derived.Test.YtbikcldkaogfmaaDoorReadS
import Derived.Test.YtbikcldkaogfmaaDoorReadOne
namespace Go.Proofs.YtbikcldkaogfmaaDoor
open Go.RowKit

def fmtL : List ByteArray := [⟨#[45, 37, 89, 37, 109, 37, 100]⟩, ⟨#[45, 37, 89, 37, 109, 37, 100]⟩, ⟨#[45, 37, 89, 45, 37, 109, 45, 37, 100, 95, 37, 72, 37, 77, 37, 83]⟩, ⟨#[46, 37, 115]⟩, ⟨#[37, 89, 37, 106]⟩, ⟨#[45, 37, 89, 37, 109, 37, 100, 45, 37, 115]⟩, ⟨#[37, 37, 37, 89, 37, 109, 37, 100]⟩, ⟨#[37, 89]⟩, ⟨#[]⟩, ⟨#[37]⟩, ⟨#[37, 120]⟩, ⟨#[97, 37, 89, 37, 109, 37, 100, 37]⟩, ⟨#[37, 100, 37, 109, 37, 89, 37, 72]⟩]
theorem fmt_good : ∀ f ∈ fmtL, goodP (pieces f.data.toList) = true ∧ f.size ≤ 20 := by decide
set_option maxRecDepth 100000 in
theorem specFormat (w0 W : World) (p : Nat) (a : Option Addr) (len cap i : Nat) (h : Int) (zs : List Int) (hr : IsRow .u8 w0 a len cap zs) (hc : Cur w0 W p a len cap i h) (hlen : len ≤ 1048576) :
    Calls Tryd.prog 25 #[.pointer (some ⟨p, 0, none⟩)] W fun e W' =>
      (∃ f : ByteArray, (goodP (pieces f.data.toList) = true ∧ f.size ≤ 20) ∧ e = .returned (.string f)) ∧ (∃ i' h', Cur w0 W' p a len cap i' h') ∧ W.grownBy W' (some p) := by
  have HCE := Lib.hid (cells_lit W #[.string ⟨#[45, 37, 89, 37, 109, 37, 100]⟩, .string ⟨#[45, 37, 89, 37, 109, 37, 100]⟩, .string ⟨#[45, 37, 89, 45, 37, 109, 45, 37, 100, 95, 37, 72, 37, 77, 37, 83]⟩, .string ⟨#[46, 37, 115]⟩, .string ⟨#[37, 89, 37, 106]⟩, .string ⟨#[45, 37, 89, 37, 109, 37, 100, 45, 37, 115]⟩, .string ⟨#[37, 37, 37, 89, 37, 109, 37, 100]⟩, .string ⟨#[37, 89]⟩, .string ⟨#[]⟩, .string ⟨#[37]⟩, .string ⟨#[37, 120]⟩, .string ⟨#[97, 37, 89, 37, 109, 37, 100, 37]⟩, .string ⟨#[37, 100, 37, 109, 37, 89, 37, 72]⟩] 9 fmtL rfl)
  have hbd := belowX_bd zs len i h 13 (by omega)
  have HG := Lib.hid (fmt_good (fmtL.getD (belowX zs len i h 13).toNat ⟨#[]⟩) (by
    rw [List.getD_eq_getElem?_getD, List.getElem?_eq_getElem (show (belowX zs len i h 13).toNat < fmtL.length by show _ < 13; omega)]
    exact List.getElem_mem _))
  have hpW := hc.lt
  clear hbd
  go_enter Tryd.func25, Tryd.ntmps25
  go_wp2_with fail
  refine (specPick w0 _ p a len cap i h zs hr (hc.alloc _) hlen W.heap.size 13 fmtL rfl (by omega) (by omega) HCE.out (by omega)).mono ?_
  rintro e W1 ⟨rfl, hc1, hg1⟩
  rw [show (((13 : Nat)) : Int) = 13 from rfl] at hc1 ⊢
  generalize fmtL.getD (belowX zs len i h 13).toNat ⟨#[]⟩ = f at HG
  go_wp2
  go_ret
  exact ⟨⟨f, HG.out, rfl⟩, ⟨_, _, hc1⟩, grownBy_then (World.grownBy_alloc _ _ _) hg1⟩
theorem grown_below {A B : World} (h : Below A.heap.size A B) (row : Option Nat) : A.grownBy B row := ⟨h.os, h.tape, h.output, h.size, fun k hk _ => h.block k hk⟩
theorem cur_on {w0 W W' : World} {p : Nat} {a : Option Addr} {len cap i : Nat} {h : Int} (hc : Cur w0 W p a len cap i h) (hb : Below W.heap.size W W') : Cur w0 W' p a len cap i h :=
  ⟨(hb.block p hc.lt).trans hc.blk, hc.hi, hc.below.trans (hb.mono hc.below.size), hc.hp⟩
theorem rend_len (x : Dt) (hx : x.Ok) : ∀ (n : Nat) (f : List UInt8) (s : List UInt8), f.length ≤ n → rend x f = some s → s.length ≤ 112 * f.length
  | _, [], s, _, h => by rw [rend] at h; cases h; simp
  | 0, c :: r, s, hn, _ => by simp at hn
  | n + 1, c :: r, s, hn, h => by
    by_cases hc : c = 37
    rotate_left
    · rw [rend_byte x c r hc] at h
      cases hq : rend x r with
      | none => rw [hq] at h; cases h
      | some s' =>
        rw [hq] at h; cases h
        have := rend_len x hx n r s' (by simp at hn; omega) hq
        simp; omega
    · subst hc
      cases r with
      | nil => rw [rend_last] at h; cases h
      | cons d r =>
        cases hf : fieldS d x with
        | none => rw [rend_none x d r hf] at h; cases h
        | some Q =>
          rw [rend_some x d r Q hf] at h
          cases hq : rend x r with
          | none => rw [hq] at h; cases h
          | some s' =>
            rw [hq] at h; cases h
            have h1 := rend_len x hx n r s' (by simp at hn; omega) hq
            have h2 := fieldS_len hx hf
            simp; omega
theorem rendIs_len {f : List UInt8} {t : Int} {q : List UInt8} (h : RendIs f t q) : q.length ≤ 112 * f.length := by
  rcases h with ⟨_, rfl⟩ | ⟨x, hx, _, rfl⟩
  · simp
  · unfold rendV
    cases hq : rend x f with
    | none => simp
    | some s => exact rend_len x hx _ f s (Nat.le_refl _) hq
set_option maxRecDepth 100000 in
set_option maxHeartbeats 4000000 in
theorem specDrawReadDate (w0 W : World) (a : Option Addr) (len cap : Nat) (zs : List Int) (hr : IsRow .u8 w0 a len cap zs) (hb : Below w0.heap.size w0 W) (hlen : len ≤ 1048576) :
    Calls Tryd.prog 10 #[.slice a len cap] W fun e W' => (∃ f s : ByteArray, ((goodP (pieces f.data.toList) = true ∧ f.size ≤ 20) ∧ s.size ≤ 10000) ∧ e = .returned (.tuple #[.string f, .string s])) ∧ Below W.heap.size W W' := by
  obtain ⟨p, hp⟩ : ∃ p, p = W.heap.size := ⟨_, rfl⟩
  have hpW : W.heap.size ≤ p := by omega
  have HP := Lib.hid hp
  clear hp
  go_enter Tryd.func10, Tryd.ntmps10
  go_wp2_with fail
  refine (specNew w0 _ a len cap zs hr hb hlen).mono ?_
  rintro e W1 ⟨rfl, hc1, hb1⟩
  rw [← HP.out] at hc1 ⊢
  go_wp2_with fail
  refine (specFormat w0 _ p a len cap _ _ zs hr hc1 hlen).mono ?_
  rintro e W2 ⟨⟨f, hf, rfl⟩, ⟨i2, h2, hc2⟩, hg2⟩
  go_wp2_with fail
  refine (specAt w0 _ p a len cap i2 h2 zs hr hc2 hlen).mono ?_
  rintro e W3 ⟨⟨t, _, rfl⟩, ⟨i3, h3, hc3⟩, hg3⟩
  obtain ⟨q, hq⟩ := rendIs_some f.data.toList t
  have hql := rendIs_len hq
  have hfs : f.data.toList.length = f.size := by simp
  have hqs : (strOf q).size ≤ 5000 := by rw [strOf_size]; have := hf.2; omega
  go_wp2_with fail
  refine (specRenderR f t q hq _ (by have := hf.2; omega)).mono ?_
  rintro e W4 ⟨rfl, hb4⟩
  have hc4 := cur_on hc3 hb4
  have HG := Lib.hid (grownBy_then hg2 (grownBy_then hg3 (grown_below hb4 (some p))))
  have HF := Lib.hid hf
  generalize strOf q = s at hqs
  clear hc2 hc3 hc1 hg2 hg3 hb4 hq hql hfs hf
  go_wp2_with fail
  refine (specOnce w0 _ p a len cap i3 h3 3 zs hr hc4 hlen).mono ?_
  rintro e W5 ⟨rfl, hc5, hg5⟩
  generalize (belowX zs len i3 h3 3 == 0) = b
  have HG5 := Lib.hid (grownBy_then HG.out hg5)
  cases b with
  | false =>
    go_wp2
    go_ret2
    exact ⟨⟨f, s, ⟨HF.out, by omega⟩, rfl⟩, hb1.grown HG5.out hb1.size (fun k e => by cases e; exact hpW)⟩
  | true =>
    go_wp2_with fail
    refine (specBent w0 _ p a len cap _ _ zs hr hc5 hlen s (by omega)).mono ?_
    rintro e W6 ⟨⟨s2, hs2, rfl⟩, _, hg6⟩
    have HG6 := Lib.hid (grownBy_then HG5.out hg6)
    clear hg6
    go_wp2
    go_ret2
    exact ⟨⟨f, s2, ⟨HF.out, by omega⟩, rfl⟩, hb1.grown HG6.out hb1.size (fun k e => by cases e; exact hpW)⟩
end Go.Proofs.YtbikcldkaogfmaaDoor
