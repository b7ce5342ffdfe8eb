/- The draws of chapter 6: a text that is drawn is told by its pieces. -/
import Derived.Test.YtnmlhjigiemfgaaBent
import Derived.Test.YtnmlhjigiemfgaaDrawInts
namespace Go.Proofs.Ytnmlhjigiemfgaa
open Go.RowKit

def letB6 : List ByteArray := [⟨#[97]⟩, ⟨#[1]⟩, ⟨#[120]⟩, ⟨#[10]⟩, ⟨#[0]⟩, ⟨#[108, 105, 110, 101, 32]⟩]
def letL6 : List (List UInt8) := [[97], [1], [120], [10], [0], [108, 105, 110, 101, 32]]
def kI6 : List Int := [1, 2, 3, 4, 5, 9]
def kL6 : List Nat := [1, 2, 3, 4, 5, 9, 254, 255, 256, 257]
/-- A text out of pieces: each a few bytes, so many times. -/
def textT (ps : List (List UInt8 × Nat)) : List UInt8 := (ps.map fun x => (List.replicate x.2 x.1).flatten).flatten
def Drawn6 (ps : List (List UInt8 × Nat)) : Prop := ps.length ≤ 7 ∧ ∀ x ∈ ps, x.1 ∈ letL6 ∧ x.2 ∈ kL6
theorem textT_snoc (ps : List (List UInt8 × Nat)) (b : List UInt8) (k : Nat) : textT (ps ++ [(b, k)]) = textT ps ++ (List.replicate k b).flatten := by
  simp [textT]
theorem flat_snoc (b : List UInt8) (j : Nat) : (List.replicate (j + 1) b).flatten = (List.replicate j b).flatten ++ b := by
  rw [List.replicate_succ', List.flatten_append]; simp
theorem flat_len (b : List UInt8) : ∀ j : Nat, (List.replicate j b).flatten.length = j * b.length
  | 0 => by simp
  | j + 1 => by rw [flat_snoc, List.length_append, flat_len b j, Nat.succ_mul]
theorem letL6_len {b : List UInt8} (h : b ∈ letL6) : b.length ≤ 5 := by
  simp only [letL6, List.mem_cons, List.not_mem_nil, or_false] at h
  rcases h with rfl | rfl | rfl | rfl | rfl | rfl <;> decide
theorem kL6_le {k : Nat} (h : k ∈ kL6) : k ≤ 257 := by
  simp only [kL6, List.mem_cons, List.not_mem_nil, or_false] at h
  omega
theorem textT_len : ∀ (ps : List (List UInt8 × Nat)), (∀ x ∈ ps, x.1 ∈ letL6 ∧ x.2 ∈ kL6) → (textT ps).length ≤ 1285 * ps.length
  | [], _ => by simp [textT]
  | x :: ps, h => by
    have h1 := letL6_len (h x (by simp)).1
    have h2 := kL6_le (h x (by simp)).2
    have h3 := textT_len ps (fun y hy => h y (by simp [hy]))
    have h4 : x.2 * x.1.length ≤ 257 * 5 := Nat.mul_le_mul h2 h1
    have e : textT (x :: ps) = (List.replicate x.2 x.1).flatten ++ textT ps := by simp [textT]
    rw [e, List.length_append, flat_len, List.length_cons]
    omega
theorem pick6 (j : Nat) (h : j < 6) : ∃ b ∈ letL6, letB6.getD j ⟨#[]⟩ = strOf b := by
  have : ∀ j : Fin 6, ∃ b ∈ letL6, letB6.getD j.val ⟨#[]⟩ = strOf b := by
    intro j
    match j with
    | 0 => exact ⟨_, List.mem_cons_self .., rfl⟩
    | 1 => exact ⟨[1], by decide, rfl⟩
    | 2 => exact ⟨[120], by decide, rfl⟩
    | 3 => exact ⟨[10], by decide, rfl⟩
    | 4 => exact ⟨[0], by decide, rfl⟩
    | 5 => exact ⟨[108, 105, 110, 101, 32], by decide, rfl⟩
  exact this ⟨j, h⟩
theorem pickI6 (n : Int) (h : n ∈ kI6) : ∃ k : Nat, n = (k : Int) ∧ k ∈ kL6 := by
  simp only [kI6, List.mem_cons, List.not_mem_nil, or_false] at h
  refine ⟨n.toNat, by omega, ?_⟩
  simp only [kL6, List.mem_cons, List.not_mem_nil, or_false]
  omega

set_option maxRecDepth 100000 in
set_option maxHeartbeats 4000000 in
theorem specText6 (w0 W : World) (p : Nat) (a : Option Addr) (len cap i : Nat) (h : Int) (zs : List Int) (hr : IsRow .u8 w0 a len cap zs) (hc : Cur w0 W p a len cap i h) (hlen : len ≤ 1048576) :
    Calls Try.prog 17 #[.pointer (some ⟨p, 0, none⟩)] W fun e W' => (∃ ps, Drawn6 ps ∧ e = .returned (.string (strOf (textT ps)))) ∧ (∃ i' h', Cur w0 W' p a len cap i' h') ∧ W.grownBy W' (some p) := by
  have hbd := belowX_bd zs len i h 8 (by omega)
  obtain ⟨n, hn⟩ : ∃ n : Nat, belowX zs len i h 8 = n := ⟨(belowX zs len i h 8).toNat, by omega⟩
  rw [hn] at hbd
  have HN := Lib.hid hn
  have hn7 : n ≤ 7 := by omega
  clear hn hbd
  go_enter Try.func17, Try.ntmps17
  go_wp2_with fail
  refine (specBelow w0 _ p a len cap i h 8 zs hr hc hlen).mono ?_
  rintro e W1 ⟨rfl, hc1, hg1⟩
  rw [HN.out]
  have HC1 := Lib.hid hc1
  have HG1 := Lib.hid hg1
  clear hc1 hg1 hc
  go_wp2
  go_loopw [3, 5, 6, 7, 8] (fun ov iv _ _ _ V => ∃ (ps : List (List UInt8 × Nat)) (m : Nat) (i' : Nat) (h' : Int), m ≤ n ∧ ps.length = m ∧ iv = .int .i64 m ∧ ov = .string (strOf (textT ps)) ∧ (∀ x ∈ ps, x.1 ∈ letL6 ∧ x.2 ∈ kL6) ∧ Cur w0 V p a len cap i' h' ∧ W.grownBy V (some p)) (fun _ iv _ _ _ _ => n - (intOf iv).toNat)
  case atStart => exact ⟨[], 0, _, _, Nat.zero_le _, rfl, rfl, rfl, by simp, HC1.out, HG1.out⟩
  case round =>
    obtain ⟨ps, m, i', h', hm, hpl, rfl, rfl, hps, hcV, hgV⟩ := hrel
    have HGV := Lib.hid hgV
    have HPS := Lib.hid hps
    have HPL := Lib.hid hpl
    have hpV := hcV.lt
    clear hgV hps hpl HC1 HG1
    by_cases h1 : m < n
    · have hmi : (m : Int) < (n : Int) := by omega
      have HTL := Lib.hid (textT_len ps HPS.out)
      have hbl : (textT ps).length ≤ 8995 := by have := HTL.out; have := HPL.out; omega
      have hbx := belowX_bd zs len i' h' 6 (by omega)
      obtain ⟨b, hbm, hbe⟩ := pick6 (belowX zs len i' h' 6).toNat (by omega)
      have HBM := Lib.hid hbm
      have HBL := letL6_len hbm
      have HCE := Lib.hid (cells_lit wr #[.string ⟨#[97]⟩, .string ⟨#[1]⟩, .string ⟨#[120]⟩, .string ⟨#[10]⟩, .string ⟨#[0]⟩, .string ⟨#[108, 105, 110, 101, 32]⟩] 9 letB6 rfl)
      have HCA := Lib.hid (hcV.alloc (.cells #[.string ⟨#[97]⟩, .string ⟨#[1]⟩, .string ⟨#[120]⟩, .string ⟨#[10]⟩, .string ⟨#[0]⟩, .string ⟨#[108, 105, 110, 101, 32]⟩] 9))
      clear hbx hbm HTL
      go_wp2_with fail
      refine (specPick w0 _ p a len cap _ _ zs hr HCA.out hlen wr.heap.size 6 letB6 rfl (by omega) (by omega) HCE.out (by omega)).mono ?_
      rintro e V1 ⟨rfl, hc2, hg2⟩
      rw [show (((6 : Nat)) : Int) = 6 from rfl] at hc2 ⊢
      rw [hbe]
      generalize belowI len i' 6 = i2 at hc2
      generalize belowH h' 6 = h2 at hc2
      have HG2 := Lib.hid (grownBy_then HGV.out (grownBy_then (World.grownBy_alloc _ _ _) hg2))
      have hpV2 := hc2.lt
      have HCE2 := Lib.hid (cells_litI V1 #[.int .i64 1, .int .i64 2, .int .i64 3, .int .i64 4, .int .i64 5, .int .i64 9] 3 kI6 rfl)
      have HCA2 := Lib.hid (hc2.alloc (.cells #[.int .i64 1, .int .i64 2, .int .i64 3, .int .i64 4, .int .i64 5, .int .i64 9] 3))
      clear hbe hg2 HCE HCA hcV HGV
      go_wp2_with fail
      refine (specPickInt w0 _ p a len cap _ _ zs hr HCA2.out hlen V1.heap.size 6 kI6 rfl (by omega) (by omega) HCE2.out (by omega)).mono ?_
      rintro e V2 ⟨⟨kn, hkn, rfl⟩, hc3, hg3⟩
      rw [show (((6 : Nat)) : Int) = 6 from rfl] at hc3
      obtain ⟨k0, rfl, hk0⟩ := pickI6 kn hkn
      generalize belowI len i2 6 = i3 at hc3
      generalize belowH h2 6 = h3 at hc3
      have HG3 := Lib.hid (grownBy_then HG2.out (grownBy_then (World.grownBy_alloc _ _ _) hg3))
      have HK0 := Lib.hid hk0
      have hk0l := kL6_le hk0
      clear hkn hk0 hg3 HCE2 HCA2 HG2 hc2
      go_wp2_with fail
      refine (specOnce w0 _ p a len cap i3 h3 12 zs hr hc3 hlen).mono ?_
      rintro e V3 ⟨rfl, hc4, hg4⟩
      generalize (belowX zs len i3 h3 12 == 0) = q
      generalize belowI len i3 12 = i4 at hc4
      generalize belowH h3 12 = h4 at hc4
      have HG4 := Lib.hid (grownBy_then HG3.out hg4)
      clear hg4 HG3 hc3
      cases q with
      | false =>
        have HC4 := Lib.hid hc4
        clear hc4
        go_wp2
        go_loop [3, 8] (fun ov jv => ∃ j : Nat, jv = .int .i64 (j : Int) ∧ j ≤ k0 ∧ ov = .string (strOf (textT ps ++ (List.replicate j b).flatten))) (fun _ jv => k0 - (intOf jv).toNat)
        case atStart => exact ⟨0, rfl, Nat.zero_le _, by simp⟩
        case round =>
          obtain ⟨j, rfl, hj, rfl⟩ := hrel
          by_cases h5 : j < k0
          · have h5i : (j : Int) < (k0 : Int) := by omega
            have hfl : (textT ps ++ (List.replicate j b).flatten).length ≤ 20000 := by
              rw [List.length_append, flat_len]
              have : j * b.length ≤ 257 * 5 := Nat.mul_le_mul (by omega) HBL
              omega
            have ha := run_add (textT ps ++ (List.replicate j b).flatten) b (by omega)
            rw [List.append_assoc, ← flat_snoc] at ha
            generalize strOf (textT ps ++ (List.replicate j b).flatten) = x0 at ha
            clear hfl
            go_wp2
            go_round
            case rel => exact ⟨j + 1, by go_num, by omega, rfl⟩
            case measure => simp [intOf]; omega
          · have h5i : ¬ (j : Int) < (k0 : Int) := by omega
            have hje : j = k0 := by omega
            subst hje
            clear h5
            go_wp2
            go_roundw
            case rel => exact ⟨ps ++ [(b, j)], m + 1, _, _, by omega, by rw [List.length_append, HPL.out]; rfl, by go_num, by rw [textT_snoc], by
              intro x hx
              rcases List.mem_append.1 hx with hx | hx
              · exact HPS.out x hx
              · rw [List.mem_singleton.1 hx]; exact ⟨HBM.out, HK0.out⟩, HC4.out, HG4.out⟩
            case measure => simp [intOf]; omega
      | true =>
        have hbd := belowX_bd zs len i4 h4 4 (by omega)
        obtain ⟨y, hy⟩ : ∃ y : Nat, belowX zs len i4 h4 4 = y := ⟨(belowX zs len i4 h4 4).toNat, by omega⟩
        rw [hy] at hbd
        have HY := Lib.hid hy
        have hy3 : y ≤ 3 := by omega
        clear hbd hy
        go_wp2_with fail
        refine (specBelow w0 _ p a len cap i4 h4 4 zs hr hc4 hlen).mono ?_
        rintro e V4 ⟨rfl, hc5, hg5⟩
        rw [HY.out]
        have HC4 := Lib.hid hc5
        have HG4 := Lib.hid (grownBy_then HG4.out hg5)
        obtain ⟨k1, hk1⟩ : ∃ k1, 254 + y = k1 := ⟨_, rfl⟩
        have hk1i : (254 : Int) + (y : Int) = (k1 : Int) := by omega
        have hk1w : IntKind.i64.wrap ((254 : Int) + (y : Int)) = (k1 : Int) := by rw [hk1i]; exact IntWalk.i64_in _ (by omega)
        have HK1 := Lib.hid (show k1 ∈ kL6 by simp only [kL6, List.mem_cons, List.not_mem_nil, or_false]; omega)
        have hk1l : k1 ≤ 257 := by omega
        clear hc5 hg5 hc4 hk1 HK0
        go_wp2
        go_loop [3, 8] (fun ov jv => ∃ j : Nat, jv = .int .i64 (j : Int) ∧ j ≤ k1 ∧ ov = .string (strOf (textT ps ++ (List.replicate j b).flatten))) (fun _ jv => k1 - (intOf jv).toNat)
        case atStart => exact ⟨0, rfl, Nat.zero_le _, by simp⟩
        case round =>
          obtain ⟨j, rfl, hj, rfl⟩ := hrel
          by_cases h5 : j < k1
          · have h5i : (j : Int) < (k1 : Int) := by omega
            have hfl : (textT ps ++ (List.replicate j b).flatten).length ≤ 20000 := by
              rw [List.length_append, flat_len]
              have : j * b.length ≤ 257 * 5 := Nat.mul_le_mul (by omega) HBL
              omega
            have ha := run_add (textT ps ++ (List.replicate j b).flatten) b (by omega)
            rw [List.append_assoc, ← flat_snoc] at ha
            generalize strOf (textT ps ++ (List.replicate j b).flatten) = x0 at ha
            clear hfl
            go_wp2
            go_round
            case rel => exact ⟨j + 1, by go_num, by omega, rfl⟩
            case measure => simp [intOf]; omega
          · have h5i : ¬ (j : Int) < (k1 : Int) := by omega
            have hje : j = k1 := by omega
            subst hje
            clear h5
            go_wp2
            go_roundw
            case rel => exact ⟨ps ++ [(b, j)], m + 1, _, _, by omega, by rw [List.length_append, HPL.out]; rfl, by go_num, by rw [textT_snoc], by
              intro x hx
              rcases List.mem_append.1 hx with hx | hx
              · exact HPS.out x hx
              · rw [List.mem_singleton.1 hx]; exact ⟨HBM.out, HK1.out⟩, HC4.out, HG4.out⟩
            case measure => simp [intOf]; omega
    · have hmi : ¬ (m : Int) < (n : Int) := by omega
      have HCV := Lib.hid hcV
      clear hcV
      go_wp2
      go_ret
      exact ⟨⟨ps, ⟨by have := HPL.out; omega, HPS.out⟩, rfl⟩, ⟨_, _, HCV.out⟩, HGV.out⟩
theorem specDrawCrc (w0 W : World) (a : Option Addr) (len cap : Nat) (zs : List Int) (hr : IsRow .u8 w0 a len cap zs) (hb : Below w0.heap.size w0 W) (hlen : len ≤ 1048576) :
    Calls Try.prog 8 #[.slice a len cap] W fun e W' => (∃ l, l.length ≤ 8995 ∧ e = .returned (.string (strOf l))) ∧ Below W.heap.size W W' := by
  obtain ⟨p, hp⟩ : ∃ p, p = W.heap.size := ⟨_, rfl⟩
  have hpW : W.heap.size ≤ p := by omega
  have HP := Lib.hid hp
  clear hp
  go_enter Try.func8, Try.ntmps8
  go_wp2_with fail
  refine (specNew w0 _ a len cap zs hr hb hlen).mono ?_
  rintro e W1 ⟨rfl, hc1, hb1⟩
  rw [← HP.out] at hc1 ⊢
  go_wp2_with fail
  refine (specText6 w0 _ p a len cap _ _ zs hr hc1 hlen).mono ?_
  rintro e W2 ⟨⟨ps, hps, rfl⟩, -, hg2⟩
  have HG := Lib.hid hg2
  have HL := Lib.hid (textT_len ps hps.2)
  have HP7 := Lib.hid hps.1
  generalize textT ps = l at HL
  clear hg2 hps
  go_wp2
  go_ret
  exact ⟨⟨l, by have h1 := HL.out; have h2 := HP7.out; omega, rfl⟩, hb1.grown HG.out hb1.size (fun k e => by cases e; exact hpW)⟩
def junkL6 : List ByteArray := [⟨#[1]⟩, ⟨#[1, 3, 97]⟩, ⟨#[1, 4, 97]⟩, ⟨#[1, 0, 97]⟩, ⟨#[1, 255, 97, 1, 255, 97, 1, 255, 97]⟩, ⟨#[97, 97, 97, 97]⟩]
end Go.Proofs.Ytnmlhjigiemfgaa
