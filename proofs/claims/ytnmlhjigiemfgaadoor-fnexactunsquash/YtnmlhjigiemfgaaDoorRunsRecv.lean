/- Runs behind its go statement: what goroutine 0 does till the channel is closed. -/
import Derived.Test.YtnmlhjigiemfgaaDoorRunsMain
namespace Go.Proofs.YtnmlhjigiemfgaaDoor
open Go Go.Conc Go.RowKit

theorem appV_len (c : UInt8) (n : Nat) : (appV c n).length ≤ n + 3 := by
  unfold appV
  split <;> simp
theorem nextN_le (c : UInt8) (n : Nat) (d : UInt8) : nextN c n d ≤ 255 := by
  unfold nextN
  split
  · rename_i h; simp [goB] at h; omega
  · omega
/-- What is told, a run begun and the rest still to come. -/
def tellR : List UInt8 → UInt8 → Nat → List UInt8 → List UInt8
  | l, c, n, [] => l ++ appV c n
  | l, c, n, d :: r => tellR (nextL l c n d) (nextC c n d) (nextN c n d) r

theorem dar_of {N : Nat} {s : ByteArray} {w w' : World} {es : Array Event} (_h0 : N + 4 ≤ w.heap.size) (h : Keeps N w w') (he : ∀ e ∈ es, EvA (MineR N) e) : DA (N + 2) (ShR N s) (MineR N) w w' es :=
  ⟨fun hS => ⟨(h.block (N + 1) (by omega) (by omega)).trans hS.sb, (h.block (N + 3) (by omega) (by omega)).trans hS.cb⟩, h.block (N + 2) (by omega) (by omega), he⟩
theorem termsR (N : Nat) (s : ByteArray) : Terms (Aside (N + 2)) (DA (N + 2) (ShR N s) (MineR N)) := ⟨fun _ _ _ h h' => h.trans h', fun w => ⟨id, rfl, by simp⟩⟩

noncomputable def k13 : List Item := [.inLoop L13, .inBlock 0, .code R13, .inScope S13]
noncomputable def recvG (cs : List Frame) (a : Act) (rest : List Nat) : Goroutine := G ((base 12).at a (.inRegion ops4 rest :: .code L13b :: k13)) cs

/-- AT THE RECEIVE: the step hands the one case up to the machine. -/
theorem recv_comm (cs : List Frame) (N : Nat) (sm : Value) (a : Act) (ha : At13 N sm a) (w : World) : stepG Tryd.prog true (recvG cs a [0, 1]) w = .comm (core (recvG cs a [0, 1])) #[rcase (N + 2) (.int .u8 0)] true (.recv true) w #[] := by
  obtain ⟨u0, u1, u2, u5, u6, u9, u10, u11, u12, u13, u14, u15, u16, u17, u18, u19, u20, u21, u22, u23, u24, u25, u26, u27, u28, u29, u30, u31, u32, v8, rfl⟩ := ha
  simp only [recvG, ops4, L13, S13, body13, Tryd.f12, Option.getD_some, core_G, slots13]
  rw [stepG_comm (cases := #[rcase (N + 2) (.int .u8 0)]) (blocking := true) (shape := .recv true) (w' := w) rfl rfl (by decide) (by simp [go_sem, rcase])]
  simp [listed, go_sem, seen]
theorem recv_served (cs : List Frame) (a : Act) (v : Value) : Conc.served (core (recvG cs a [0, 1])) v = recvG cs (a.put (some 8) v) [1] := by
  simp only [recvG, core_G, served_G, Frame.finish_at]
  rfl
theorem At13.put {N : Nat} {sm : Value} {a : Act} (ha : At13 N sm a) (v : Value) : ∃ u0 u1 u2 u5 u6 u9 u10 u11 u12 u13 u14 u15 u16 u17 u18 u19 u20 u21 u22 u23 u24 u25 u26 u27 u28 u29 u30 u31 u32 : Value, a.put (some 8) v = ⟨slots13 N sm v u0 u1 u2 u5 u6 u9 u10 u11 u12 u13 u14 u15 u16 u17 u18 u19 u20 u21 u22 u23 u24 u25 u26 u27 u28 u29 u30 u31 u32, []⟩ := by
  obtain ⟨u0, u1, u2, u5, u6, u9, u10, u11, u12, u13, u14, u15, u16, u17, u18, u19, u20, u21, u22, u23, u24, u25, u26, u27, u28, u29, u30, u31, u32, v8, rfl⟩ := ha
  exact ⟨u0, u1, u2, u5, u6, u9, u10, u11, u12, u13, u14, u15, u16, u17, u18, u19, u20, u21, u22, u23, u24, u25, u26, u27, u28, u29, u30, u31, u32, rfl⟩

section
variable (N : Nat) (s : ByteArray) (W : World) (cs : List Frame) (X : List UInt8)

/-- THE CHANNEL IS CLOSED AND EMPTY. -/
def FinR (g : Goroutine) (w : World) : Prop := ∃ (sm : Value) (l : List UInt8) (c : UInt8) (n : Nat) (a : Act), At13 N sm a ∧ AF N W [(N, runO c n)] sm l w ∧ n ≤ 255 ∧ l.length + n ≤ 500000000 ∧ l ++ appV c n = X ∧ g = recvG cs (a.put (some 8) (.tuple #[.int .u8 0, .bool false])) [1]

theorem stopA_at : ∀ (rem : List UInt8) (l : List UInt8) (c : UInt8) (n : Nat) (sm : Value) (a : Act) (w : World), At13 N sm a → AF N W [(N, runO c n)] sm l w → n ≤ 255 → l.length + n + 5 * rem.length ≤ 400000000 → tellR l c n rem = X →
    StopA Tryd.prog (N + 2) (ShR N s) (MineR N) (.int .u8 0) (FinR N W cs X) (sentV rem) (recvG cs a [0, 1]) w := by
  obtain ⟨n1, h1⟩ := ops4C (D := DA (N + 2) (ShR N s) (MineR N)) (termsR N s) N (fun _ _ h => h)
  obtain ⟨n2, h2⟩ := roundC (termsR N s) N (fun _ _ h => h) (fun _ _ _ h0 h he => dar_of h0 h he)
  intro rem
  induction rem with
  | nil =>
    intro l c n sm a w ha hF hn hlen hX
    exact ⟨rfl, #[], recv_comm cs N sm a ha w, by simp, fun w₂ h₂ => ⟨sm, l, c, n, a, ha, hF.aside h₂, hn, by simp at hlen; omega, hX, recv_served ..⟩⟩
  | cons d rem ih =>
    intro l c n sm a w ha hF hn hlen hX
    refine ⟨rfl, #[], recv_comm cs N sm a ha w, by simp, fun w₂ h₂ => ?_⟩
    show Recvs Tryd.prog (N + 2) (ShR N s) (MineR N) (.int .u8 0) (FinR N W cs X) (sentV rem) (Conc.served (core (recvG cs a [0, 1])) (.tuple #[.int .u8 (d.toNat : Int), .bool true])) w₂
    rw [recv_served]
    refine (recvs_iff ..).2 ⟨0 + 3 + n2 + n1, ?_⟩
    obtain ⟨u0, u1, u2, u5, u6, u9, u10, u11, u12, u13, u14, u15, u16, u17, u18, u19, u20, u21, u22, u23, u24, u25, u26, u27, u28, u29, u30, u31, u32, hput⟩ := ha.put (.tuple #[.int .u8 (d.toNat : Int), .bool true])
    rw [hput]
    refine h1 W sm (.int .u8 (d.toNat : Int)) true l c n u0 u1 u2 u5 u6 u9 u10 u11 u12 u13 u14 u15 u16 u17 u18 u19 u20 u21 u22 u23 u24 u25 u26 u27 u28 u29 u30 u31 u32 w₂ (hF.aside h₂) (base 12) _ cs _ (0 + 3 + n2) rfl (by simp [base]) fun e a1 w1 q => ?_
    obtain ⟨rfl, hin, hF1⟩ := q
    refine h2 W sm l c d n a1 w1 hin hF1 hn (by simp at hlen; omega) (base 12) k13 cs _ (0 + 3) rfl (by simp [base]) fun e a2 w2 q => ?_
    obtain ⟨rfl, sm', ha2, hF2⟩ := q
    refine Goes.step rfl fun w3 h3 => ?_
    rw [k13, stepG_inLoop]
    refine ⟨(termsR N s).idle _, Goes.step rfl fun w4 h4 => ?_⟩
    have hL : L13 = .seq (.region 4 ops4 false) L13b := rfl
    rw [hL, stepG_seq]
    refine ⟨(termsR N s).idle _, Goes.step rfl fun w5 h5 => ?_⟩
    rw [stepG_region]
    refine ⟨(termsR N s).idle _, Goes.stop fun w6 h6 => ?_⟩
    have hl1 := appV_len c n
    exact ih (nextL l c n d) (nextC c n d) (nextN c n d) sm' a2 w6 ha2 ((((hF2.aside h3).aside h4).aside h5).aside h6) (nextN_le c n d) (by
      simp only [List.length_cons] at hlen
      unfold nextL nextN
      split
      · omega
      · simp only [List.length_append]; omega) hX
end
end Go.Proofs.YtnmlhjigiemfgaaDoor
