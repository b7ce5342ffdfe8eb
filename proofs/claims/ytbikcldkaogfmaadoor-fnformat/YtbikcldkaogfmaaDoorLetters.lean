/- The letters of formats: impl.formatLetters makes a map of functions; a look-up in it; what the functions tell. -/
import Derived.Test.YtbikcldkaogfmaaDoorBase
import Derived.Maps.Keyed
import Derived.Maps.Own
namespace Go.Proofs.YtbikcldkaogfmaaDoor
open Go.RowKit Go.Maps

/-- A map's entries, of keys that are bytes, and functions; n: when the first was laid. -/
def funE : Nat → List (UInt8 × Nat) → List MapEntry
  | _, [] => []
  | n, p :: r => { key := .int .u8 (p.1.toNat : Int), val := .func (.func p.2) #[] #[], born := n } :: funE (n + 1) r
theorem funE_snoc : ∀ (n : Nat) (l : List (UInt8 × Nat)) (p : UInt8 × Nat), funE n (l ++ [p]) = funE n l ++ [{ key := .int .u8 (p.1.toNat : Int), val := .func (.func p.2) #[] #[], born := n + l.length }]
  | n, [], p => by simp [funE]
  | n, q :: r, p => by rw [List.cons_append, funE, funE_snoc (n + 1) r p]; simp [funE]; omega
def lookF (c : UInt8) : List (UInt8 × Nat) → Option Nat
  | [] => none
  | p :: r => if p.1 = c then some p.2 else lookF c r
theorem find_funE (c : UInt8) : ∀ (l : List (UInt8 × Nat)) (n i : Nat),
    (lookF c l = none → Instr.findNow (.int .u8) (.int .u8 (c.toNat : Int)) (funE n l) i = some none) ∧
    ∀ f, lookF c l = some f → ∃ j, Instr.findNow (.int .u8) (.int .u8 (c.toNat : Int)) (funE n l) i = some (some (j, .func (.func f) #[] #[]))
  | [], n, i => ⟨fun _ => rfl, fun f h => by cases h⟩
  | p :: r, n, i => by
    by_cases h : p.1 = c
    · refine ⟨fun h2 => ?_, fun f h2 => ⟨i, ?_⟩⟩
      · rw [lookF, if_pos h] at h2; cases h2
      · rw [lookF, if_pos h] at h2
        cases h2
        subst h
        simp [funE, Instr.findNow, Instr.sameNow]
    · have hne : ((c.toNat : Int) == (p.1.toNat : Int)) = false := by
        simp; intro e; exact h (UInt8.toNat_inj.mp (by omega))
      have hs : Instr.sameNow (.int .u8) (.int .u8 (c.toNat : Int)) (.int .u8 (p.1.toNat : Int)) = some false := by simp only [Instr.sameNow, if_true, hne]
      have ih := find_funE c r (n + 1) (i + 1)
      rw [lookF, if_neg h, funE, Instr.findNow, hs]
      exact ih
/-- Block b is the map of these functions. -/
def MapF (w : World) (b : Nat) (l : List (UInt8 × Nat)) : Prop := w.heap[b]? = some (.map (funE 0 l).toArray l.length)
theorem MapF.on {w w' : World} {b : Nat} {l : List (UInt8 × Nat)} (h : MapF w b l) (hb : Below w.heap.size w w') : MapF w' b l := (hb.block b (Array.getElem?_eq_some_iff.1 h).1).trans h

theorem byte_key {P : Program} {k : TypeId} (hk : P.underlying k = some (.int .u8)) (c : UInt8) (w : World) (e : Bool) (n : Nat) : (Instr.checkKey e (n + 1) k (.int .u8 (c.toNat : Int))).run P w = .ok () w :=
  MapKept.run_checkKey hk (by simp [MapKept.IsKey]) e n

theorem run_ins_F {P : Program} {w : World} {t k e : TypeId} (ht : P.underlying t = some (.map k e)) (hk : P.underlying k = some (.int .u8)) {b : Nat} {l : List (UInt8 × Nat)} (h : MapF w b l)
    (c : UInt8) (f : Nat) (hn : lookF c l = none) : ∃ w', (Instr.mapUpdate t (.map (some b)) (.int .u8 (c.toNat : Int)) (.func (.func f) #[] #[])).run P w = .ok () w' ∧ MapF w' b (l ++ [(c, f)]) ∧ w.grownBy w' (some b) := by
  have hb : w.heap[b]? = some (.map (funE 0 l).toArray l.length) := h
  have hlt : b < w.heap.size := (Array.getElem?_eq_some_iff.1 hb).1
  have hfind := (find_funE c l 0 0).1 hn
  refine ⟨{ w with heap := w.heap.setIfInBounds b (.map ((funE 0 l).toArray.push { key := .int .u8 (c.toNat : Int), val := .func (.func f) #[] #[], born := l.length }) (l.length + 1)) }, ?_, ?_, ?_⟩
  · simp [Instr.mapUpdate, run_underlying ht, MapKept.run_getObj_map hb, byte_key hk, Instr.findKey, run_underlying hk, hfind, MapKept.run_setObj_map _ hb]
  · show (w.heap.setIfInBounds b _)[b]? = _
    rw [Array.getElem?_setIfInBounds_self_of_lt hlt, funE_snoc]
    simp
  · exact ⟨rfl, rfl, rfl, by simp, fun j _ hj => by
      show (w.heap.setIfInBounds b _)[j]? = _
      rw [Array.getElem?_setIfInBounds_ne (fun e => hj (by rw [e]))]⟩

theorem run_look_F {P : Program} {w : World} {t k e : TypeId} (ht : P.underlying t = some (.map k e)) (hk : P.underlying k = some (.int .u8)) (hz : (zeroValue e).run P w = .ok .nilFunc w) {b : Nat} {l : List (UInt8 × Nat)} (h : MapF w b l) (c : UInt8) :
    (Instr.lookup t (.map (some b)) (.int .u8 (c.toNat : Int)) true).run P w = .ok (match lookF c l with | some f => .tuple #[.func (.func f) #[] #[], .bool true] | none => .tuple #[.nilFunc, .bool false]) w := by
  have hb : w.heap[b]? = some (.map (funE 0 l).toArray l.length) := h
  obtain ⟨h1, h2⟩ := find_funE c l 0 0
  cases hq : lookF c l with
  | none => simp [Instr.lookup, run_underlying ht, MapKept.run_getObj_map hb, byte_key hk, Instr.findKey, run_underlying hk, h1 hq, hz, Result.andThen]
  | some f =>
    obtain ⟨j, hj⟩ := h2 f hq
    simp [Instr.lookup, run_underlying ht, MapKept.run_getObj_map hb, byte_key hk, Instr.findKey, run_underlying hk, hj, Result.andThen]

def letL : List (UInt8 × Nat) := [(89, 52), (109, 53), (100, 54), (72, 55), (77, 56), (83, 57), (106, 58), (115, 59)]
theorem zeroF (w : World) : (zeroValue 53).run Tryd.prog w = .ok .nilFunc w := by kernel_rfl
set_option maxRecDepth 100000 in
theorem implFormatLetters (w : World) :
    Calls Tryd.prog 29 #[] w fun e w' => e = .returned (.map (some w.heap.size)) ∧ MapF w' w.heap.size letL ∧ Below w.heap.size w w' := by
  have hmm := @run_makeMap Tryd.prog
  have h0 : MapF (w.alloc (.map #[] 0)) w.heap.size [] := heap_alloc_new w _
  have hb0 : Below w.heap.size w (w.alloc (.map #[] 0)) := (Below.refl _ _).alloc (Nat.le_refl _) _
  obtain ⟨w1, hr1, h1, hg1⟩ := run_ins_F Tryd.underlying46 Tryd.underlying5 h0 89 52 (by decide)
  have hb1 := hb0.grown hg1 hb0.size (fun j e => by cases e; exact Nat.le_refl _)
  rw [show (((89 : UInt8).toNat : Int)) = 89 from rfl] at hr1
  clear hb0 hg1
  obtain ⟨w2, hr2, h2, hg2⟩ := run_ins_F Tryd.underlying46 Tryd.underlying5 h1 109 53 (by decide)
  have hb2 := hb1.grown hg2 hb1.size (fun j e => by cases e; exact Nat.le_refl _)
  rw [show (((109 : UInt8).toNat : Int)) = 109 from rfl] at hr2
  clear hb1 hg2
  obtain ⟨w3, hr3, h3, hg3⟩ := run_ins_F Tryd.underlying46 Tryd.underlying5 h2 100 54 (by decide)
  have hb3 := hb2.grown hg3 hb2.size (fun j e => by cases e; exact Nat.le_refl _)
  rw [show (((100 : UInt8).toNat : Int)) = 100 from rfl] at hr3
  clear hb2 hg3
  obtain ⟨w4, hr4, h4, hg4⟩ := run_ins_F Tryd.underlying46 Tryd.underlying5 h3 72 55 (by decide)
  have hb4 := hb3.grown hg4 hb3.size (fun j e => by cases e; exact Nat.le_refl _)
  rw [show (((72 : UInt8).toNat : Int)) = 72 from rfl] at hr4
  clear hb3 hg4
  obtain ⟨w5, hr5, h5, hg5⟩ := run_ins_F Tryd.underlying46 Tryd.underlying5 h4 77 56 (by decide)
  have hb5 := hb4.grown hg5 hb4.size (fun j e => by cases e; exact Nat.le_refl _)
  rw [show (((77 : UInt8).toNat : Int)) = 77 from rfl] at hr5
  clear hb4 hg5
  obtain ⟨w6, hr6, h6, hg6⟩ := run_ins_F Tryd.underlying46 Tryd.underlying5 h5 83 57 (by decide)
  have hb6 := hb5.grown hg6 hb5.size (fun j e => by cases e; exact Nat.le_refl _)
  rw [show (((83 : UInt8).toNat : Int)) = 83 from rfl] at hr6
  clear hb5 hg6
  obtain ⟨w7, hr7, h7, hg7⟩ := run_ins_F Tryd.underlying46 Tryd.underlying5 h6 106 58 (by decide)
  have hb7 := hb6.grown hg7 hb6.size (fun j e => by cases e; exact Nat.le_refl _)
  rw [show (((106 : UInt8).toNat : Int)) = 106 from rfl] at hr7
  clear hb6 hg7
  obtain ⟨w8, hr8, h8, hg8⟩ := run_ins_F Tryd.underlying46 Tryd.underlying5 h7 115 59 (by decide)
  have hb8 := hb7.grown hg8 hb7.size (fun j e => by cases e; exact Nat.le_refl _)
  rw [show (((115 : UInt8).toNat : Int)) = 115 from rfl] at hr8
  clear hb7 hg8
  have HB := Lib.hid hb8
  have H8 := Lib.hid h8
  clear h0 h1 h2 h3 h4 h5 h6 h7 h8 hb8
  go_enter Tryd.func29, Tryd.ntmps29
  go_wp2
  go_ret
  exact ⟨rfl, H8.out, HB.out⟩
/-- What a letter's function tells: where its number stands in the moment, and how many digits it has. -/
def offF (c : UInt8) : Nat := if c = 89 then 0 else if c = 109 then 1 else if c = 100 then 2 else if c = 72 then 3 else if c = 77 then 4 else if c = 83 then 5 else if c = 106 then 6 else 7
def digF (c : UInt8) : Int := if c = 89 then 4 else if c = 106 then 3 else if c = 115 then 1 else 2
theorem implLetter89 (p : Nat) (w : World) :
    Calls Tryd.prog 52 #[.pointer (some ⟨p, 0, none⟩)] w fun e w' => e = .returned (.tuple #[.pointer (some ⟨p, 0, none⟩), .int .i64 4]) ∧ w = w' := by
  go_enter Tryd.func52, Tryd.ntmps52
  go_wp2
  go_ret2
  exact ⟨rfl, rfl⟩
theorem implLetter109 (p : Nat) (w : World) :
    Calls Tryd.prog 53 #[.pointer (some ⟨p, 0, none⟩)] w fun e w' => e = .returned (.tuple #[.pointer (some ⟨p, 1, none⟩), .int .i64 2]) ∧ w = w' := by
  go_enter Tryd.func53, Tryd.ntmps53
  go_wp2
  go_ret2
  exact ⟨rfl, rfl⟩
theorem implLetter100 (p : Nat) (w : World) :
    Calls Tryd.prog 54 #[.pointer (some ⟨p, 0, none⟩)] w fun e w' => e = .returned (.tuple #[.pointer (some ⟨p, 2, none⟩), .int .i64 2]) ∧ w = w' := by
  go_enter Tryd.func54, Tryd.ntmps54
  go_wp2
  go_ret2
  exact ⟨rfl, rfl⟩
theorem implLetter72 (p : Nat) (w : World) :
    Calls Tryd.prog 55 #[.pointer (some ⟨p, 0, none⟩)] w fun e w' => e = .returned (.tuple #[.pointer (some ⟨p, 3, none⟩), .int .i64 2]) ∧ w = w' := by
  go_enter Tryd.func55, Tryd.ntmps55
  go_wp2
  go_ret2
  exact ⟨rfl, rfl⟩
theorem implLetter77 (p : Nat) (w : World) :
    Calls Tryd.prog 56 #[.pointer (some ⟨p, 0, none⟩)] w fun e w' => e = .returned (.tuple #[.pointer (some ⟨p, 4, none⟩), .int .i64 2]) ∧ w = w' := by
  go_enter Tryd.func56, Tryd.ntmps56
  go_wp2
  go_ret2
  exact ⟨rfl, rfl⟩
theorem implLetter83 (p : Nat) (w : World) :
    Calls Tryd.prog 57 #[.pointer (some ⟨p, 0, none⟩)] w fun e w' => e = .returned (.tuple #[.pointer (some ⟨p, 5, none⟩), .int .i64 2]) ∧ w = w' := by
  go_enter Tryd.func57, Tryd.ntmps57
  go_wp2
  go_ret2
  exact ⟨rfl, rfl⟩
theorem implLetter106 (p : Nat) (w : World) :
    Calls Tryd.prog 58 #[.pointer (some ⟨p, 0, none⟩)] w fun e w' => e = .returned (.tuple #[.pointer (some ⟨p, 6, none⟩), .int .i64 3]) ∧ w = w' := by
  go_enter Tryd.func58, Tryd.ntmps58
  go_wp2
  go_ret2
  exact ⟨rfl, rfl⟩
theorem implLetter115 (p : Nat) (w : World) :
    Calls Tryd.prog 59 #[.pointer (some ⟨p, 0, none⟩)] w fun e w' => e = .returned (.tuple #[.pointer (some ⟨p, 7, none⟩), .int .i64 1]) ∧ w = w' := by
  go_enter Tryd.func59, Tryd.ntmps59
  go_wp2
  go_ret2
  exact ⟨rfl, rfl⟩
theorem look_is (c : UInt8) (f : Nat) (h : lookF c letL = some f) (p : Nat) (w : World) :
    Calls Tryd.prog f #[.pointer (some ⟨p, 0, none⟩)] w fun e w' => e = .returned (.tuple #[.pointer (some ⟨p, offF c, none⟩), .int .i64 (digF c)]) ∧ w = w' := by
  unfold letL at h
  rw [lookF] at h
  by_cases k89 : 89 = c
  · rw [if_pos k89] at h; cases h; subst k89; exact implLetter89 p w
  rw [if_neg k89] at h
  rw [lookF] at h
  by_cases k109 : 109 = c
  · rw [if_pos k109] at h; cases h; subst k109; exact implLetter109 p w
  rw [if_neg k109] at h
  rw [lookF] at h
  by_cases k100 : 100 = c
  · rw [if_pos k100] at h; cases h; subst k100; exact implLetter100 p w
  rw [if_neg k100] at h
  rw [lookF] at h
  by_cases k72 : 72 = c
  · rw [if_pos k72] at h; cases h; subst k72; exact implLetter72 p w
  rw [if_neg k72] at h
  rw [lookF] at h
  by_cases k77 : 77 = c
  · rw [if_pos k77] at h; cases h; subst k77; exact implLetter77 p w
  rw [if_neg k77] at h
  rw [lookF] at h
  by_cases k83 : 83 = c
  · rw [if_pos k83] at h; cases h; subst k83; exact implLetter83 p w
  rw [if_neg k83] at h
  rw [lookF] at h
  by_cases k106 : 106 = c
  · rw [if_pos k106] at h; cases h; subst k106; exact implLetter106 p w
  rw [if_neg k106] at h
  rw [lookF] at h
  by_cases k115 : 115 = c
  · rw [if_pos k115] at h; cases h; subst k115; exact implLetter115 p w
  rw [if_neg k115] at h
  cases h
theorem enter89 (args : Array Value) (w : World) : (callFunc 52 args).run Tryd.prog w = .ok (.enter 52 args) w := by kernel_rfl
theorem enter109 (args : Array Value) (w : World) : (callFunc 53 args).run Tryd.prog w = .ok (.enter 53 args) w := by kernel_rfl
theorem enter100 (args : Array Value) (w : World) : (callFunc 54 args).run Tryd.prog w = .ok (.enter 54 args) w := by kernel_rfl
theorem enter72 (args : Array Value) (w : World) : (callFunc 55 args).run Tryd.prog w = .ok (.enter 55 args) w := by kernel_rfl
theorem enter77 (args : Array Value) (w : World) : (callFunc 56 args).run Tryd.prog w = .ok (.enter 56 args) w := by kernel_rfl
theorem enter83 (args : Array Value) (w : World) : (callFunc 57 args).run Tryd.prog w = .ok (.enter 57 args) w := by kernel_rfl
theorem enter106 (args : Array Value) (w : World) : (callFunc 58 args).run Tryd.prog w = .ok (.enter 58 args) w := by kernel_rfl
theorem enter115 (args : Array Value) (w : World) : (callFunc 59 args).run Tryd.prog w = .ok (.enter 59 args) w := by kernel_rfl
theorem look_enter (c : UInt8) (f : Nat) (h : lookF c letL = some f) (args : Array Value) (w : World) : (callFunc f args).run Tryd.prog w = .ok (.enter f args) w := by
  unfold letL at h
  rw [lookF] at h
  by_cases k89 : 89 = c
  · rw [if_pos k89] at h; cases h; exact enter89 args w
  rw [if_neg k89] at h
  rw [lookF] at h
  by_cases k109 : 109 = c
  · rw [if_pos k109] at h; cases h; exact enter109 args w
  rw [if_neg k109] at h
  rw [lookF] at h
  by_cases k100 : 100 = c
  · rw [if_pos k100] at h; cases h; exact enter100 args w
  rw [if_neg k100] at h
  rw [lookF] at h
  by_cases k72 : 72 = c
  · rw [if_pos k72] at h; cases h; exact enter72 args w
  rw [if_neg k72] at h
  rw [lookF] at h
  by_cases k77 : 77 = c
  · rw [if_pos k77] at h; cases h; exact enter77 args w
  rw [if_neg k77] at h
  rw [lookF] at h
  by_cases k83 : 83 = c
  · rw [if_pos k83] at h; cases h; exact enter83 args w
  rw [if_neg k83] at h
  rw [lookF] at h
  by_cases k106 : 106 = c
  · rw [if_pos k106] at h; cases h; exact enter106 args w
  rw [if_neg k106] at h
  rw [lookF] at h
  by_cases k115 : 115 = c
  · rw [if_pos k115] at h; cases h; exact enter115 args w
  rw [if_neg k115] at h
  cases h
end Go.Proofs.YtbikcldkaogfmaaDoor
