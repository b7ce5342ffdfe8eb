/- The head of the small form (impl.smallHead), alone and beside leavers: the library's numerals run as small programs that hold no word on synchronisation. -/
import Derived.Test.YtnmlhjigiemfgaaDoorBesideKit
import Derived.Test.YtnmlhjigiemfgaaDoorSquashV
import Derived.Test.YtnmlhjigiemfgaaDoorPad
import Derived.Test.YtnmlhjigiemfgaaDoorImplCrc
namespace Go.Proofs.YtnmlhjigiemfgaaDoor
open Go Go.Conc Go.RowKit

theorem closed_of {P : Program} {L E : List FuncId} (h : L.all (fun f => E.contains f || (match P.funcs[f]? with | some fn => (match fn.body with | some c => okCode L c && !(fn.name == "runtime.NumGoroutine") | none => false) | none => false)) = true)
    (hE : ∀ f ∈ E, OkFn P L f) (hi : P.funcs.all (fun f => ((f.body.map readies).getD []).isEmpty) = true) : Closed P L := by
  refine ⟨fun f hf => ?_, no_init hi⟩
  have := List.all_eq_true.1 h f hf
  rw [Bool.or_eq_true] at this
  rcases this with h1 | h1
  · exact hE f (by simpa using h1)
  · split at h1
    · rename_i fn hfn
      split at h1
      · rename_i c hc
        rw [Bool.and_eq_true] at h1
        exact .body fn c hfn (by simpa using h1.2) hc h1.1
      · cases h1
    · cases h1
theorem tt_same {P : Program} (a : Array Value) : TT P (Extern.AbiNoEscape.same a) :=
  arr_cases (fun a => TT P (Extern.AbiNoEscape.same a)) (tt_stuck _) (fun x => tt_pure x) (fun _ _ => tt_stuck _) (fun _ _ _ _ => tt_stuck _) a
theorem tt_makeNoZero {P : Program} (p r : Array TypeId) (a : Array Value) : TT P (Extern.BytealgMakeNoZero.makeNoZero p r a) := by
  refine arr_cases (fun a => TT P (Extern.BytealgMakeNoZero.makeNoZero p r a)) (tt_stuck _) (fun x => ?_) (fun _ _ => tt_stuck _) (fun _ _ _ _ => tt_stuck _) a
  cases x with
  | int k n =>
    cases k with
    | i64 =>
      show TT P (Extern.BytealgMakeNoZero.makeNoZero p r #[.int .i64 n])
      unfold Extern.BytealgMakeNoZero.makeNoZero
      split
      rotate_left
      · exact tt_stuck _
      refine tt_bind (tt_underlying _) (fun d => ?_)
      repeat' (first
        | with_reducible apply tt_stuck
        | with_reducible apply tt_underlying
        | with_reducible apply tt_runtimePanic
        | with_reducible apply tt_choose
        | with_reducible apply tt_askRoom
        | with_reducible apply tt_newRow
        | with_reducible apply tt_bind
        | with_reducible apply tt_ite
        | with_reducible exact trivial
        | with_reducible apply tt_pure
        | assumption
        | with_reducible intro _
        | split
        | dsimp only
        | intro _)
    | _ => exact tt_stuck _
  | _ => exact tt_stuck _

/-- All that the head's making reaches. -/
def LH : List FuncId := [23, 34, 35, 41, 42, 43, 44, 45, 46, 47, 48, 49, 50, 51, 52, 53, 54, 55, 56, 57, 60, 61, 62, 63, 64, 65, 66, 67, 68, 69, 70, 58, 59]
theorem closedHead : Closed Tryd.prog LH := by
  refine closed_of (E := [58, 59]) (by kernel_rfl) (fun f hf => ?_) (by kernel_rfl)
  simp at hf
  rcases hf with rfl | rfl
  · exact .ext _ _ Tryd.func58 (by rfl) (by rfl) (by kernel_rfl) (show Extern.find Tryd.f58 = some Extern.AbiNoEscape.same by kernel_rfl) tt_same
  · exact .ext _ _ Tryd.func59 (by rfl) (by rfl) (by kernel_rfl) (show Extern.find Tryd.f59 = some (Extern.BytealgMakeNoZero.makeNoZero Tryd.f59.params Tryd.f59.resultTypes) by kernel_rfl) (tt_makeNoZero _ _)

set_option maxRecDepth 100000 in
set_option maxHeartbeats 4000000 in
theorem implHead (s : ByteArray) (w : World) (hs : s.size ≤ 3000) (hT : Tabs w) :
    Calls Tryd.prog 23 #[.string s] w fun e w' => e = .returned (.string (strOf (hdrV s.size (crcV s.data.toList)))) ∧ Below w.heap.size w w' := by
  have hcl := crcV_lt s.data.toList
  have C1 := Lib.hid (fun W (h : Tabs W) => implPadText (s.size : Int) 5 W (by omega) (by omega) h)
  have C2 := Lib.hid (fun W => implCrc s (by unfold maxLen; omega) W)
  have C3 := Lib.hid (fun W (h : Tabs W) => implPadText ((crcV s.data.toList : Nat) : Int) 10 W (by omega) (by omega) h)
  have hp1 : (padV (s.size : Int) 5).length ≤ 5 := by rw [show padV (s.size : Int) 5 = padL (Lib.decDigits s.size) 5 from padV_eq _ 5 (by omega), padL_len _ 5 (digits_short 4 s.size (by omega))]; exact Nat.le_refl _
  have hp2 : (padV ((crcV s.data.toList : Nat) : Int) 10).length ≤ 10 := by rw [show padV ((crcV s.data.toList : Nat) : Int) 10 = padL (Lib.decDigits (crcV s.data.toList)) 10 from padV_eq _ 10 (by omega), padL_len _ 10 (digits_short 9 _ (by omega))]; exact Nat.le_refl _
  have HH := Lib.hid (show hdrV s.size (crcV s.data.toList) = [83, 81] ++ padV (s.size : Int) 5 ++ padV ((crcV s.data.toList : Nat) : Int) 10 ++ [10] from rfl)
  have hcw : IntKind.i64.wrap ((crcV s.data.toList : Nat) : Int) = ((crcV s.data.toList : Nat) : Int) := IntWalk.i64_in _ (by omega)
  generalize hdrV s.size (crcV s.data.toList) = hd at HH
  generalize padV (s.size : Int) 5 = p1 at C1 hp1 HH
  generalize padV ((crcV s.data.toList : Nat) : Int) 10 = p2 at C3 hp2 HH
  generalize crcV s.data.toList = cr at C2 C3 hcw hcl
  have a1 : ∀ w, (Op.stringOp .add ⟨#[83, 81]⟩ (strOf p1)).run Tryd.prog w = .ok (.string (strOf ([83, 81] ++ p1))) w := fun w => run_add [83, 81] p1 (by simp; omega) w
  have a2 := run_add ([83, 81] ++ p1) p2 (by simp; omega)
  have a3 : ∀ w, (Op.stringOp .add (strOf ([83, 81] ++ p1 ++ p2)) ⟨#[10]⟩).run Tryd.prog w = .ok (.string (strOf ([83, 81] ++ p1 ++ p2 ++ [10]))) w := fun w => run_add ([83, 81] ++ p1 ++ p2) [10] (by simp; omega) w
  rw [← HH.out] at a3
  generalize [83, 81] ++ p1 ++ p2 = q2 at a2 a3
  generalize [83, 81] ++ p1 = q1 at a1 a2
  have HT := Lib.hid hT
  clear HH hp1 hp2 hT
  go_enter Tryd.func23, Tryd.ntmps23
  go_wp2_with fail
  refine (C1.out _ HT.out).mono ?_
  rintro e W1 ⟨rfl, hb1⟩
  have HT1 := Lib.hid (HT.out.on hb1)
  have HB1 := Lib.hid hb1
  clear hb1
  go_wp2_with fail
  refine (C2.out _).mono ?_
  rintro e W2 ⟨rfl, rfl⟩
  go_wp2_with fail
  refine (C3.out _ HT1.out).mono ?_
  rintro e W3 ⟨rfl, hb3⟩
  go_wp2
  go_ret
  exact ⟨rfl, HB1.out.trans (hb3.mono HB1.out.size)⟩

theorem Tabs.grew {w w' : World} (h : Tabs w) (hg : Grew w w') : Tabs w' :=
  have hb : Below w.heap.size w (reT w' w.tape 0) := ⟨hg.os, rfl, hg.output, hg.size, hg.block⟩
  ⟨(h.on hb).pow, (h.on hb).deb⟩
theorem headB (W : World) (s : ByteArray) (hs : s.size ≤ 3000) (hT : Tabs W) (fr : Frame) (cs : List Frame) :
    Beside Tryd.prog (G (Frame.enter Tryd.prog 23 #[.string s] .normal) (fr :: cs)) W fun g' w' => g' = G (fr.finish (.string (strOf (hdrV s.size (crcV s.data.toList))))) cs ∧ Grew W w' := by
  refine (beside_calls closedHead Tryd.func23 rfl (by kernel_rfl) (fun tmps => ⟨_, resultsC_tmp (by rfl) tmps⟩) (R := fun v w' => v = .string (strOf (hdrV s.size (crcV s.data.toList))) ∧ Grew W w') (fun v w t d h => ⟨h.1, h.2.re t d⟩)
    (fun t => (implHead s (reT W t 0) hs (hT.grew ((Grew.refl W).re t 0))).mono fun e w' h => ⟨_, h.1, rfl, ⟨h.2.os, h.2.output, h.2.size, h.2.block⟩⟩) fr cs).mono ?_
  rintro g' w' ⟨v, rfl, rfl, h⟩
  exact ⟨rfl, h⟩
end Go.Proofs.YtnmlhjigiemfgaaDoor
