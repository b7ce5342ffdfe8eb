/- spec.Match. -/
import Derived.Test.YthlmkeibaaobeaaDoorSpecAll
import Derived.Test.YthlmkeibaaobeaaDoorSpecName
namespace Go.Proofs.YthlmkeibaaobeaaDoor
open Go.RowKit

/-- What Match tells. -/
def matB (l name : List UInt8) : Bool := patB l && nameB name && matchV l name
theorem patB_some {l : List UInt8} (h : patB l = true) : l.length ≤ 60 ∧ ∃ ps, piecesL l = some ps := by
  unfold patB at h
  simp only [Bool.and_eq_true, decide_eq_true_eq] at h
  obtain ⟨ps, hp⟩ := Option.isSome_iff_exists.1 h.2
  exact ⟨h.1.1, ps, hp⟩
theorem matchV_some {l name : List UInt8} {ps : List Pc} (h : piecesL l = some ps) : matchV l name = runF name ps (fun k => k == 0) name.length := by unfold matchV; rw [h]

set_option maxRecDepth 100000 in
theorem specMatch (s q : ByteArray) (hm : s.size ≤ maxLen) (w : World) :
    Calls Tryd.prog 8 #[.string s, .string q] w fun e w' => e = .returned (.bool (matB s.data.toList q.data.toList)) ∧ Below w.heap.size w w' := by
  have CP := Lib.hid (fun W => specPatternOk s hm W)
  have CN := Lib.hid (fun W => specNameOk q W)
  unfold matB
  cases hp : patB s.data.toList with
  | false =>
    rw [hp] at CP
    simp only [Bool.false_and]
    clear hp
    go_enter Tryd.func8, Tryd.ntmps8
    go_wp2_with fail
    refine (CP.out _).mono ?_
    rintro e W1 ⟨rfl, rfl⟩
    go_wp2
    go_ret
    exact ⟨rfl, Below.refl _ _⟩
  | true =>
    rw [hp] at CP
    cases hn : nameB q.data.toList with
    | false =>
      rw [hn] at CN
      simp only [Bool.true_and, Bool.false_and]
      clear hp hn
      go_enter Tryd.func8, Tryd.ntmps8
      go_wp2_with fail
      refine (CP.out _).mono ?_
      rintro e W1 ⟨rfl, rfl⟩
      go_wp2_with fail
      refine (CN.out _).mono ?_
      rintro e W1 ⟨rfl, rfl⟩
      go_wp2
      go_ret
      exact ⟨rfl, Below.refl _ _⟩
    | true =>
      rw [hn] at CN
      simp only [Bool.true_and]
      obtain ⟨h1, ps, h2⟩ := patB_some hp
      have h3 := nameB_len hn
      have hsz : s.data.toList.length = s.size := by simp
      have hqz : q.data.toList.length = q.size := by simp
      have CA := Lib.hid (fun W => specAll s q (by omega) (by omega) (matchV s.data.toList q.data.toList) ⟨ps, h2, by rw [matchV_some h2, hqz]⟩ W)
      generalize matchV s.data.toList q.data.toList = b at CA
      clear hp hn h1 h2 h3 hsz hqz
      go_enter Tryd.func8, Tryd.ntmps8
      go_wp2_with fail
      refine (CP.out _).mono ?_
      rintro e W1 ⟨rfl, rfl⟩
      go_wp2_with fail
      refine (CN.out _).mono ?_
      rintro e W1 ⟨rfl, rfl⟩
      go_wp2_with fail
      refine (CA.out _).mono ?_
      rintro e W1 ⟨rfl, hb⟩
      go_wp2
      go_ret
      exact ⟨rfl, hb⟩
end Go.Proofs.YthlmkeibaaobeaaDoor
