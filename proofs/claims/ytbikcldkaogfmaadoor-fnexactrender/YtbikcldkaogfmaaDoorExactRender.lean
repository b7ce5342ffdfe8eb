/- Proved: laws.FnExactRender answers true at every text and every int: impl.Render answers as spec.Render does, and the arguments read as before. The listed tables (the months' lengths, those of the standard library) are tied to the program's text; the card speaks of the pruned copy of the project that the seat holds. -/
import Derived.Test.YtbikcldkaogfmaaDoorImplRender
namespace Go.Proofs.YtbikcldkaogfmaaDoor
open Go.RowKit
theorem walkExactRender (s : ByteArray) (t : Int) (hs : s.size ≤ maxLen) (w : World) (hT : TabsC w) :
    Calls Tryd.prog 5 #[.string s, .int .i64 t] w fun e w' => e = .returned (.bool true) ∧ Below w.heap.size w w' := by
  by_cases hl : s.size ≤ 1048576
  · obtain ⟨q, CS, CI⟩ : ∃ q : ByteArray, (∀ W, Calls Tryd.prog 22 #[.string s, .int .i64 t] W fun e w' => e = .returned (.string q) ∧ Below W.heap.size W w') ∧
        ∀ W, Below w.heap.size w W → Calls Tryd.prog 14 #[.string s, .int .i64 t] W fun e w' => e = .returned (.string q) ∧ Below W.heap.size W w' := by
      cases ht : timeB t
      · exact ⟨⟨#[]⟩, fun W => specRender_out s t W ht, fun W _ => implRender_out s t W ht⟩
      · obtain ⟨h0, h1⟩ := inB_iff.1 ht
        obtain ⟨x, hx, rfl⟩ := dt_some t h0 h1
        exact ⟨_, fun W => specRender s x hx W hl, fun W h => implRender s x hx W hl (hT.on h)⟩
    have HCS := Lib.hid CS
    have HCI := Lib.hid CI
    clear hT CS CI
    unfold maxLen at hs
    go_enter Tryd.func5, Tryd.ntmps5
    go_wp2_with fail
    refine (HCS.out _).mono ?_
    rintro e W1 ⟨rfl, hb1⟩
    go_wp2_with fail
    refine (HCI.out _ hb1).mono ?_
    rintro e W2 ⟨rfl, hb2⟩
    go_wp2
    go_ret
    exact ⟨rfl, hb1.trans (hb2.mono hb1.size)⟩
  · unfold maxLen at hs
    clear hT
    go_enter Tryd.func5, Tryd.ntmps5
    go_wp2
    go_ret
    exact ⟨rfl, Below.refl _ _⟩
end Go.Proofs.YtbikcldkaogfmaaDoor
