/- The draw of an age; laws.at. -/
import Derived.Test.YtnmlhjigiemfgaaDrawInts
namespace Go.Proofs.Ytnmlhjigiemfgaa
open Go.RowKit


theorem lawsAt (w0 W : World) (a : Option Addr) (len cap i : Nat) (zs : List Int) (hr : IsRow .u8 w0 a len cap zs) (hb : Below w0.heap.size w0 W) (hlen : len ≤ 1048576) (hi : i ≤ 1000) :
    Calls Try.prog 11 #[.slice a len cap, .int .i64 i] W fun e W' => (∃ x, e = .returned (.int .i64 x) ∧ 0 ≤ x ∧ x ≤ 255) ∧ W = W' := by
  by_cases h : i < len
  · obtain ⟨b, off, rfl, hlt, hcell, h0, h1⟩ := row_at hr hb i h
    generalize zs.getD i 0 = x at hcell h0 h1
    have hli : (i : Int) < (len : Int) := by omega
    clear hr
    go_enter Try.func11, Try.ntmps11
    go_wp2
    go_ret
    exact ⟨⟨x, rfl, h0, h1⟩, rfl⟩
  · have hli : ¬ (i : Int) < (len : Int) := by omega
    clear hr
    go_enter Try.func11, Try.ntmps11
    go_wp2
    go_ret
    exact ⟨⟨_, rfl, by omega, by omega⟩, rfl⟩
end Go.Proofs.Ytnmlhjigiemfgaa
