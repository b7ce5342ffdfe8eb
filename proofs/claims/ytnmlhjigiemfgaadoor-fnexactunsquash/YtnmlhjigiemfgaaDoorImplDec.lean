/- The contract of impl.DecText: the decimal numeral of every int. -/
import Derived.Test.YtnmlhjigiemfgaaDoorDecText
import Derived.Test.YtnmlhjigiemfgaaDoorLaid
import Derived.Test.YtnmlhjigiemfgaaDoorShelf
namespace Go.Proofs.YtnmlhjigiemfgaaDoor
open Go.RowKit

theorem implDecText (n : Int) (w : World) (h1 : -9223372036854775808 ≤ n) (h2 : n ≤ 9223372036854775807) (hT : Tabs w) :
    Calls Tryd.prog 42 #[.int .i64 n] w fun e w' => e = .returned (.string (strOf (Lib.itoa n))) ∧ Below w.heap.size w w' := by
  go_enter Tryd.func42, Tryd.ntmps42
  go_wp2_with (go_at_call 44; refine (Tryd.strconv_Itoa _ h1 h2 _ hT.pow).mono ?_; rintro e w' ⟨rfl, k, os, rfl⟩)
  go_ret
  exact ⟨rfl, below_grow _ _ _⟩
end Go.Proofs.YtnmlhjigiemfgaaDoor
