/-
  DERIVED. GIVEN WITH THE SEED: THE CARDS: each row of YthlmkeibaaobeaaDoorRows.lean that lists a variable, with what it lists TIED to the program's text (the seventh form; the later family's looks); each row that meets fmt, with fmt's text TOLD by the authors' own Lean function (tested against real Go, not proved from fmt's source: count such statements apart). THE CARD IS WHAT COUNTS. Prove the row's statement (the work); the ties are given (YthlmkeibaaobeaaDoorTie.lean); close each card by the builder's one call (the guide's Derived/Test/ToyasCard.lean, 'card_holds'). Laid BY PROGRAM, IN A SANDBOX (cutbox-door.mjs). By AI agents, Wed Nov 11 2026. No macro, syntax, notation, axiom, sorry.
-/
import Derived.Test.YthlmkeibaaobeaaDoorRows
import GoSem.ClaimSeven
namespace Go.Proofs.YthlmkeibaaobeaaDoor
namespace Rows

/-- THE TIED CARD OF 'laws.FnMatch'. -/
def fnMatchCard : Claim7 := { stood := { row := fnMatchRow, standIns := [], harness := (true, "115084b822692805f84077ccd1490a12e227a5432128bb931f5b955528d2bef7"), looks := true }, kinds := [], alts := [], laidByText := true, laidKinds := [.data, .pinned], laidTests := true, laidLooks := .later }
def FnMatchCardSaid : Prop := Claim7.holds Tryd.pinned (.plain (OpenSpec.ofChange fnMatchSpec)) fnMatchCard

/-- THE TIED CARD OF 'laws.FnExactMatchPath'. -/
def fnExactMatchPathCard : Claim7 := { stood := { row := fnExactMatchPathRow, standIns := [], harness := (true, "115084b822692805f84077ccd1490a12e227a5432128bb931f5b955528d2bef7"), looks := true }, kinds := [], alts := [], laidByText := true, laidKinds := [.data, .pinned], laidTests := true, laidLooks := .later }
def FnExactMatchPathCardSaid : Prop := Claim7.holds Tryd.pinned (.plain (OpenSpec.ofChange fnExactMatchPathSpec)) fnExactMatchPathCard

/-- THE SECOND FORM's CARD OF 'laws.FnMatch'. -/
def fnMatchUptoCard : Claim7 := { stood := { row := fnMatchUptoRow, standIns := [], harness := (true, "115084b822692805f84077ccd1490a12e227a5432128bb931f5b955528d2bef7"), looks := true }, kinds := [], alts := [], laidByText := true, laidKinds := [.data, .pinned], laidTests := true, laidLooks := .later }
def FnMatchUptoCardSaid : Prop := Claim7.holds Tryd.pinned (.plain (OpenSpec.upto fnMatchSpec)) fnMatchUptoCard

/-- THE SECOND FORM's CARD OF 'laws.FnExactMatchPath'. -/
def fnExactMatchPathUptoCard : Claim7 := { stood := { row := fnExactMatchPathUptoRow, standIns := [], harness := (true, "115084b822692805f84077ccd1490a12e227a5432128bb931f5b955528d2bef7"), looks := true }, kinds := [], alts := [], laidByText := true, laidKinds := [.data, .pinned], laidTests := true, laidLooks := .later }
def FnExactMatchPathUptoCardSaid : Prop := Claim7.holds Tryd.pinned (.plain (OpenSpec.upto fnExactMatchPathSpec)) fnExactMatchPathUptoCard
end Rows
end Go.Proofs.YthlmkeibaaobeaaDoor
