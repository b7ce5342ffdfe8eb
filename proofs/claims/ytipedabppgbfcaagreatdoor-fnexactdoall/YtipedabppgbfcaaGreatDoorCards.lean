/-
  DERIVED. GIVEN WITH THE SEED: THE CARDS: each row of YtipedabppgbfcaaGreatDoorRows.lean that lists a variable, with what it lists TIED to the program's text (the seventh form; the later family's looks); each row that meets fmt, with fmt's text TOLD by the authors' own Lean function (tested against real Go, not proved from fmt's source: count such statements apart). THE CARD IS WHAT COUNTS. Prove the row's statement (the work); the ties are given (YtipedabppgbfcaaGreatDoorTie.lean); close each card by the builder's one call (the guide's Derived/Test/ToyasCard.lean, 'card_holds'). Laid BY PROGRAM, IN A SANDBOX (cutbox-door.mjs). By AI agents, Wed Nov 11 2026. No macro, syntax, notation, axiom, sorry.
-/
import Derived.Test.YtipedabppgbfcaaGreatDoorRows
import GoSem.ClaimSeven
namespace Go.Proofs.YtipedabppgbfcaaGreatDoor
namespace Rows

/-- THE TIED CARD OF 'laws.FnDo'. -/
def fnDoCard : Claim7 := { stood := { row := fnDoRow, standIns := [], harness := (true, "9637c48b6269d4f670299eaa0ed1f90fc40a582efc3036c83e4c341d8cded4ab"), looks := true }, kinds := [], alts := [], laidByText := true, laidKinds := [.data, .pinned], laidTests := true, laidLooks := .later }
def FnDoCardSaid : Prop := Claim7.holds Tryz.pinned (.plain (OpenSpec.ofChange fnDoSpec)) fnDoCard

/-- THE TIED CARD OF 'laws.FnUndo'. -/
def fnUndoCard : Claim7 := { stood := { row := fnUndoRow, standIns := [], harness := (true, "9637c48b6269d4f670299eaa0ed1f90fc40a582efc3036c83e4c341d8cded4ab"), looks := true }, kinds := [], alts := [], laidByText := true, laidKinds := [.data, .pinned], laidTests := true, laidLooks := .later }
def FnUndoCardSaid : Prop := Claim7.holds Tryz.pinned (.plain (OpenSpec.ofChange fnUndoSpec)) fnUndoCard

/-- THE TIED CARD OF 'laws.FnDoAll'. -/
def fnDoAllCard : Claim7 := { stood := { row := fnDoAllRow, standIns := [], harness := (true, "9637c48b6269d4f670299eaa0ed1f90fc40a582efc3036c83e4c341d8cded4ab"), looks := true }, kinds := [], alts := [], laidByText := true, laidKinds := [.data, .pinned], laidTests := true, laidLooks := .later }
def FnDoAllCardSaid : Prop := Claim7.holds Tryz.pinned (.plain (OpenSpec.ofChange fnDoAllSpec)) fnDoAllCard

/-- THE TIED CARD OF 'laws.FnDisk'. -/
def fnDiskCard : Claim7 := { stood := { row := fnDiskRow, standIns := [], harness := (true, "9637c48b6269d4f670299eaa0ed1f90fc40a582efc3036c83e4c341d8cded4ab"), looks := true }, kinds := [], alts := [], laidByText := true, laidKinds := [.data, .pinned], laidTests := true, laidLooks := .later }
def FnDiskCardSaid : Prop := Claim7.holds Tryz.pinned (.plain (OpenSpec.ofChange fnDiskSpec)) fnDiskCard

/-- THE TIED CARD OF 'laws.FnCut'. -/
def fnCutCard : Claim7 := { stood := { row := fnCutRow, standIns := [], harness := (true, "9637c48b6269d4f670299eaa0ed1f90fc40a582efc3036c83e4c341d8cded4ab"), looks := true }, kinds := [], alts := [], laidByText := true, laidKinds := [.data, .pinned], laidTests := true, laidLooks := .later }
def FnCutCardSaid : Prop := Claim7.holds Tryz.pinned (.plain (OpenSpec.ofChange fnCutSpec)) fnCutCard

/-- THE TIED CARD OF 'laws.FnExactDo'. -/
def fnExactDoCard : Claim7 := { stood := { row := fnExactDoRow, standIns := [], harness := (true, "9637c48b6269d4f670299eaa0ed1f90fc40a582efc3036c83e4c341d8cded4ab"), looks := true }, kinds := [], alts := [], laidByText := true, laidKinds := [.data, .pinned], laidTests := true, laidLooks := .later }
def FnExactDoCardSaid : Prop := Claim7.holds Tryz.pinned (.plain (OpenSpec.ofChange fnExactDoSpec)) fnExactDoCard

/-- THE TIED CARD OF 'laws.FnExactDoAll'. -/
def fnExactDoAllCard : Claim7 := { stood := { row := fnExactDoAllRow, standIns := [], harness := (true, "9637c48b6269d4f670299eaa0ed1f90fc40a582efc3036c83e4c341d8cded4ab"), looks := true }, kinds := [], alts := [], laidByText := true, laidKinds := [.data, .pinned], laidTests := true, laidLooks := .later }
def FnExactDoAllCardSaid : Prop := Claim7.holds Tryz.pinned (.plain (OpenSpec.ofChange fnExactDoAllSpec)) fnExactDoAllCard

/-- THE TIED CARD OF 'laws.FnExactDiskOk'. -/
def fnExactDiskOkCard : Claim7 := { stood := { row := fnExactDiskOkRow, standIns := [], harness := (true, "9637c48b6269d4f670299eaa0ed1f90fc40a582efc3036c83e4c341d8cded4ab"), looks := true }, kinds := [], alts := [], laidByText := true, laidKinds := [.data, .pinned], laidTests := true, laidLooks := .later }
def FnExactDiskOkCardSaid : Prop := Claim7.holds Tryz.pinned (.plain (OpenSpec.ofChange fnExactDiskOkSpec)) fnExactDiskOkCard

/-- THE TIED CARD OF 'laws.FnExactNewDisk'. -/
def fnExactNewDiskCard : Claim7 := { stood := { row := fnExactNewDiskRow, standIns := [], harness := (true, "9637c48b6269d4f670299eaa0ed1f90fc40a582efc3036c83e4c341d8cded4ab"), looks := true }, kinds := [], alts := [], laidByText := true, laidKinds := [.data, .pinned], laidTests := true, laidLooks := .later }
def FnExactNewDiskCardSaid : Prop := Claim7.holds Tryz.pinned (.plain (OpenSpec.ofChange fnExactNewDiskSpec)) fnExactNewDiskCard

/-- THE TIED CARD OF 'laws.FnExactLive'. -/
def fnExactLiveCard : Claim7 := { stood := { row := fnExactLiveRow, standIns := [], harness := (true, "9637c48b6269d4f670299eaa0ed1f90fc40a582efc3036c83e4c341d8cded4ab"), looks := true }, kinds := [], alts := [], laidByText := true, laidKinds := [.data, .pinned], laidTests := true, laidLooks := .later }
def FnExactLiveCardSaid : Prop := Claim7.holds Tryz.pinned (.plain (OpenSpec.ofChange fnExactLiveSpec)) fnExactLiveCard

/-- THE TIED CARD OF 'laws.FnExactPut'. -/
def fnExactPutCard : Claim7 := { stood := { row := fnExactPutRow, standIns := [], harness := (true, "9637c48b6269d4f670299eaa0ed1f90fc40a582efc3036c83e4c341d8cded4ab"), looks := true }, kinds := [], alts := [], laidByText := true, laidKinds := [.data, .pinned], laidTests := true, laidLooks := .later }
def FnExactPutCardSaid : Prop := Claim7.holds Tryz.pinned (.plain (OpenSpec.ofChange fnExactPutSpec)) fnExactPutCard

/-- THE TIED CARD OF 'laws.FnExactCut'. -/
def fnExactCutCard : Claim7 := { stood := { row := fnExactCutRow, standIns := [], harness := (true, "9637c48b6269d4f670299eaa0ed1f90fc40a582efc3036c83e4c341d8cded4ab"), looks := true }, kinds := [], alts := [], laidByText := true, laidKinds := [.data, .pinned], laidTests := true, laidLooks := .later }
def FnExactCutCardSaid : Prop := Claim7.holds Tryz.pinned (.plain (OpenSpec.ofChange fnExactCutSpec)) fnExactCutCard

/-- THE SECOND FORM's CARD OF 'laws.FnDo'. -/
def fnDoUptoCard : Claim7 := { stood := { row := fnDoUptoRow, standIns := [], harness := (true, "9637c48b6269d4f670299eaa0ed1f90fc40a582efc3036c83e4c341d8cded4ab"), looks := true }, kinds := [], alts := [], laidByText := true, laidKinds := [.data, .pinned], laidTests := true, laidLooks := .later }
def FnDoUptoCardSaid : Prop := Claim7.holds Tryz.pinned (.plain (OpenSpec.upto fnDoSpec)) fnDoUptoCard

/-- THE SECOND FORM's CARD OF 'laws.FnUndo'. -/
def fnUndoUptoCard : Claim7 := { stood := { row := fnUndoUptoRow, standIns := [], harness := (true, "9637c48b6269d4f670299eaa0ed1f90fc40a582efc3036c83e4c341d8cded4ab"), looks := true }, kinds := [], alts := [], laidByText := true, laidKinds := [.data, .pinned], laidTests := true, laidLooks := .later }
def FnUndoUptoCardSaid : Prop := Claim7.holds Tryz.pinned (.plain (OpenSpec.upto fnUndoSpec)) fnUndoUptoCard

/-- THE SECOND FORM's CARD OF 'laws.FnDoAll'. -/
def fnDoAllUptoCard : Claim7 := { stood := { row := fnDoAllUptoRow, standIns := [], harness := (true, "9637c48b6269d4f670299eaa0ed1f90fc40a582efc3036c83e4c341d8cded4ab"), looks := true }, kinds := [], alts := [], laidByText := true, laidKinds := [.data, .pinned], laidTests := true, laidLooks := .later }
def FnDoAllUptoCardSaid : Prop := Claim7.holds Tryz.pinned (.plain (OpenSpec.upto fnDoAllSpec)) fnDoAllUptoCard

/-- THE SECOND FORM's CARD OF 'laws.FnDisk'. -/
def fnDiskUptoCard : Claim7 := { stood := { row := fnDiskUptoRow, standIns := [], harness := (true, "9637c48b6269d4f670299eaa0ed1f90fc40a582efc3036c83e4c341d8cded4ab"), looks := true }, kinds := [], alts := [], laidByText := true, laidKinds := [.data, .pinned], laidTests := true, laidLooks := .later }
def FnDiskUptoCardSaid : Prop := Claim7.holds Tryz.pinned (.plain (OpenSpec.upto fnDiskSpec)) fnDiskUptoCard

/-- THE SECOND FORM's CARD OF 'laws.FnCut'. -/
def fnCutUptoCard : Claim7 := { stood := { row := fnCutUptoRow, standIns := [], harness := (true, "9637c48b6269d4f670299eaa0ed1f90fc40a582efc3036c83e4c341d8cded4ab"), looks := true }, kinds := [], alts := [], laidByText := true, laidKinds := [.data, .pinned], laidTests := true, laidLooks := .later }
def FnCutUptoCardSaid : Prop := Claim7.holds Tryz.pinned (.plain (OpenSpec.upto fnCutSpec)) fnCutUptoCard

/-- THE SECOND FORM's CARD OF 'laws.FnExactDo'. -/
def fnExactDoUptoCard : Claim7 := { stood := { row := fnExactDoUptoRow, standIns := [], harness := (true, "9637c48b6269d4f670299eaa0ed1f90fc40a582efc3036c83e4c341d8cded4ab"), looks := true }, kinds := [], alts := [], laidByText := true, laidKinds := [.data, .pinned], laidTests := true, laidLooks := .later }
def FnExactDoUptoCardSaid : Prop := Claim7.holds Tryz.pinned (.plain (OpenSpec.upto fnExactDoSpec)) fnExactDoUptoCard

/-- THE SECOND FORM's CARD OF 'laws.FnExactDoAll'. -/
def fnExactDoAllUptoCard : Claim7 := { stood := { row := fnExactDoAllUptoRow, standIns := [], harness := (true, "9637c48b6269d4f670299eaa0ed1f90fc40a582efc3036c83e4c341d8cded4ab"), looks := true }, kinds := [], alts := [], laidByText := true, laidKinds := [.data, .pinned], laidTests := true, laidLooks := .later }
def FnExactDoAllUptoCardSaid : Prop := Claim7.holds Tryz.pinned (.plain (OpenSpec.upto fnExactDoAllSpec)) fnExactDoAllUptoCard

/-- THE SECOND FORM's CARD OF 'laws.FnExactDiskOk'. -/
def fnExactDiskOkUptoCard : Claim7 := { stood := { row := fnExactDiskOkUptoRow, standIns := [], harness := (true, "9637c48b6269d4f670299eaa0ed1f90fc40a582efc3036c83e4c341d8cded4ab"), looks := true }, kinds := [], alts := [], laidByText := true, laidKinds := [.data, .pinned], laidTests := true, laidLooks := .later }
def FnExactDiskOkUptoCardSaid : Prop := Claim7.holds Tryz.pinned (.plain (OpenSpec.upto fnExactDiskOkSpec)) fnExactDiskOkUptoCard

/-- THE SECOND FORM's CARD OF 'laws.FnExactNewDisk'. -/
def fnExactNewDiskUptoCard : Claim7 := { stood := { row := fnExactNewDiskUptoRow, standIns := [], harness := (true, "9637c48b6269d4f670299eaa0ed1f90fc40a582efc3036c83e4c341d8cded4ab"), looks := true }, kinds := [], alts := [], laidByText := true, laidKinds := [.data, .pinned], laidTests := true, laidLooks := .later }
def FnExactNewDiskUptoCardSaid : Prop := Claim7.holds Tryz.pinned (.plain (OpenSpec.upto fnExactNewDiskSpec)) fnExactNewDiskUptoCard

/-- THE SECOND FORM's CARD OF 'laws.FnExactLive'. -/
def fnExactLiveUptoCard : Claim7 := { stood := { row := fnExactLiveUptoRow, standIns := [], harness := (true, "9637c48b6269d4f670299eaa0ed1f90fc40a582efc3036c83e4c341d8cded4ab"), looks := true }, kinds := [], alts := [], laidByText := true, laidKinds := [.data, .pinned], laidTests := true, laidLooks := .later }
def FnExactLiveUptoCardSaid : Prop := Claim7.holds Tryz.pinned (.plain (OpenSpec.upto fnExactLiveSpec)) fnExactLiveUptoCard

/-- THE SECOND FORM's CARD OF 'laws.FnExactPut'. -/
def fnExactPutUptoCard : Claim7 := { stood := { row := fnExactPutUptoRow, standIns := [], harness := (true, "9637c48b6269d4f670299eaa0ed1f90fc40a582efc3036c83e4c341d8cded4ab"), looks := true }, kinds := [], alts := [], laidByText := true, laidKinds := [.data, .pinned], laidTests := true, laidLooks := .later }
def FnExactPutUptoCardSaid : Prop := Claim7.holds Tryz.pinned (.plain (OpenSpec.upto fnExactPutSpec)) fnExactPutUptoCard

/-- THE SECOND FORM's CARD OF 'laws.FnExactCut'. -/
def fnExactCutUptoCard : Claim7 := { stood := { row := fnExactCutUptoRow, standIns := [], harness := (true, "9637c48b6269d4f670299eaa0ed1f90fc40a582efc3036c83e4c341d8cded4ab"), looks := true }, kinds := [], alts := [], laidByText := true, laidKinds := [.data, .pinned], laidTests := true, laidLooks := .later }
def FnExactCutUptoCardSaid : Prop := Claim7.holds Tryz.pinned (.plain (OpenSpec.upto fnExactCutSpec)) fnExactCutUptoCard
end Rows
end Go.Proofs.YtipedabppgbfcaaGreatDoor
