/-
  DERIVED. GIVEN WITH THE SEED: THE CARDS: each row of YtnmlhjigiemfgaaDoorRows.lean that lists a variable, with what it lists TIED to the program's text (the seventh form; the later family's looks); each row that meets fmt, with fmt's text TOLD by the authors' own Lean function (tested against real Go, not proved from fmt's source: count such statements apart). THE CARD IS WHAT COUNTS. Prove the row's statement (the work); the ties are given (YtnmlhjigiemfgaaDoorTie.lean); close each card by the builder's one call (the guide's Derived/Test/ToyasCard.lean, 'card_holds'). Laid BY PROGRAM, IN A SANDBOX (cutbox-door.mjs). By AI agents, Wed Nov 11 2026. No macro, syntax, notation, axiom, sorry.
-/
import Derived.Test.YtnmlhjigiemfgaaDoorRows
import GoSem.ClaimSeven
namespace Go.Proofs.YtnmlhjigiemfgaaDoor
namespace Rows

/-- THE TIED CARD OF 'laws.FnSmall'. -/
def fnSmallCard : Claim7 := { stood := { row := fnSmallRow, standIns := [], harness := (true, "1890d36319d9eafc52fd8b3da0e54864b40f1318f35d84bd9c65d71dd19ac491"), looks := false }, kinds := [], alts := [], goes := true, laidByText := true, laidKinds := [.data, .data, .data], laidTests := true, laidLooks := .later }
def FnSmallCardSaid : Prop := Claim7.holds Tryd.pinned (.plain (OpenSpec.ofChange fnSmallSpec)) fnSmallCard

/-- THE TIED CARD OF 'laws.FnSpread'. -/
def fnSpreadCard : Claim7 := { stood := { row := fnSpreadRow, standIns := [], harness := (true, "1890d36319d9eafc52fd8b3da0e54864b40f1318f35d84bd9c65d71dd19ac491"), looks := false }, kinds := [], alts := [], goes := true, laidByText := true, laidKinds := [.data, .data, .data], laidTests := true, laidLooks := .later }
def FnSpreadCardSaid : Prop := Claim7.holds Tryd.pinned (.plain (OpenSpec.ofChange fnSpreadSpec)) fnSpreadCard

/-- THE TIED CARD OF 'laws.FnExactSquash'. -/
def fnExactSquashCard : Claim7 := { stood := { row := fnExactSquashRow, standIns := [], harness := (true, "1890d36319d9eafc52fd8b3da0e54864b40f1318f35d84bd9c65d71dd19ac491"), looks := false }, kinds := [], alts := [], goes := true, laidByText := true, laidKinds := [.data, .data, .data], laidTests := true, laidLooks := .later }
def FnExactSquashCardSaid : Prop := Claim7.holds Tryd.pinned (.plain (OpenSpec.ofChange fnExactSquashSpec)) fnExactSquashCard

/-- THE TIED CARD OF 'laws.FnExactUnsquash'. -/
def fnExactUnsquashCard : Claim7 := { stood := { row := fnExactUnsquashRow, standIns := [], harness := (true, "1890d36319d9eafc52fd8b3da0e54864b40f1318f35d84bd9c65d71dd19ac491"), looks := false }, kinds := [], alts := [], goes := true, laidByText := true, laidKinds := [.data, .data, .data], laidTests := true, laidLooks := .later }
def FnExactUnsquashCardSaid : Prop := Claim7.holds Tryd.pinned (.plain (OpenSpec.ofChange fnExactUnsquashSpec)) fnExactUnsquashCard

/-- THE SECOND FORM's CARD OF 'laws.FnSmall'. -/
def fnSmallUptoCard : Claim7 := { stood := { row := fnSmallUptoRow, standIns := [], harness := (true, "1890d36319d9eafc52fd8b3da0e54864b40f1318f35d84bd9c65d71dd19ac491"), looks := false }, kinds := [], alts := [], goes := true, laidByText := true, laidKinds := [.data, .data, .data], laidTests := true, laidLooks := .later }
def FnSmallUptoCardSaid : Prop := Claim7.holds Tryd.pinned (.plain (OpenSpec.upto fnSmallSpec)) fnSmallUptoCard

/-- THE SECOND FORM's CARD OF 'laws.FnSpread'. -/
def fnSpreadUptoCard : Claim7 := { stood := { row := fnSpreadUptoRow, standIns := [], harness := (true, "1890d36319d9eafc52fd8b3da0e54864b40f1318f35d84bd9c65d71dd19ac491"), looks := false }, kinds := [], alts := [], goes := true, laidByText := true, laidKinds := [.data, .data, .data], laidTests := true, laidLooks := .later }
def FnSpreadUptoCardSaid : Prop := Claim7.holds Tryd.pinned (.plain (OpenSpec.upto fnSpreadSpec)) fnSpreadUptoCard

/-- THE SECOND FORM's CARD OF 'laws.FnExactSquash'. -/
def fnExactSquashUptoCard : Claim7 := { stood := { row := fnExactSquashUptoRow, standIns := [], harness := (true, "1890d36319d9eafc52fd8b3da0e54864b40f1318f35d84bd9c65d71dd19ac491"), looks := false }, kinds := [], alts := [], goes := true, laidByText := true, laidKinds := [.data, .data, .data], laidTests := true, laidLooks := .later }
def FnExactSquashUptoCardSaid : Prop := Claim7.holds Tryd.pinned (.plain (OpenSpec.upto fnExactSquashSpec)) fnExactSquashUptoCard

/-- THE SECOND FORM's CARD OF 'laws.FnExactUnsquash'. -/
def fnExactUnsquashUptoCard : Claim7 := { stood := { row := fnExactUnsquashUptoRow, standIns := [], harness := (true, "1890d36319d9eafc52fd8b3da0e54864b40f1318f35d84bd9c65d71dd19ac491"), looks := false }, kinds := [], alts := [], goes := true, laidByText := true, laidKinds := [.data, .data, .data], laidTests := true, laidLooks := .later }
def FnExactUnsquashUptoCardSaid : Prop := Claim7.holds Tryd.pinned (.plain (OpenSpec.upto fnExactUnsquashSpec)) fnExactUnsquashUptoCard
end Rows
end Go.Proofs.YtnmlhjigiemfgaaDoor
