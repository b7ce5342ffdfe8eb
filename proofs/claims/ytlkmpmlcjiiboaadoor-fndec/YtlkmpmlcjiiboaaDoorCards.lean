/-
  DERIVED. GIVEN WITH THE SEED: THE CARDS: each row of YtlkmpmlcjiiboaaDoorRows.lean that lists a variable, with what it lists TIED to the program's text (the seventh form; the later family's looks); each row that meets fmt, with fmt's text TOLD by the authors' own Lean function (tested against real Go, not proved from fmt's source: count such statements apart). THE CARD IS WHAT COUNTS. Prove the row's statement (the work); the ties are given (YtlkmpmlcjiiboaaDoorTie.lean); close each card by the builder's one call (the guide's Derived/Test/ToyasCard.lean, 'card_holds'). Laid BY PROGRAM, IN A SANDBOX (cutbox-door.mjs). By AI agents, Wed Nov 11 2026. No macro, syntax, notation, axiom, sorry.
-/
import Derived.Test.YtlkmpmlcjiiboaaDoorRows
import GoSem.ClaimSeven
namespace Go.Proofs.YtlkmpmlcjiiboaaDoor
namespace Rows

/-- THE TIED CARD OF 'laws.FnDec'. -/
def fnDecCard : Claim7 := { stood := { row := fnDecRow, standIns := [], harness := (true, "4bc7491d71ee0149dac25270a5794350c41690b8cf4c44972dd836e35c8f718e"), looks := false }, kinds := [], alts := [], laidByText := true, laidKinds := [.data, .data, .data], laidTests := true, laidLooks := .later }
def FnDecCardSaid : Prop := Claim7.holds Tryd.pinned (.plain (OpenSpec.ofChange fnDecSpec)) fnDecCard

/-- THE TIED CARD OF 'laws.FnExactDecText'. -/
def fnExactDecTextCard : Claim7 := { stood := { row := fnExactDecTextRow, standIns := [], harness := (true, "4bc7491d71ee0149dac25270a5794350c41690b8cf4c44972dd836e35c8f718e"), looks := false }, kinds := [], alts := [], laidByText := true, laidKinds := [.data, .data, .data], laidTests := true, laidLooks := .later }
def FnExactDecTextCardSaid : Prop := Claim7.holds Tryd.pinned (.plain (OpenSpec.ofChange fnExactDecTextSpec)) fnExactDecTextCard

/-- THE TIED CARD OF 'laws.FnExactPadText'. -/
def fnExactPadTextCard : Claim7 := { stood := { row := fnExactPadTextRow, standIns := [], harness := (true, "4bc7491d71ee0149dac25270a5794350c41690b8cf4c44972dd836e35c8f718e"), looks := false }, kinds := [], alts := [], laidByText := true, laidKinds := [.data, .data, .data], laidTests := true, laidLooks := .later }
def FnExactPadTextCardSaid : Prop := Claim7.holds Tryd.pinned (.plain (OpenSpec.ofChange fnExactPadTextSpec)) fnExactPadTextCard

/-- THE TIED CARD OF 'laws.FnExactOctText'. -/
def fnExactOctTextCard : Claim7 := { stood := { row := fnExactOctTextRow, standIns := [], harness := (true, "4bc7491d71ee0149dac25270a5794350c41690b8cf4c44972dd836e35c8f718e"), looks := false }, kinds := [], alts := [], laidByText := true, laidKinds := [.data, .data, .data], laidTests := true, laidLooks := .later }
def FnExactOctTextCardSaid : Prop := Claim7.holds Tryd.pinned (.plain (OpenSpec.ofChange fnExactOctTextSpec)) fnExactOctTextCard

/-- THE SECOND FORM's CARD OF 'laws.FnDec'. -/
def fnDecUptoCard : Claim7 := { stood := { row := fnDecUptoRow, standIns := [], harness := (true, "4bc7491d71ee0149dac25270a5794350c41690b8cf4c44972dd836e35c8f718e"), looks := false }, kinds := [], alts := [], laidByText := true, laidKinds := [.data, .data, .data], laidTests := true, laidLooks := .later }
def FnDecUptoCardSaid : Prop := Claim7.holds Tryd.pinned (.plain (OpenSpec.upto fnDecSpec)) fnDecUptoCard

/-- THE SECOND FORM's CARD OF 'laws.FnExactDecText'. -/
def fnExactDecTextUptoCard : Claim7 := { stood := { row := fnExactDecTextUptoRow, standIns := [], harness := (true, "4bc7491d71ee0149dac25270a5794350c41690b8cf4c44972dd836e35c8f718e"), looks := false }, kinds := [], alts := [], laidByText := true, laidKinds := [.data, .data, .data], laidTests := true, laidLooks := .later }
def FnExactDecTextUptoCardSaid : Prop := Claim7.holds Tryd.pinned (.plain (OpenSpec.upto fnExactDecTextSpec)) fnExactDecTextUptoCard

/-- THE SECOND FORM's CARD OF 'laws.FnExactPadText'. -/
def fnExactPadTextUptoCard : Claim7 := { stood := { row := fnExactPadTextUptoRow, standIns := [], harness := (true, "4bc7491d71ee0149dac25270a5794350c41690b8cf4c44972dd836e35c8f718e"), looks := false }, kinds := [], alts := [], laidByText := true, laidKinds := [.data, .data, .data], laidTests := true, laidLooks := .later }
def FnExactPadTextUptoCardSaid : Prop := Claim7.holds Tryd.pinned (.plain (OpenSpec.upto fnExactPadTextSpec)) fnExactPadTextUptoCard

/-- THE SECOND FORM's CARD OF 'laws.FnExactOctText'. -/
def fnExactOctTextUptoCard : Claim7 := { stood := { row := fnExactOctTextUptoRow, standIns := [], harness := (true, "4bc7491d71ee0149dac25270a5794350c41690b8cf4c44972dd836e35c8f718e"), looks := false }, kinds := [], alts := [], laidByText := true, laidKinds := [.data, .data, .data], laidTests := true, laidLooks := .later }
def FnExactOctTextUptoCardSaid : Prop := Claim7.holds Tryd.pinned (.plain (OpenSpec.upto fnExactOctTextSpec)) fnExactOctTextUptoCard
end Rows
end Go.Proofs.YtlkmpmlcjiiboaaDoor
