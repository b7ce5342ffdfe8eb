/-
  DERIVED. GIVEN WITH THE SEED: THE CARDS: each row of YtbikcldkaogfmaaDoorRows.lean that lists a variable, with what it lists TIED to the program's text (the seventh form; the later family's looks); each row that meets fmt, with fmt's text TOLD by the authors' own Lean function (tested against real Go, not proved from fmt's source: count such statements apart). THE CARD IS WHAT COUNTS. Prove the row's statement (the work); the ties are given (YtbikcldkaogfmaaDoorTie.lean); close each card by the builder's one call (the guide's Derived/Test/ToyasCard.lean, 'card_holds'). Laid BY PROGRAM, IN A SANDBOX (cutbox-door.mjs). By AI agents, Wed Nov 11 2026. No macro, syntax, notation, axiom, sorry.
-/
import Derived.Test.YtbikcldkaogfmaaDoorRows
import GoSem.ClaimSeven
namespace Go.Proofs.YtbikcldkaogfmaaDoor
namespace Rows

/-- THE TIED CARD OF 'laws.FnFormat'. -/
def fnFormatCard : Claim7 := { stood := { row := fnFormatRow, standIns := [], harness := (true, "ca42320cc81227012029462e451850242f849a25a20aab089050ea6c3da1f63f"), looks := false }, kinds := [], alts := [], laidByText := true, laidKinds := [.data, .data, .data, .data], laidTests := true, laidLooks := .later }
def FnFormatCardSaid : Prop := Claim7.holds Tryd.pinned (.plain (OpenSpec.ofChange fnFormatSpec)) fnFormatCard

/-- THE TIED CARD OF 'laws.FnAge'. -/
def fnAgeCard : Claim7 := { stood := { row := fnAgeRow, standIns := [], harness := (true, "ca42320cc81227012029462e451850242f849a25a20aab089050ea6c3da1f63f"), looks := false }, kinds := [], alts := [], laidByText := true, laidKinds := [.data, .data, .data, .data], laidTests := true, laidLooks := .later }
def FnAgeCardSaid : Prop := Claim7.holds Tryd.pinned (.plain (OpenSpec.ofChange fnAgeSpec)) fnAgeCard

/-- THE TIED CARD OF 'laws.FnExactRender'. -/
def fnExactRenderCard : Claim7 := { stood := { row := fnExactRenderRow, standIns := [], harness := (true, "ca42320cc81227012029462e451850242f849a25a20aab089050ea6c3da1f63f"), looks := false }, kinds := [], alts := [], laidByText := true, laidKinds := [.data, .data, .data, .data], laidTests := true, laidLooks := .later }
def FnExactRenderCardSaid : Prop := Claim7.holds Tryd.pinned (.plain (OpenSpec.ofChange fnExactRenderSpec)) fnExactRenderCard

/-- THE TIED CARD OF 'laws.FnExactReadDate'. -/
def fnExactReadDateCard : Claim7 := { stood := { row := fnExactReadDateRow, standIns := [], harness := (true, "ca42320cc81227012029462e451850242f849a25a20aab089050ea6c3da1f63f"), looks := false }, kinds := [], alts := [], laidByText := true, laidKinds := [.data, .data, .data, .data], laidTests := true, laidLooks := .later }
def FnExactReadDateCardSaid : Prop := Claim7.holds Tryd.pinned (.plain (OpenSpec.ofChange fnExactReadDateSpec)) fnExactReadDateCard

/-- THE TIED CARD OF 'laws.FnExactAgeOf'. -/
def fnExactAgeOfCard : Claim7 := { stood := { row := fnExactAgeOfRow, standIns := [], harness := (true, "ca42320cc81227012029462e451850242f849a25a20aab089050ea6c3da1f63f"), looks := false }, kinds := [], alts := [], laidByText := true, laidKinds := [.data], laidTests := true, laidLooks := .later }
def FnExactAgeOfCardSaid : Prop := Claim7.holds Tryd.pinned (.plain (OpenSpec.ofChange fnExactAgeOfSpec)) fnExactAgeOfCard

/-- THE TIED CARD OF 'laws.FnExactAgeText'. -/
def fnExactAgeTextCard : Claim7 := { stood := { row := fnExactAgeTextRow, standIns := [], harness := (true, "ca42320cc81227012029462e451850242f849a25a20aab089050ea6c3da1f63f"), looks := false }, kinds := [], alts := [], laidByText := true, laidKinds := [.data, .data, .data, .data], laidTests := true, laidLooks := .later }
def FnExactAgeTextCardSaid : Prop := Claim7.holds Tryd.pinned (.plain (OpenSpec.ofChange fnExactAgeTextSpec)) fnExactAgeTextCard

/-- THE SECOND FORM's CARD OF 'laws.FnFormat'. -/
def fnFormatUptoCard : Claim7 := { stood := { row := fnFormatUptoRow, standIns := [], harness := (true, "ca42320cc81227012029462e451850242f849a25a20aab089050ea6c3da1f63f"), looks := false }, kinds := [], alts := [], laidByText := true, laidKinds := [.data, .data, .data, .data], laidTests := true, laidLooks := .later }
def FnFormatUptoCardSaid : Prop := Claim7.holds Tryd.pinned (.plain (OpenSpec.upto fnFormatSpec)) fnFormatUptoCard

/-- THE SECOND FORM's CARD OF 'laws.FnAge'. -/
def fnAgeUptoCard : Claim7 := { stood := { row := fnAgeUptoRow, standIns := [], harness := (true, "ca42320cc81227012029462e451850242f849a25a20aab089050ea6c3da1f63f"), looks := false }, kinds := [], alts := [], laidByText := true, laidKinds := [.data, .data, .data, .data], laidTests := true, laidLooks := .later }
def FnAgeUptoCardSaid : Prop := Claim7.holds Tryd.pinned (.plain (OpenSpec.upto fnAgeSpec)) fnAgeUptoCard

/-- THE SECOND FORM's CARD OF 'laws.FnExactRender'. -/
def fnExactRenderUptoCard : Claim7 := { stood := { row := fnExactRenderUptoRow, standIns := [], harness := (true, "ca42320cc81227012029462e451850242f849a25a20aab089050ea6c3da1f63f"), looks := false }, kinds := [], alts := [], laidByText := true, laidKinds := [.data, .data, .data, .data], laidTests := true, laidLooks := .later }
def FnExactRenderUptoCardSaid : Prop := Claim7.holds Tryd.pinned (.plain (OpenSpec.upto fnExactRenderSpec)) fnExactRenderUptoCard

/-- THE SECOND FORM's CARD OF 'laws.FnExactReadDate'. -/
def fnExactReadDateUptoCard : Claim7 := { stood := { row := fnExactReadDateUptoRow, standIns := [], harness := (true, "ca42320cc81227012029462e451850242f849a25a20aab089050ea6c3da1f63f"), looks := false }, kinds := [], alts := [], laidByText := true, laidKinds := [.data, .data, .data, .data], laidTests := true, laidLooks := .later }
def FnExactReadDateUptoCardSaid : Prop := Claim7.holds Tryd.pinned (.plain (OpenSpec.upto fnExactReadDateSpec)) fnExactReadDateUptoCard

/-- THE SECOND FORM's CARD OF 'laws.FnExactAgeOf'. -/
def fnExactAgeOfUptoCard : Claim7 := { stood := { row := fnExactAgeOfUptoRow, standIns := [], harness := (true, "ca42320cc81227012029462e451850242f849a25a20aab089050ea6c3da1f63f"), looks := false }, kinds := [], alts := [], laidByText := true, laidKinds := [.data], laidTests := true, laidLooks := .later }
def FnExactAgeOfUptoCardSaid : Prop := Claim7.holds Tryd.pinned (.plain (OpenSpec.upto fnExactAgeOfSpec)) fnExactAgeOfUptoCard

/-- THE SECOND FORM's CARD OF 'laws.FnExactAgeText'. -/
def fnExactAgeTextUptoCard : Claim7 := { stood := { row := fnExactAgeTextUptoRow, standIns := [], harness := (true, "ca42320cc81227012029462e451850242f849a25a20aab089050ea6c3da1f63f"), looks := false }, kinds := [], alts := [], laidByText := true, laidKinds := [.data, .data, .data, .data], laidTests := true, laidLooks := .later }
def FnExactAgeTextUptoCardSaid : Prop := Claim7.holds Tryd.pinned (.plain (OpenSpec.upto fnExactAgeTextSpec)) fnExactAgeTextUptoCard
end Rows
end Go.Proofs.YtbikcldkaogfmaaDoor
