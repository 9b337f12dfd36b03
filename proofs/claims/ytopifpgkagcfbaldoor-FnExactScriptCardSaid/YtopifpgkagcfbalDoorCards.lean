/-
  DERIVED. GIVEN WITH THE SEED: THE CARDS: each row of YtopifpgkagcfbalDoorRows.lean that lists a variable, with what it lists TIED to the program's text (the seventh form; the later family's looks); each row that meets fmt, with fmt's text TOLD by the authors' own Lean function (tested against real Go, not proved from fmt's source: count such statements apart). THE CARD IS WHAT COUNTS. Prove the row's statement (the work); the ties are given (YtopifpgkagcfbalDoorTie.lean); close each card by the builder's one call (the guide's Derived/Test/ToyasCard.lean, 'card_holds'). Laid BY PROGRAM, IN A SANDBOX (cutbox-door.mjs). By AI agents, Wed Nov 11 2026. No macro, syntax, notation, axiom, sorry.
-/
import Derived.Test.YtopifpgkagcfbalDoorRows
import GoSem.ClaimSeven
namespace Go.Proofs.YtopifpgkagcfbalDoor
namespace Rows

/-- THE TIED CARD OF 'laws.FnExactScript'. -/
def fnExactScriptCard : Claim7 := { stood := { row := fnExactScriptRow, standIns := [], harness := (true, "d68be0f71f2cf662a6ea312b0df1edbd7203fa22ea9a04e9dcc0689c18ae9f34"), looks := false }, kinds := [], alts := [], laidByText := true, laidKinds := [.data], laidTests := true, laidLooks := .later }
def FnExactScriptCardSaid : Prop := Claim7.holds Tryd.pinned (.plain (OpenSpec.ofChange fnExactScriptSpec)) fnExactScriptCard

/-- THE TIED CARD OF 'laws.FnExactAge'. -/
def fnExactAgeCard : Claim7 := { stood := { row := fnExactAgeRow, standIns := [], harness := (true, "d68be0f71f2cf662a6ea312b0df1edbd7203fa22ea9a04e9dcc0689c18ae9f34"), looks := false }, kinds := [], alts := [], laidByText := true, laidKinds := [.data], laidTests := true, laidLooks := .later }
def FnExactAgeCardSaid : Prop := Claim7.holds Tryd.pinned (.plain (OpenSpec.ofChange fnExactAgeSpec)) fnExactAgeCard

/-- THE TIED CARD OF 'laws.FnExactDigitOf'. -/
def fnExactDigitOfCard : Claim7 := { stood := { row := fnExactDigitOfRow, standIns := [], harness := (true, "d68be0f71f2cf662a6ea312b0df1edbd7203fa22ea9a04e9dcc0689c18ae9f34"), looks := false }, kinds := [], alts := [], laidByText := true, laidKinds := [.data], laidTests := true, laidLooks := .later }
def FnExactDigitOfCardSaid : Prop := Claim7.holds Tryd.pinned (.plain (OpenSpec.ofChange fnExactDigitOfSpec)) fnExactDigitOfCard

/-- THE TIED CARD OF 'laws.FnExactStrokes'. -/
def fnExactStrokesCard : Claim7 := { stood := { row := fnExactStrokesRow, standIns := [], harness := (true, "d68be0f71f2cf662a6ea312b0df1edbd7203fa22ea9a04e9dcc0689c18ae9f34"), looks := false }, kinds := [], alts := [], laidByText := true, laidKinds := [.data], laidTests := true, laidLooks := .later }
def FnExactStrokesCardSaid : Prop := Claim7.holds Tryd.pinned (.plain (OpenSpec.ofChange fnExactStrokesSpec)) fnExactStrokesCard

/-- THE SECOND FORM's CARD OF 'laws.FnExactScript'. -/
def fnExactScriptUptoCard : Claim7 := { stood := { row := fnExactScriptUptoRow, standIns := [], harness := (true, "d68be0f71f2cf662a6ea312b0df1edbd7203fa22ea9a04e9dcc0689c18ae9f34"), looks := false }, kinds := [], alts := [], laidByText := true, laidKinds := [.data], laidTests := true, laidLooks := .later }
def FnExactScriptUptoCardSaid : Prop := Claim7.holds Tryd.pinned (.plain (OpenSpec.upto fnExactScriptSpec)) fnExactScriptUptoCard

/-- THE SECOND FORM's CARD OF 'laws.FnExactAge'. -/
def fnExactAgeUptoCard : Claim7 := { stood := { row := fnExactAgeUptoRow, standIns := [], harness := (true, "d68be0f71f2cf662a6ea312b0df1edbd7203fa22ea9a04e9dcc0689c18ae9f34"), looks := false }, kinds := [], alts := [], laidByText := true, laidKinds := [.data], laidTests := true, laidLooks := .later }
def FnExactAgeUptoCardSaid : Prop := Claim7.holds Tryd.pinned (.plain (OpenSpec.upto fnExactAgeSpec)) fnExactAgeUptoCard

/-- THE SECOND FORM's CARD OF 'laws.FnExactDigitOf'. -/
def fnExactDigitOfUptoCard : Claim7 := { stood := { row := fnExactDigitOfUptoRow, standIns := [], harness := (true, "d68be0f71f2cf662a6ea312b0df1edbd7203fa22ea9a04e9dcc0689c18ae9f34"), looks := false }, kinds := [], alts := [], laidByText := true, laidKinds := [.data], laidTests := true, laidLooks := .later }
def FnExactDigitOfUptoCardSaid : Prop := Claim7.holds Tryd.pinned (.plain (OpenSpec.upto fnExactDigitOfSpec)) fnExactDigitOfUptoCard

/-- THE SECOND FORM's CARD OF 'laws.FnExactStrokes'. -/
def fnExactStrokesUptoCard : Claim7 := { stood := { row := fnExactStrokesUptoRow, standIns := [], harness := (true, "d68be0f71f2cf662a6ea312b0df1edbd7203fa22ea9a04e9dcc0689c18ae9f34"), looks := false }, kinds := [], alts := [], laidByText := true, laidKinds := [.data], laidTests := true, laidLooks := .later }
def FnExactStrokesUptoCardSaid : Prop := Claim7.holds Tryd.pinned (.plain (OpenSpec.upto fnExactStrokesSpec)) fnExactStrokesUptoCard
end Rows
end Go.Proofs.YtopifpgkagcfbalDoor
