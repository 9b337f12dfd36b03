/-
  DERIVED. GIVEN WITH THE SEED: THE CARDS: each row of YtohpifhpfijmcaaDoorRows.lean that lists a variable, with what it lists TIED to the program's text (the seventh form; the later family's looks); each row that meets fmt, with fmt's text TOLD by the authors' own Lean function (tested against real Go, not proved from fmt's source: count such statements apart). THE CARD IS WHAT COUNTS. Prove the row's statement (the work); the ties are given (YtohpifhpfijmcaaDoorTie.lean); close each card by the builder's one call (the guide's Derived/Test/ToyasCard.lean, 'card_holds'). Laid BY PROGRAM, IN A SANDBOX (cutbox-door.mjs). By AI agents, Wed Nov 11 2026. No macro, syntax, notation, axiom, sorry.
-/
import Derived.Test.YtohpifhpfijmcaaDoorRows
import GoSem.ClaimSeven
namespace Go.Proofs.YtohpifhpfijmcaaDoor
namespace Rows

/-- THE TIED CARD OF 'laws.FnShift'. -/
def fnShiftCard : Claim7 := { stood := { row := fnShiftRow, standIns := [], harness := (true, "3ef7a8cb135d729333400c65f8dbbb29eb82d04f869d40e5e88bc7f04abb34f8"), looks := false }, kinds := [], alts := [], laidByText := true, laidKinds := [.data], laidTests := true, laidLooks := .later }
def FnShiftCardSaid : Prop := Claim7.holds Tryd.pinned (.plain (OpenSpec.ofChange fnShiftSpec)) fnShiftCard

/-- THE TIED CARD OF 'laws.FnExactStrokes'. -/
def fnExactStrokesCard : Claim7 := { stood := { row := fnExactStrokesRow, standIns := [], harness := (true, "3ef7a8cb135d729333400c65f8dbbb29eb82d04f869d40e5e88bc7f04abb34f8"), looks := false }, kinds := [], alts := [], laidByText := true, laidKinds := [.data], laidTests := true, laidLooks := .later }
def FnExactStrokesCardSaid : Prop := Claim7.holds Tryd.pinned (.plain (OpenSpec.ofChange fnExactStrokesSpec)) fnExactStrokesCard

/-- THE TIED CARD OF 'laws.FnExactEncodeShift'. -/
def fnExactEncodeShiftCard : Claim7 := { stood := { row := fnExactEncodeShiftRow, standIns := [], harness := (true, "3ef7a8cb135d729333400c65f8dbbb29eb82d04f869d40e5e88bc7f04abb34f8"), looks := false }, kinds := [], alts := [], laidByText := true, laidKinds := [.data], laidTests := true, laidLooks := .later }
def FnExactEncodeShiftCardSaid : Prop := Claim7.holds Tryd.pinned (.plain (OpenSpec.ofChange fnExactEncodeShiftSpec)) fnExactEncodeShiftCard

/-- THE TIED CARD OF 'laws.FnExactDecodeShift'. -/
def fnExactDecodeShiftCard : Claim7 := { stood := { row := fnExactDecodeShiftRow, standIns := [], harness := (true, "3ef7a8cb135d729333400c65f8dbbb29eb82d04f869d40e5e88bc7f04abb34f8"), looks := false }, kinds := [], alts := [], laidByText := true, laidKinds := [.data], laidTests := true, laidLooks := .later }
def FnExactDecodeShiftCardSaid : Prop := Claim7.holds Tryd.pinned (.plain (OpenSpec.ofChange fnExactDecodeShiftSpec)) fnExactDecodeShiftCard

/-- THE SECOND FORM's CARD OF 'laws.FnShift'. -/
def fnShiftUptoCard : Claim7 := { stood := { row := fnShiftUptoRow, standIns := [], harness := (true, "3ef7a8cb135d729333400c65f8dbbb29eb82d04f869d40e5e88bc7f04abb34f8"), looks := false }, kinds := [], alts := [], laidByText := true, laidKinds := [.data], laidTests := true, laidLooks := .later }
def FnShiftUptoCardSaid : Prop := Claim7.holds Tryd.pinned (.plain (OpenSpec.upto fnShiftSpec)) fnShiftUptoCard

/-- THE SECOND FORM's CARD OF 'laws.FnExactStrokes'. -/
def fnExactStrokesUptoCard : Claim7 := { stood := { row := fnExactStrokesUptoRow, standIns := [], harness := (true, "3ef7a8cb135d729333400c65f8dbbb29eb82d04f869d40e5e88bc7f04abb34f8"), looks := false }, kinds := [], alts := [], laidByText := true, laidKinds := [.data], laidTests := true, laidLooks := .later }
def FnExactStrokesUptoCardSaid : Prop := Claim7.holds Tryd.pinned (.plain (OpenSpec.upto fnExactStrokesSpec)) fnExactStrokesUptoCard

/-- THE SECOND FORM's CARD OF 'laws.FnExactEncodeShift'. -/
def fnExactEncodeShiftUptoCard : Claim7 := { stood := { row := fnExactEncodeShiftUptoRow, standIns := [], harness := (true, "3ef7a8cb135d729333400c65f8dbbb29eb82d04f869d40e5e88bc7f04abb34f8"), looks := false }, kinds := [], alts := [], laidByText := true, laidKinds := [.data], laidTests := true, laidLooks := .later }
def FnExactEncodeShiftUptoCardSaid : Prop := Claim7.holds Tryd.pinned (.plain (OpenSpec.upto fnExactEncodeShiftSpec)) fnExactEncodeShiftUptoCard

/-- THE SECOND FORM's CARD OF 'laws.FnExactDecodeShift'. -/
def fnExactDecodeShiftUptoCard : Claim7 := { stood := { row := fnExactDecodeShiftUptoRow, standIns := [], harness := (true, "3ef7a8cb135d729333400c65f8dbbb29eb82d04f869d40e5e88bc7f04abb34f8"), looks := false }, kinds := [], alts := [], laidByText := true, laidKinds := [.data], laidTests := true, laidLooks := .later }
def FnExactDecodeShiftUptoCardSaid : Prop := Claim7.holds Tryd.pinned (.plain (OpenSpec.upto fnExactDecodeShiftSpec)) fnExactDecodeShiftUptoCard
end Rows
end Go.Proofs.YtohpifhpfijmcaaDoor
