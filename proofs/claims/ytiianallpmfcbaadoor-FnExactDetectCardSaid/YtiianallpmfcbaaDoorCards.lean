/-
  DERIVED. GIVEN WITH THE SEED: THE CARDS: each row of YtiianallpmfcbaaDoorRows.lean that lists a variable, with what it lists TIED to the program's text (the seventh form; the later family's looks); each row that meets fmt, with fmt's text TOLD by the authors' own Lean function (tested against real Go, not proved from fmt's source: count such statements apart). THE CARD IS WHAT COUNTS. Prove the row's statement (the work); the ties are given (YtiianallpmfcbaaDoorTie.lean); close each card by the builder's one call (the guide's Derived/Test/ToyasCard.lean, 'card_holds'). Laid BY PROGRAM, IN A SANDBOX (cutbox-door.mjs). By AI agents, Wed Nov 11 2026. No macro, syntax, notation, axiom, sorry.
-/
import Derived.Test.YtiianallpmfcbaaDoorRows
import GoSem.ClaimSeven
namespace Go.Proofs.YtiianallpmfcbaaDoor
namespace Rows

/-- THE TIED CARD OF 'laws.FnDetected'. -/
def fnDetectedCard : Claim7 := { stood := { row := fnDetectedRow, standIns := [], harness := (true, "24a4e76d187e9a54cbc4b285bef0b3c5422147d8aa6502ff3dbb6e7d89f3e4d2"), looks := false }, kinds := [], alts := [], laidByText := true, laidKinds := [.data, .pinned], laidTests := true, laidLooks := .later }
def FnDetectedCardSaid : Prop := Claim7.holds Tryd.pinned (.plain (OpenSpec.ofChange fnDetectedSpec)) fnDetectedCard

/-- THE TIED CARD OF 'laws.FnExactDetect'. -/
def fnExactDetectCard : Claim7 := { stood := { row := fnExactDetectRow, standIns := [], harness := (true, "24a4e76d187e9a54cbc4b285bef0b3c5422147d8aa6502ff3dbb6e7d89f3e4d2"), looks := false }, kinds := [], alts := [], laidByText := true, laidKinds := [.data, .pinned], laidTests := true, laidLooks := .later }
def FnExactDetectCardSaid : Prop := Claim7.holds Tryd.pinned (.plain (OpenSpec.ofChange fnExactDetectSpec)) fnExactDetectCard

/-- THE SECOND FORM's CARD OF 'laws.FnDetected'. -/
def fnDetectedUptoCard : Claim7 := { stood := { row := fnDetectedUptoRow, standIns := [], harness := (true, "24a4e76d187e9a54cbc4b285bef0b3c5422147d8aa6502ff3dbb6e7d89f3e4d2"), looks := false }, kinds := [], alts := [], laidByText := true, laidKinds := [.data, .pinned], laidTests := true, laidLooks := .later }
def FnDetectedUptoCardSaid : Prop := Claim7.holds Tryd.pinned (.plain (OpenSpec.upto fnDetectedSpec)) fnDetectedUptoCard

/-- THE SECOND FORM's CARD OF 'laws.FnExactDetect'. -/
def fnExactDetectUptoCard : Claim7 := { stood := { row := fnExactDetectUptoRow, standIns := [], harness := (true, "24a4e76d187e9a54cbc4b285bef0b3c5422147d8aa6502ff3dbb6e7d89f3e4d2"), looks := false }, kinds := [], alts := [], laidByText := true, laidKinds := [.data, .pinned], laidTests := true, laidLooks := .later }
def FnExactDetectUptoCardSaid : Prop := Claim7.holds Tryd.pinned (.plain (OpenSpec.upto fnExactDetectSpec)) fnExactDetectUptoCard
end Rows
end Go.Proofs.YtiianallpmfcbaaDoor
