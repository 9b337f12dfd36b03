/-
  DERIVED. GIVEN WITH THE SEED: THE CARDS: each row of YtigobciichnccaaDoorRows.lean that lists a variable, with what it lists TIED to the program's text (the seventh form; the later family's looks); each row that meets fmt, with fmt's text TOLD by the authors' own Lean function (tested against real Go, not proved from fmt's source: count such statements apart). THE CARD IS WHAT COUNTS. Prove the row's statement (the work); the ties are given (YtigobciichnccaaDoorTie.lean); close each card by the builder's one call (the guide's Derived/Test/ToyasCard.lean, 'card_holds'). Laid BY PROGRAM, IN A SANDBOX (cutbox-door.mjs). By AI agents, Wed Nov 11 2026. No macro, syntax, notation, axiom, sorry.
-/
import Derived.Test.YtigobciichnccaaDoorRows
import GoSem.ClaimSeven
namespace Go.Proofs.YtigobciichnccaaDoor
namespace Rows

/-- THE TIED CARD OF 'laws.FnExactWideOf'. -/
def fnExactWideOfCard : Claim7 := { stood := { row := fnExactWideOfRow, standIns := [], harness := (true, "5f1d8bb9811a2c2573f3de0384734807044db25872e89b206da0ea1c25acad4b"), looks := false }, kinds := [], alts := [], laidByText := true, laidKinds := [.data, .data, .pinned], laidTests := true, laidLooks := .later }
def FnExactWideOfCardSaid : Prop := Claim7.holds Tryd.pinned (.plain (OpenSpec.ofChange fnExactWideOfSpec)) fnExactWideOfCard

/-- THE TIED CARD OF 'laws.FnExactJustified'. -/
def fnExactJustifiedCard : Claim7 := { stood := { row := fnExactJustifiedRow, standIns := [], harness := (true, "5f1d8bb9811a2c2573f3de0384734807044db25872e89b206da0ea1c25acad4b"), looks := false }, kinds := [], alts := [], laidByText := true, laidKinds := [.data, .data, .pinned], laidTests := true, laidLooks := .later }
def FnExactJustifiedCardSaid : Prop := Claim7.holds Tryd.pinned (.plain (OpenSpec.ofChange fnExactJustifiedSpec)) fnExactJustifiedCard

/-- THE SECOND FORM's CARD OF 'laws.FnExactWideOf'. -/
def fnExactWideOfUptoCard : Claim7 := { stood := { row := fnExactWideOfUptoRow, standIns := [], harness := (true, "5f1d8bb9811a2c2573f3de0384734807044db25872e89b206da0ea1c25acad4b"), looks := false }, kinds := [], alts := [], laidByText := true, laidKinds := [.data, .data, .pinned], laidTests := true, laidLooks := .later }
def FnExactWideOfUptoCardSaid : Prop := Claim7.holds Tryd.pinned (.plain (OpenSpec.upto fnExactWideOfSpec)) fnExactWideOfUptoCard

/-- THE SECOND FORM's CARD OF 'laws.FnExactJustified'. -/
def fnExactJustifiedUptoCard : Claim7 := { stood := { row := fnExactJustifiedUptoRow, standIns := [], harness := (true, "5f1d8bb9811a2c2573f3de0384734807044db25872e89b206da0ea1c25acad4b"), looks := false }, kinds := [], alts := [], laidByText := true, laidKinds := [.data, .data, .pinned], laidTests := true, laidLooks := .later }
def FnExactJustifiedUptoCardSaid : Prop := Claim7.holds Tryd.pinned (.plain (OpenSpec.upto fnExactJustifiedSpec)) fnExactJustifiedUptoCard
end Rows
end Go.Proofs.YtigobciichnccaaDoor
