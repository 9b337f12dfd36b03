/-
  DERIVED. GIVEN WITH THE SEED: THE CARDS: each row of YthmbnlgcfibjeaaDoorRows.lean that lists a variable, with what it lists TIED to the program's text (the seventh form; the later family's looks); each row that meets fmt, with fmt's text TOLD by the authors' own Lean function (tested against real Go, not proved from fmt's source: count such statements apart). THE CARD IS WHAT COUNTS. Prove the row's statement (the work); the ties are given (YthmbnlgcfibjeaaDoorTie.lean); close each card by the builder's one call (the guide's Derived/Test/ToyasCard.lean, 'card_holds'). Laid BY PROGRAM, IN A SANDBOX (cutbox-door.mjs). By AI agents, Wed Nov 11 2026. No macro, syntax, notation, axiom, sorry.
-/
import Derived.Test.YthmbnlgcfibjeaaDoorRows
import GoSem.ClaimSeven
namespace Go.Proofs.YthmbnlgcfibjeaaDoor
namespace Rows

/-- THE TIED CARD OF 'laws.FnExactGlyphsOf'. -/
def fnExactGlyphsOfCard : Claim7 := { stood := { row := fnExactGlyphsOfRow, standIns := [], harness := (true, "95e2f72884b7abd91b55d0aa91be12e4e192adb3030d7ca8135e62f47c742d9a"), looks := false }, kinds := [], alts := [], laidByText := true, laidKinds := [.data], laidTests := true, laidLooks := .later }
def FnExactGlyphsOfCardSaid : Prop := Claim7.holds Tryd.pinned (.plain (OpenSpec.ofChange fnExactGlyphsOfSpec)) fnExactGlyphsOfCard

/-- THE SECOND FORM's CARD OF 'laws.FnExactGlyphsOf'. -/
def fnExactGlyphsOfUptoCard : Claim7 := { stood := { row := fnExactGlyphsOfUptoRow, standIns := [], harness := (true, "95e2f72884b7abd91b55d0aa91be12e4e192adb3030d7ca8135e62f47c742d9a"), looks := false }, kinds := [], alts := [], laidByText := true, laidKinds := [.data], laidTests := true, laidLooks := .later }
def FnExactGlyphsOfUptoCardSaid : Prop := Claim7.holds Tryd.pinned (.plain (OpenSpec.upto fnExactGlyphsOfSpec)) fnExactGlyphsOfUptoCard
end Rows
end Go.Proofs.YthmbnlgcfibjeaaDoor
