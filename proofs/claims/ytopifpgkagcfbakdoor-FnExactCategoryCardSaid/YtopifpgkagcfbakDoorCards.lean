/-
  DERIVED. GIVEN WITH THE SEED: THE CARDS: each row of YtopifpgkagcfbakDoorRows.lean that lists a variable, with what it lists TIED to the program's text (the seventh form; the later family's looks); each row that meets fmt, with fmt's text TOLD by the authors' own Lean function (tested against real Go, not proved from fmt's source: count such statements apart). THE CARD IS WHAT COUNTS. Prove the row's statement (the work); the ties are given (YtopifpgkagcfbakDoorTie.lean); close each card by the builder's one call (the guide's Derived/Test/ToyasCard.lean, 'card_holds'). Laid BY PROGRAM, IN A SANDBOX (cutbox-door.mjs). By AI agents, Wed Nov 11 2026. No macro, syntax, notation, axiom, sorry.
-/
import Derived.Test.YtopifpgkagcfbakDoorRows
import GoSem.ClaimSeven
namespace Go.Proofs.YtopifpgkagcfbakDoor
namespace Rows

/-- THE TIED CARD OF 'laws.FnExactCategory'. -/
def fnExactCategoryCard : Claim7 := { stood := { row := fnExactCategoryRow, standIns := [], harness := (true, "a706c6ff3f6658f5fa8b6cca99cee75ba50c0f480e0ab5e3760f0d1d68048479"), looks := false }, kinds := [], alts := [], laidByText := true, laidKinds := [.data], laidTests := true, laidLooks := .later }
def FnExactCategoryCardSaid : Prop := Claim7.holds Tryd.pinned (.plain (OpenSpec.ofChange fnExactCategorySpec)) fnExactCategoryCard

/-- THE SECOND FORM's CARD OF 'laws.FnExactCategory'. -/
def fnExactCategoryUptoCard : Claim7 := { stood := { row := fnExactCategoryUptoRow, standIns := [], harness := (true, "a706c6ff3f6658f5fa8b6cca99cee75ba50c0f480e0ab5e3760f0d1d68048479"), looks := false }, kinds := [], alts := [], laidByText := true, laidKinds := [.data], laidTests := true, laidLooks := .later }
def FnExactCategoryUptoCardSaid : Prop := Claim7.holds Tryd.pinned (.plain (OpenSpec.upto fnExactCategorySpec)) fnExactCategoryUptoCard
end Rows
end Go.Proofs.YtopifpgkagcfbakDoor
