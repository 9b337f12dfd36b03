/-
  DERIVED. GIVEN WITH THE SEED: THE CARDS: each row of YtbaedapnikhdgaaGreatDoorRows.lean that lists a variable, with what it lists TIED to the program's text (the seventh form; the later family's looks); each row that meets fmt, with fmt's text TOLD by the authors' own Lean function (tested against real Go, not proved from fmt's source: count such statements apart). THE CARD IS WHAT COUNTS. Prove the row's statement (the work); the ties are given (YtbaedapnikhdgaaGreatDoorTie.lean); close each card by the builder's one call (the guide's Derived/Test/ToyasCard.lean, 'card_holds'). Laid BY PROGRAM, IN A SANDBOX (cutbox-door.mjs). By AI agents, Wed Nov 11 2026. No macro, syntax, notation, axiom, sorry.
-/
import Derived.Test.YtbaedapnikhdgaaGreatDoorRows
import GoSem.ClaimSeven
namespace Go.Proofs.YtbaedapnikhdgaaGreatDoor
namespace Rows

/-- THE TIED CARD OF 'laws.FnJustified'. -/
def fnJustifiedCard : Claim7 := { stood := { row := fnJustifiedRow, standIns := [], harness := (true, "2258caf9afabcfe05d47bf9cba867b3b490556d2433ff7bd6428349b32fffef4"), looks := false }, kinds := [], alts := [], laidByText := true, laidKinds := [.data, .data, .pinned], laidTests := true, laidLooks := .later }
def FnJustifiedCardSaid : Prop := Claim7.holds Tryz.pinned (.plain (OpenSpec.ofChange fnJustifiedSpec)) fnJustifiedCard

/-- THE SECOND FORM's CARD OF 'laws.FnJustified'. -/
def fnJustifiedUptoCard : Claim7 := { stood := { row := fnJustifiedUptoRow, standIns := [], harness := (true, "2258caf9afabcfe05d47bf9cba867b3b490556d2433ff7bd6428349b32fffef4"), looks := false }, kinds := [], alts := [], laidByText := true, laidKinds := [.data, .data, .pinned], laidTests := true, laidLooks := .later }
def FnJustifiedUptoCardSaid : Prop := Claim7.holds Tryz.pinned (.plain (OpenSpec.upto fnJustifiedSpec)) fnJustifiedUptoCard
end Rows
end Go.Proofs.YtbaedapnikhdgaaGreatDoor
