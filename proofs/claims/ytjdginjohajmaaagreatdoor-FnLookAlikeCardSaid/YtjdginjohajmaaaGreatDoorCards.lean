/-
  DERIVED. GIVEN WITH THE SEED: THE CARDS: each row of YtjdginjohajmaaaGreatDoorRows.lean that lists a variable, with what it lists TIED to the program's text (the seventh form; the later family's looks); each row that meets fmt, with fmt's text TOLD by the authors' own Lean function (tested against real Go, not proved from fmt's source: count such statements apart). THE CARD IS WHAT COUNTS. Prove the row's statement (the work); the ties are given (YtjdginjohajmaaaGreatDoorTie.lean); close each card by the builder's one call (the guide's Derived/Test/ToyasCard.lean, 'card_holds'). Laid BY PROGRAM, IN A SANDBOX (cutbox-door.mjs). By AI agents, Wed Nov 11 2026. No macro, syntax, notation, axiom, sorry.
-/
import Derived.Test.YtjdginjohajmaaaGreatDoorRows
import GoSem.ClaimSeven
namespace Go.Proofs.YtjdginjohajmaaaGreatDoor
namespace Rows

/-- THE TIED CARD OF 'laws.FnLookAlike'. -/
def fnLookAlikeCard : Claim7 := { stood := { row := fnLookAlikeRow, standIns := [], harness := (true, "deb9c4782ea2a9d9829e49f1fa2a31ef07e94a6e494a90f9a069ae9339d024e2"), looks := false }, kinds := [], alts := [], laidByText := true, laidKinds := [.data], laidTests := true, laidLooks := .later }
def FnLookAlikeCardSaid : Prop := Claim7.holds Tryz.pinned (.plain (OpenSpec.ofChange fnLookAlikeSpec)) fnLookAlikeCard

/-- THE SECOND FORM's CARD OF 'laws.FnLookAlike'. -/
def fnLookAlikeUptoCard : Claim7 := { stood := { row := fnLookAlikeUptoRow, standIns := [], harness := (true, "deb9c4782ea2a9d9829e49f1fa2a31ef07e94a6e494a90f9a069ae9339d024e2"), looks := false }, kinds := [], alts := [], laidByText := true, laidKinds := [.data], laidTests := true, laidLooks := .later }
def FnLookAlikeUptoCardSaid : Prop := Claim7.holds Tryz.pinned (.plain (OpenSpec.upto fnLookAlikeSpec)) fnLookAlikeUptoCard
end Rows
end Go.Proofs.YtjdginjohajmaaaGreatDoor
