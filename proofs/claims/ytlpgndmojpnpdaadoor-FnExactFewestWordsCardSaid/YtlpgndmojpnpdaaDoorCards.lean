/-
  DERIVED. GIVEN WITH THE SEED: THE CARDS: each row of YtlpgndmojpnpdaaDoorRows.lean that lists a variable, with what it lists TIED to the program's text (the seventh form; the later family's looks); each row that meets fmt, with fmt's text TOLD by the authors' own Lean function (tested against real Go, not proved from fmt's source: count such statements apart). THE CARD IS WHAT COUNTS. Prove the row's statement (the work); the ties are given (YtlpgndmojpnpdaaDoorTie.lean); close each card by the builder's one call (the guide's Derived/Test/ToyasCard.lean, 'card_holds'). Laid BY PROGRAM, IN A SANDBOX (cutbox-door.mjs). By AI agents, Wed Nov 11 2026. No macro, syntax, notation, axiom, sorry.
-/
import Derived.Test.YtlpgndmojpnpdaaDoorRows
import GoSem.ClaimSeven
namespace Go.Proofs.YtlpgndmojpnpdaaDoor
namespace Rows

/-- THE TIED CARD OF 'laws.FnExactFewestWords'. -/
def fnExactFewestWordsCard : Claim7 := { stood := { row := fnExactFewestWordsRow, standIns := [], harness := (true, "b5d424041c6c9dfad4aabc8cc3c64f0ee68cb5fda91cf4e002bffec0a14419dd"), looks := false }, kinds := [], alts := [], laidByText := true, laidKinds := [.data], laidTests := true, laidLooks := .later }
def FnExactFewestWordsCardSaid : Prop := Claim7.holds Tryd.pinned (.plain (OpenSpec.ofChange fnExactFewestWordsSpec)) fnExactFewestWordsCard

/-- THE SECOND FORM's CARD OF 'laws.FnExactFewestWords'. -/
def fnExactFewestWordsUptoCard : Claim7 := { stood := { row := fnExactFewestWordsUptoRow, standIns := [], harness := (true, "b5d424041c6c9dfad4aabc8cc3c64f0ee68cb5fda91cf4e002bffec0a14419dd"), looks := false }, kinds := [], alts := [], laidByText := true, laidKinds := [.data], laidTests := true, laidLooks := .later }
def FnExactFewestWordsUptoCardSaid : Prop := Claim7.holds Tryd.pinned (.plain (OpenSpec.upto fnExactFewestWordsSpec)) fnExactFewestWordsUptoCard
end Rows
end Go.Proofs.YtlpgndmojpnpdaaDoor
