/-
  DERIVED. GIVEN WITH THE SEED: THE CARDS: each row of YtdgafmhjbgddkaaDoorRows.lean that lists a variable, with what it lists TIED to the program's text (the seventh form; the later family's looks); each row that meets fmt, with fmt's text TOLD by the authors' own Lean function (tested against real Go, not proved from fmt's source: count such statements apart). THE CARD IS WHAT COUNTS. Prove the row's statement (the work); the ties are given (YtdgafmhjbgddkaaDoorTie.lean); close each card by the builder's one call (the guide's Derived/Test/ToyasCard.lean, 'card_holds'). Laid BY PROGRAM, IN A SANDBOX (cutbox-door.mjs). By AI agents, Wed Nov 11 2026. No macro, syntax, notation, axiom, sorry.
-/
import Derived.Test.YtdgafmhjbgddkaaDoorRows
import GoSem.ClaimSeven
namespace Go.Proofs.YtdgafmhjbgddkaaDoor
namespace Rows

/-- THE TIED CARD OF 'laws.FnExactWordCuts'. -/
def fnExactWordCutsCard : Claim7 := { stood := { row := fnExactWordCutsRow, standIns := [], harness := (true, "45b8de0367180e85d3f5b2972f719682df8f8b4ca0c6c74e8c099e14ce51ab06"), looks := false }, kinds := [], alts := [], laidByText := true, laidKinds := [.data], laidTests := true, laidLooks := .later }
def FnExactWordCutsCardSaid : Prop := Claim7.holds Tryd.pinned (.plain (OpenSpec.ofChange fnExactWordCutsSpec)) fnExactWordCutsCard

/-- THE TIED CARD OF 'laws.FnExactWords'. -/
def fnExactWordsCard : Claim7 := { stood := { row := fnExactWordsRow, standIns := [], harness := (true, "45b8de0367180e85d3f5b2972f719682df8f8b4ca0c6c74e8c099e14ce51ab06"), looks := false }, kinds := [], alts := [], laidByText := true, laidKinds := [.data], laidTests := true, laidLooks := .later }
def FnExactWordsCardSaid : Prop := Claim7.holds Tryd.pinned (.plain (OpenSpec.ofChange fnExactWordsSpec)) fnExactWordsCard

/-- THE SECOND FORM's CARD OF 'laws.FnExactWordCuts'. -/
def fnExactWordCutsUptoCard : Claim7 := { stood := { row := fnExactWordCutsUptoRow, standIns := [], harness := (true, "45b8de0367180e85d3f5b2972f719682df8f8b4ca0c6c74e8c099e14ce51ab06"), looks := false }, kinds := [], alts := [], laidByText := true, laidKinds := [.data], laidTests := true, laidLooks := .later }
def FnExactWordCutsUptoCardSaid : Prop := Claim7.holds Tryd.pinned (.plain (OpenSpec.upto fnExactWordCutsSpec)) fnExactWordCutsUptoCard

/-- THE SECOND FORM's CARD OF 'laws.FnExactWords'. -/
def fnExactWordsUptoCard : Claim7 := { stood := { row := fnExactWordsUptoRow, standIns := [], harness := (true, "45b8de0367180e85d3f5b2972f719682df8f8b4ca0c6c74e8c099e14ce51ab06"), looks := false }, kinds := [], alts := [], laidByText := true, laidKinds := [.data], laidTests := true, laidLooks := .later }
def FnExactWordsUptoCardSaid : Prop := Claim7.holds Tryd.pinned (.plain (OpenSpec.upto fnExactWordsSpec)) fnExactWordsUptoCard
end Rows
end Go.Proofs.YtdgafmhjbgddkaaDoor
