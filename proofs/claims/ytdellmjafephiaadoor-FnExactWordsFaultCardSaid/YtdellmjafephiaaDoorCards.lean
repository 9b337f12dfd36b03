/-
  DERIVED. GIVEN WITH THE SEED: THE CARDS: each row of YtdellmjafephiaaDoorRows.lean that lists a variable, with what it lists TIED to the program's text (the seventh form; the later family's looks); each row that meets fmt, with fmt's text TOLD by the authors' own Lean function (tested against real Go, not proved from fmt's source: count such statements apart). THE CARD IS WHAT COUNTS. Prove the row's statement (the work); the ties are given (YtdellmjafephiaaDoorTie.lean); close each card by the builder's one call (the guide's Derived/Test/ToyasCard.lean, 'card_holds'). Laid BY PROGRAM, IN A SANDBOX (cutbox-door.mjs). By AI agents, Wed Nov 11 2026. No macro, syntax, notation, axiom, sorry.
-/
import Derived.Test.YtdellmjafephiaaDoorRows
import GoSem.ClaimSeven
namespace Go.Proofs.YtdellmjafephiaaDoor
namespace Rows

/-- THE TIED CARD OF 'laws.FnChars'. -/
def fnCharsCard : Claim7 := { stood := { row := fnCharsRow, standIns := [], harness := (true, "7d86ed27b045b44a1bed9dc723c2193b4e010aa5982cec05c41a11f90f4efb0c"), looks := false }, kinds := [], alts := [], laidByText := true, laidKinds := [.data], laidTests := true, laidLooks := .later }
def FnCharsCardSaid : Prop := Claim7.holds Tryd.pinned (.plain (OpenSpec.ofChange fnCharsSpec)) fnCharsCard

/-- THE TIED CARD OF 'laws.FnExactChars'. -/
def fnExactCharsCard : Claim7 := { stood := { row := fnExactCharsRow, standIns := [], harness := (true, "7d86ed27b045b44a1bed9dc723c2193b4e010aa5982cec05c41a11f90f4efb0c"), looks := false }, kinds := [], alts := [], laidByText := true, laidKinds := [.data], laidTests := true, laidLooks := .later }
def FnExactCharsCardSaid : Prop := Claim7.holds Tryd.pinned (.plain (OpenSpec.ofChange fnExactCharsSpec)) fnExactCharsCard

/-- THE TIED CARD OF 'laws.FnExactWordCuts'. -/
def fnExactWordCutsCard : Claim7 := { stood := { row := fnExactWordCutsRow, standIns := [], harness := (true, "7d86ed27b045b44a1bed9dc723c2193b4e010aa5982cec05c41a11f90f4efb0c"), looks := false }, kinds := [], alts := [], laidByText := true, laidKinds := [.data], laidTests := true, laidLooks := .later }
def FnExactWordCutsCardSaid : Prop := Claim7.holds Tryd.pinned (.plain (OpenSpec.ofChange fnExactWordCutsSpec)) fnExactWordCutsCard

/-- THE TIED CARD OF 'laws.FnExactWords'. -/
def fnExactWordsCard : Claim7 := { stood := { row := fnExactWordsRow, standIns := [], harness := (true, "7d86ed27b045b44a1bed9dc723c2193b4e010aa5982cec05c41a11f90f4efb0c"), looks := false }, kinds := [], alts := [], laidByText := true, laidKinds := [.data], laidTests := true, laidLooks := .later }
def FnExactWordsCardSaid : Prop := Claim7.holds Tryd.pinned (.plain (OpenSpec.ofChange fnExactWordsSpec)) fnExactWordsCard

/-- THE TIED CARD OF 'laws.FnExactSentenceCuts'. -/
def fnExactSentenceCutsCard : Claim7 := { stood := { row := fnExactSentenceCutsRow, standIns := [], harness := (true, "7d86ed27b045b44a1bed9dc723c2193b4e010aa5982cec05c41a11f90f4efb0c"), looks := false }, kinds := [], alts := [], laidByText := true, laidKinds := [.data], laidTests := true, laidLooks := .later }
def FnExactSentenceCutsCardSaid : Prop := Claim7.holds Tryd.pinned (.plain (OpenSpec.ofChange fnExactSentenceCutsSpec)) fnExactSentenceCutsCard

/-- THE TIED CARD OF 'laws.FnExactWordsFault'. -/
def fnExactWordsFaultCard : Claim7 := { stood := { row := fnExactWordsFaultRow, standIns := [], harness := (true, "7d86ed27b045b44a1bed9dc723c2193b4e010aa5982cec05c41a11f90f4efb0c"), looks := false }, kinds := [], alts := [], laidByText := true, laidKinds := [.data], laidTests := true, laidLooks := .later }
def FnExactWordsFaultCardSaid : Prop := Claim7.holds Tryd.pinned (.plain (OpenSpec.ofChange fnExactWordsFaultSpec)) fnExactWordsFaultCard

/-- THE TIED CARD OF 'laws.FnExactFewestWords'. -/
def fnExactFewestWordsCard : Claim7 := { stood := { row := fnExactFewestWordsRow, standIns := [], harness := (true, "7d86ed27b045b44a1bed9dc723c2193b4e010aa5982cec05c41a11f90f4efb0c"), looks := false }, kinds := [], alts := [], laidByText := true, laidKinds := [.data], laidTests := true, laidLooks := .later }
def FnExactFewestWordsCardSaid : Prop := Claim7.holds Tryd.pinned (.plain (OpenSpec.ofChange fnExactFewestWordsSpec)) fnExactFewestWordsCard

/-- THE TIED CARD OF 'laws.FnFewest'. -/
def fnFewestCard : Claim7 := { stood := { row := fnFewestRow, standIns := [], harness := (true, "7d86ed27b045b44a1bed9dc723c2193b4e010aa5982cec05c41a11f90f4efb0c"), looks := false }, kinds := [], alts := [], laidByText := true, laidKinds := [.data], laidTests := true, laidLooks := .later }
def FnFewestCardSaid : Prop := Claim7.holds Tryd.pinned (.plain (OpenSpec.ofChange fnFewestSpec)) fnFewestCard

/-- THE SECOND FORM's CARD OF 'laws.FnChars'. -/
def fnCharsUptoCard : Claim7 := { stood := { row := fnCharsUptoRow, standIns := [], harness := (true, "7d86ed27b045b44a1bed9dc723c2193b4e010aa5982cec05c41a11f90f4efb0c"), looks := false }, kinds := [], alts := [], laidByText := true, laidKinds := [.data], laidTests := true, laidLooks := .later }
def FnCharsUptoCardSaid : Prop := Claim7.holds Tryd.pinned (.plain (OpenSpec.upto fnCharsSpec)) fnCharsUptoCard

/-- THE SECOND FORM's CARD OF 'laws.FnExactChars'. -/
def fnExactCharsUptoCard : Claim7 := { stood := { row := fnExactCharsUptoRow, standIns := [], harness := (true, "7d86ed27b045b44a1bed9dc723c2193b4e010aa5982cec05c41a11f90f4efb0c"), looks := false }, kinds := [], alts := [], laidByText := true, laidKinds := [.data], laidTests := true, laidLooks := .later }
def FnExactCharsUptoCardSaid : Prop := Claim7.holds Tryd.pinned (.plain (OpenSpec.upto fnExactCharsSpec)) fnExactCharsUptoCard

/-- THE SECOND FORM's CARD OF 'laws.FnExactWordCuts'. -/
def fnExactWordCutsUptoCard : Claim7 := { stood := { row := fnExactWordCutsUptoRow, standIns := [], harness := (true, "7d86ed27b045b44a1bed9dc723c2193b4e010aa5982cec05c41a11f90f4efb0c"), looks := false }, kinds := [], alts := [], laidByText := true, laidKinds := [.data], laidTests := true, laidLooks := .later }
def FnExactWordCutsUptoCardSaid : Prop := Claim7.holds Tryd.pinned (.plain (OpenSpec.upto fnExactWordCutsSpec)) fnExactWordCutsUptoCard

/-- THE SECOND FORM's CARD OF 'laws.FnExactWords'. -/
def fnExactWordsUptoCard : Claim7 := { stood := { row := fnExactWordsUptoRow, standIns := [], harness := (true, "7d86ed27b045b44a1bed9dc723c2193b4e010aa5982cec05c41a11f90f4efb0c"), looks := false }, kinds := [], alts := [], laidByText := true, laidKinds := [.data], laidTests := true, laidLooks := .later }
def FnExactWordsUptoCardSaid : Prop := Claim7.holds Tryd.pinned (.plain (OpenSpec.upto fnExactWordsSpec)) fnExactWordsUptoCard

/-- THE SECOND FORM's CARD OF 'laws.FnExactSentenceCuts'. -/
def fnExactSentenceCutsUptoCard : Claim7 := { stood := { row := fnExactSentenceCutsUptoRow, standIns := [], harness := (true, "7d86ed27b045b44a1bed9dc723c2193b4e010aa5982cec05c41a11f90f4efb0c"), looks := false }, kinds := [], alts := [], laidByText := true, laidKinds := [.data], laidTests := true, laidLooks := .later }
def FnExactSentenceCutsUptoCardSaid : Prop := Claim7.holds Tryd.pinned (.plain (OpenSpec.upto fnExactSentenceCutsSpec)) fnExactSentenceCutsUptoCard

/-- THE SECOND FORM's CARD OF 'laws.FnExactWordsFault'. -/
def fnExactWordsFaultUptoCard : Claim7 := { stood := { row := fnExactWordsFaultUptoRow, standIns := [], harness := (true, "7d86ed27b045b44a1bed9dc723c2193b4e010aa5982cec05c41a11f90f4efb0c"), looks := false }, kinds := [], alts := [], laidByText := true, laidKinds := [.data], laidTests := true, laidLooks := .later }
def FnExactWordsFaultUptoCardSaid : Prop := Claim7.holds Tryd.pinned (.plain (OpenSpec.upto fnExactWordsFaultSpec)) fnExactWordsFaultUptoCard

/-- THE SECOND FORM's CARD OF 'laws.FnExactFewestWords'. -/
def fnExactFewestWordsUptoCard : Claim7 := { stood := { row := fnExactFewestWordsUptoRow, standIns := [], harness := (true, "7d86ed27b045b44a1bed9dc723c2193b4e010aa5982cec05c41a11f90f4efb0c"), looks := false }, kinds := [], alts := [], laidByText := true, laidKinds := [.data], laidTests := true, laidLooks := .later }
def FnExactFewestWordsUptoCardSaid : Prop := Claim7.holds Tryd.pinned (.plain (OpenSpec.upto fnExactFewestWordsSpec)) fnExactFewestWordsUptoCard

/-- THE SECOND FORM's CARD OF 'laws.FnFewest'. -/
def fnFewestUptoCard : Claim7 := { stood := { row := fnFewestUptoRow, standIns := [], harness := (true, "7d86ed27b045b44a1bed9dc723c2193b4e010aa5982cec05c41a11f90f4efb0c"), looks := false }, kinds := [], alts := [], laidByText := true, laidKinds := [.data], laidTests := true, laidLooks := .later }
def FnFewestUptoCardSaid : Prop := Claim7.holds Tryd.pinned (.plain (OpenSpec.upto fnFewestSpec)) fnFewestUptoCard
end Rows
end Go.Proofs.YtdellmjafephiaaDoor
