/-
  DERIVED. GIVEN WITH THE SEED: THE CARDS: each row of YtommeaklnndcnaaDoorRows.lean that lists a variable, with what it lists TIED to the program's text (the seventh form; the later family's looks); each row that meets fmt, with fmt's text TOLD by the authors' own Lean function (tested against real Go, not proved from fmt's source: count such statements apart). THE CARD IS WHAT COUNTS. Prove the row's statement (the work); the ties are given (YtommeaklnndcnaaDoorTie.lean); close each card by the builder's one call (the guide's Derived/Test/ToyasCard.lean, 'card_holds'). Laid BY PROGRAM, IN A SANDBOX (cutbox-door.mjs). By AI agents, Wed Nov 11 2026. No macro, syntax, notation, axiom, sorry.
-/
import Derived.Test.YtommeaklnndcnaaDoorRows
import GoSem.ClaimSeven
namespace Go.Proofs.YtommeaklnndcnaaDoor
namespace Rows

/-- THE TIED CARD OF 'laws.FnTrie'. -/
def fnTrieCard : Claim7 := { stood := { row := fnTrieRow, standIns := [], harness := (true, "f9ba08bec14351c33225e87ad2c8bc0c1eb326f73ebc1d6c13b035d2ab4ca3c8"), looks := false }, kinds := [], alts := [], laidByText := true, laidKinds := [.data, .data, .data], laidTests := true, laidLooks := .later }
def FnTrieCardSaid : Prop := Claim7.holds Tryd.pinned (.plain (OpenSpec.ofChange fnTrieSpec)) fnTrieCard

/-- THE TIED CARD OF 'laws.FnCases'. -/
def fnCasesCard : Claim7 := { stood := { row := fnCasesRow, standIns := [], harness := (true, "f9ba08bec14351c33225e87ad2c8bc0c1eb326f73ebc1d6c13b035d2ab4ca3c8"), looks := false }, kinds := [], alts := [], laidByText := true, laidKinds := [.data], laidTests := true, laidLooks := .later }
def FnCasesCardSaid : Prop := Claim7.holds Tryd.pinned (.plain (OpenSpec.ofChange fnCasesSpec)) fnCasesCard

/-- THE TIED CARD OF 'laws.FnChars'. -/
def fnCharsCard : Claim7 := { stood := { row := fnCharsRow, standIns := [], harness := (true, "f9ba08bec14351c33225e87ad2c8bc0c1eb326f73ebc1d6c13b035d2ab4ca3c8"), looks := false }, kinds := [], alts := [], laidByText := true, laidKinds := [.data], laidTests := true, laidLooks := .later }
def FnCharsCardSaid : Prop := Claim7.holds Tryd.pinned (.plain (OpenSpec.ofChange fnCharsSpec)) fnCharsCard

/-- THE TIED CARD OF 'laws.FnExactSimpleLower'. -/
def fnExactSimpleLowerCard : Claim7 := { stood := { row := fnExactSimpleLowerRow, standIns := [], harness := (true, "f9ba08bec14351c33225e87ad2c8bc0c1eb326f73ebc1d6c13b035d2ab4ca3c8"), looks := false }, kinds := [], alts := [], laidByText := true, laidKinds := [.data], laidTests := true, laidLooks := .later }
def FnExactSimpleLowerCardSaid : Prop := Claim7.holds Tryd.pinned (.plain (OpenSpec.ofChange fnExactSimpleLowerSpec)) fnExactSimpleLowerCard

/-- THE TIED CARD OF 'laws.FnExactSimpleUpper'. -/
def fnExactSimpleUpperCard : Claim7 := { stood := { row := fnExactSimpleUpperRow, standIns := [], harness := (true, "f9ba08bec14351c33225e87ad2c8bc0c1eb326f73ebc1d6c13b035d2ab4ca3c8"), looks := false }, kinds := [], alts := [], laidByText := true, laidKinds := [.data], laidTests := true, laidLooks := .later }
def FnExactSimpleUpperCardSaid : Prop := Claim7.holds Tryd.pinned (.plain (OpenSpec.ofChange fnExactSimpleUpperSpec)) fnExactSimpleUpperCard

/-- THE TIED CARD OF 'laws.FnExactCasesOf'. -/
def fnExactCasesOfCard : Claim7 := { stood := { row := fnExactCasesOfRow, standIns := [], harness := (true, "f9ba08bec14351c33225e87ad2c8bc0c1eb326f73ebc1d6c13b035d2ab4ca3c8"), looks := false }, kinds := [], alts := [], laidByText := true, laidKinds := [.data], laidTests := true, laidLooks := .later }
def FnExactCasesOfCardSaid : Prop := Claim7.holds Tryd.pinned (.plain (OpenSpec.ofChange fnExactCasesOfSpec)) fnExactCasesOfCard

/-- THE TIED CARD OF 'laws.FnExactCharCuts'. -/
def fnExactCharCutsCard : Claim7 := { stood := { row := fnExactCharCutsRow, standIns := [], harness := (true, "f9ba08bec14351c33225e87ad2c8bc0c1eb326f73ebc1d6c13b035d2ab4ca3c8"), looks := false }, kinds := [], alts := [], laidByText := true, laidKinds := [.data], laidTests := true, laidLooks := .later }
def FnExactCharCutsCardSaid : Prop := Claim7.holds Tryd.pinned (.plain (OpenSpec.ofChange fnExactCharCutsSpec)) fnExactCharCutsCard

/-- THE TIED CARD OF 'laws.FnExactChars'. -/
def fnExactCharsCard : Claim7 := { stood := { row := fnExactCharsRow, standIns := [], harness := (true, "f9ba08bec14351c33225e87ad2c8bc0c1eb326f73ebc1d6c13b035d2ab4ca3c8"), looks := false }, kinds := [], alts := [], laidByText := true, laidKinds := [.data], laidTests := true, laidLooks := .later }
def FnExactCharsCardSaid : Prop := Claim7.holds Tryd.pinned (.plain (OpenSpec.ofChange fnExactCharsSpec)) fnExactCharsCard

/-- THE TIED CARD OF 'laws.FnExactNextChar'. -/
def fnExactNextCharCard : Claim7 := { stood := { row := fnExactNextCharRow, standIns := [], harness := (true, "f9ba08bec14351c33225e87ad2c8bc0c1eb326f73ebc1d6c13b035d2ab4ca3c8"), looks := false }, kinds := [], alts := [], laidByText := true, laidKinds := [.data], laidTests := true, laidLooks := .later }
def FnExactNextCharCardSaid : Prop := Claim7.holds Tryd.pinned (.plain (OpenSpec.ofChange fnExactNextCharSpec)) fnExactNextCharCard

/-- THE TIED CARD OF 'laws.FnExactLastChar'. -/
def fnExactLastCharCard : Claim7 := { stood := { row := fnExactLastCharRow, standIns := [], harness := (true, "f9ba08bec14351c33225e87ad2c8bc0c1eb326f73ebc1d6c13b035d2ab4ca3c8"), looks := false }, kinds := [], alts := [], laidByText := true, laidKinds := [.data], laidTests := true, laidLooks := .later }
def FnExactLastCharCardSaid : Prop := Claim7.holds Tryd.pinned (.plain (OpenSpec.ofChange fnExactLastCharSpec)) fnExactLastCharCard

/-- THE TIED CARD OF 'laws.FnExactWordCuts'. -/
def fnExactWordCutsCard : Claim7 := { stood := { row := fnExactWordCutsRow, standIns := [], harness := (true, "f9ba08bec14351c33225e87ad2c8bc0c1eb326f73ebc1d6c13b035d2ab4ca3c8"), looks := false }, kinds := [], alts := [], laidByText := true, laidKinds := [.data], laidTests := true, laidLooks := .later }
def FnExactWordCutsCardSaid : Prop := Claim7.holds Tryd.pinned (.plain (OpenSpec.ofChange fnExactWordCutsSpec)) fnExactWordCutsCard

/-- THE TIED CARD OF 'laws.FnExactWords'. -/
def fnExactWordsCard : Claim7 := { stood := { row := fnExactWordsRow, standIns := [], harness := (true, "f9ba08bec14351c33225e87ad2c8bc0c1eb326f73ebc1d6c13b035d2ab4ca3c8"), looks := false }, kinds := [], alts := [], laidByText := true, laidKinds := [.data], laidTests := true, laidLooks := .later }
def FnExactWordsCardSaid : Prop := Claim7.holds Tryd.pinned (.plain (OpenSpec.ofChange fnExactWordsSpec)) fnExactWordsCard

/-- THE SECOND FORM's CARD OF 'laws.FnTrie'. -/
def fnTrieUptoCard : Claim7 := { stood := { row := fnTrieUptoRow, standIns := [], harness := (true, "f9ba08bec14351c33225e87ad2c8bc0c1eb326f73ebc1d6c13b035d2ab4ca3c8"), looks := false }, kinds := [], alts := [], laidByText := true, laidKinds := [.data, .data, .data], laidTests := true, laidLooks := .later }
def FnTrieUptoCardSaid : Prop := Claim7.holds Tryd.pinned (.plain (OpenSpec.upto fnTrieSpec)) fnTrieUptoCard

/-- THE SECOND FORM's CARD OF 'laws.FnCases'. -/
def fnCasesUptoCard : Claim7 := { stood := { row := fnCasesUptoRow, standIns := [], harness := (true, "f9ba08bec14351c33225e87ad2c8bc0c1eb326f73ebc1d6c13b035d2ab4ca3c8"), looks := false }, kinds := [], alts := [], laidByText := true, laidKinds := [.data], laidTests := true, laidLooks := .later }
def FnCasesUptoCardSaid : Prop := Claim7.holds Tryd.pinned (.plain (OpenSpec.upto fnCasesSpec)) fnCasesUptoCard

/-- THE SECOND FORM's CARD OF 'laws.FnChars'. -/
def fnCharsUptoCard : Claim7 := { stood := { row := fnCharsUptoRow, standIns := [], harness := (true, "f9ba08bec14351c33225e87ad2c8bc0c1eb326f73ebc1d6c13b035d2ab4ca3c8"), looks := false }, kinds := [], alts := [], laidByText := true, laidKinds := [.data], laidTests := true, laidLooks := .later }
def FnCharsUptoCardSaid : Prop := Claim7.holds Tryd.pinned (.plain (OpenSpec.upto fnCharsSpec)) fnCharsUptoCard

/-- THE SECOND FORM's CARD OF 'laws.FnExactSimpleLower'. -/
def fnExactSimpleLowerUptoCard : Claim7 := { stood := { row := fnExactSimpleLowerUptoRow, standIns := [], harness := (true, "f9ba08bec14351c33225e87ad2c8bc0c1eb326f73ebc1d6c13b035d2ab4ca3c8"), looks := false }, kinds := [], alts := [], laidByText := true, laidKinds := [.data], laidTests := true, laidLooks := .later }
def FnExactSimpleLowerUptoCardSaid : Prop := Claim7.holds Tryd.pinned (.plain (OpenSpec.upto fnExactSimpleLowerSpec)) fnExactSimpleLowerUptoCard

/-- THE SECOND FORM's CARD OF 'laws.FnExactSimpleUpper'. -/
def fnExactSimpleUpperUptoCard : Claim7 := { stood := { row := fnExactSimpleUpperUptoRow, standIns := [], harness := (true, "f9ba08bec14351c33225e87ad2c8bc0c1eb326f73ebc1d6c13b035d2ab4ca3c8"), looks := false }, kinds := [], alts := [], laidByText := true, laidKinds := [.data], laidTests := true, laidLooks := .later }
def FnExactSimpleUpperUptoCardSaid : Prop := Claim7.holds Tryd.pinned (.plain (OpenSpec.upto fnExactSimpleUpperSpec)) fnExactSimpleUpperUptoCard

/-- THE SECOND FORM's CARD OF 'laws.FnExactCasesOf'. -/
def fnExactCasesOfUptoCard : Claim7 := { stood := { row := fnExactCasesOfUptoRow, standIns := [], harness := (true, "f9ba08bec14351c33225e87ad2c8bc0c1eb326f73ebc1d6c13b035d2ab4ca3c8"), looks := false }, kinds := [], alts := [], laidByText := true, laidKinds := [.data], laidTests := true, laidLooks := .later }
def FnExactCasesOfUptoCardSaid : Prop := Claim7.holds Tryd.pinned (.plain (OpenSpec.upto fnExactCasesOfSpec)) fnExactCasesOfUptoCard

/-- THE SECOND FORM's CARD OF 'laws.FnExactCharCuts'. -/
def fnExactCharCutsUptoCard : Claim7 := { stood := { row := fnExactCharCutsUptoRow, standIns := [], harness := (true, "f9ba08bec14351c33225e87ad2c8bc0c1eb326f73ebc1d6c13b035d2ab4ca3c8"), looks := false }, kinds := [], alts := [], laidByText := true, laidKinds := [.data], laidTests := true, laidLooks := .later }
def FnExactCharCutsUptoCardSaid : Prop := Claim7.holds Tryd.pinned (.plain (OpenSpec.upto fnExactCharCutsSpec)) fnExactCharCutsUptoCard

/-- THE SECOND FORM's CARD OF 'laws.FnExactChars'. -/
def fnExactCharsUptoCard : Claim7 := { stood := { row := fnExactCharsUptoRow, standIns := [], harness := (true, "f9ba08bec14351c33225e87ad2c8bc0c1eb326f73ebc1d6c13b035d2ab4ca3c8"), looks := false }, kinds := [], alts := [], laidByText := true, laidKinds := [.data], laidTests := true, laidLooks := .later }
def FnExactCharsUptoCardSaid : Prop := Claim7.holds Tryd.pinned (.plain (OpenSpec.upto fnExactCharsSpec)) fnExactCharsUptoCard

/-- THE SECOND FORM's CARD OF 'laws.FnExactNextChar'. -/
def fnExactNextCharUptoCard : Claim7 := { stood := { row := fnExactNextCharUptoRow, standIns := [], harness := (true, "f9ba08bec14351c33225e87ad2c8bc0c1eb326f73ebc1d6c13b035d2ab4ca3c8"), looks := false }, kinds := [], alts := [], laidByText := true, laidKinds := [.data], laidTests := true, laidLooks := .later }
def FnExactNextCharUptoCardSaid : Prop := Claim7.holds Tryd.pinned (.plain (OpenSpec.upto fnExactNextCharSpec)) fnExactNextCharUptoCard

/-- THE SECOND FORM's CARD OF 'laws.FnExactLastChar'. -/
def fnExactLastCharUptoCard : Claim7 := { stood := { row := fnExactLastCharUptoRow, standIns := [], harness := (true, "f9ba08bec14351c33225e87ad2c8bc0c1eb326f73ebc1d6c13b035d2ab4ca3c8"), looks := false }, kinds := [], alts := [], laidByText := true, laidKinds := [.data], laidTests := true, laidLooks := .later }
def FnExactLastCharUptoCardSaid : Prop := Claim7.holds Tryd.pinned (.plain (OpenSpec.upto fnExactLastCharSpec)) fnExactLastCharUptoCard

/-- THE SECOND FORM's CARD OF 'laws.FnExactWordCuts'. -/
def fnExactWordCutsUptoCard : Claim7 := { stood := { row := fnExactWordCutsUptoRow, standIns := [], harness := (true, "f9ba08bec14351c33225e87ad2c8bc0c1eb326f73ebc1d6c13b035d2ab4ca3c8"), looks := false }, kinds := [], alts := [], laidByText := true, laidKinds := [.data], laidTests := true, laidLooks := .later }
def FnExactWordCutsUptoCardSaid : Prop := Claim7.holds Tryd.pinned (.plain (OpenSpec.upto fnExactWordCutsSpec)) fnExactWordCutsUptoCard

/-- THE SECOND FORM's CARD OF 'laws.FnExactWords'. -/
def fnExactWordsUptoCard : Claim7 := { stood := { row := fnExactWordsUptoRow, standIns := [], harness := (true, "f9ba08bec14351c33225e87ad2c8bc0c1eb326f73ebc1d6c13b035d2ab4ca3c8"), looks := false }, kinds := [], alts := [], laidByText := true, laidKinds := [.data], laidTests := true, laidLooks := .later }
def FnExactWordsUptoCardSaid : Prop := Claim7.holds Tryd.pinned (.plain (OpenSpec.upto fnExactWordsSpec)) fnExactWordsUptoCard
end Rows
end Go.Proofs.YtommeaklnndcnaaDoor
