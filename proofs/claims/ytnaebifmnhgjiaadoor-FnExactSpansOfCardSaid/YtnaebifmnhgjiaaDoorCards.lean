/-
  DERIVED. GIVEN WITH THE SEED: THE CARDS: each row of YtnaebifmnhgjiaaDoorRows.lean that lists a variable, with what it lists TIED to the program's text (the seventh form; the later family's looks); each row that meets fmt, with fmt's text TOLD by the authors' own Lean function (tested against real Go, not proved from fmt's source: count such statements apart). THE CARD IS WHAT COUNTS. Prove the row's statement (the work); the ties are given (YtnaebifmnhgjiaaDoorTie.lean); close each card by the builder's one call (the guide's Derived/Test/ToyasCard.lean, 'card_holds'). Laid BY PROGRAM, IN A SANDBOX (cutbox-door.mjs). By AI agents, Wed Nov 11 2026. No macro, syntax, notation, axiom, sorry.
-/
import Derived.Test.YtnaebifmnhgjiaaDoorRows
import GoSem.ClaimSeven
namespace Go.Proofs.YtnaebifmnhgjiaaDoor
namespace Rows

/-- THE TIED CARD OF 'laws.FnTrie'. -/
def fnTrieCard : Claim7 := { stood := { row := fnTrieRow, standIns := [], harness := (true, "f4e08d685aefcc0d35ea22bae3729bf4f6c21fa5d13176b354542220d2e120eb"), looks := false }, kinds := [], alts := [], laidByText := true, laidKinds := [.data, .data, .data], laidTests := true, laidLooks := .later }
def FnTrieCardSaid : Prop := Claim7.holds Tryd.pinned (.plain (OpenSpec.ofChange fnTrieSpec)) fnTrieCard

/-- THE TIED CARD OF 'laws.FnExactSpansOf'. -/
def fnExactSpansOfCard : Claim7 := { stood := { row := fnExactSpansOfRow, standIns := [], harness := (true, "f4e08d685aefcc0d35ea22bae3729bf4f6c21fa5d13176b354542220d2e120eb"), looks := false }, kinds := [], alts := [], laidByText := true, laidKinds := [.data], laidTests := true, laidLooks := .later }
def FnExactSpansOfCardSaid : Prop := Claim7.holds Tryd.pinned (.plain (OpenSpec.ofChange fnExactSpansOfSpec)) fnExactSpansOfCard

/-- THE TIED CARD OF 'laws.FnExactPackTrie'. -/
def fnExactPackTrieCard : Claim7 := { stood := { row := fnExactPackTrieRow, standIns := [], harness := (true, "f4e08d685aefcc0d35ea22bae3729bf4f6c21fa5d13176b354542220d2e120eb"), looks := false }, kinds := [], alts := [], laidByText := true, laidKinds := [.data, .data, .data], laidTests := true, laidLooks := .later }
def FnExactPackTrieCardSaid : Prop := Claim7.holds Tryd.pinned (.plain (OpenSpec.ofChange fnExactPackTrieSpec)) fnExactPackTrieCard

/-- THE SECOND FORM's CARD OF 'laws.FnTrie'. -/
def fnTrieUptoCard : Claim7 := { stood := { row := fnTrieUptoRow, standIns := [], harness := (true, "f4e08d685aefcc0d35ea22bae3729bf4f6c21fa5d13176b354542220d2e120eb"), looks := false }, kinds := [], alts := [], laidByText := true, laidKinds := [.data, .data, .data], laidTests := true, laidLooks := .later }
def FnTrieUptoCardSaid : Prop := Claim7.holds Tryd.pinned (.plain (OpenSpec.upto fnTrieSpec)) fnTrieUptoCard

/-- THE SECOND FORM's CARD OF 'laws.FnExactSpansOf'. -/
def fnExactSpansOfUptoCard : Claim7 := { stood := { row := fnExactSpansOfUptoRow, standIns := [], harness := (true, "f4e08d685aefcc0d35ea22bae3729bf4f6c21fa5d13176b354542220d2e120eb"), looks := false }, kinds := [], alts := [], laidByText := true, laidKinds := [.data], laidTests := true, laidLooks := .later }
def FnExactSpansOfUptoCardSaid : Prop := Claim7.holds Tryd.pinned (.plain (OpenSpec.upto fnExactSpansOfSpec)) fnExactSpansOfUptoCard

/-- THE SECOND FORM's CARD OF 'laws.FnExactPackTrie'. -/
def fnExactPackTrieUptoCard : Claim7 := { stood := { row := fnExactPackTrieUptoRow, standIns := [], harness := (true, "f4e08d685aefcc0d35ea22bae3729bf4f6c21fa5d13176b354542220d2e120eb"), looks := false }, kinds := [], alts := [], laidByText := true, laidKinds := [.data, .data, .data], laidTests := true, laidLooks := .later }
def FnExactPackTrieUptoCardSaid : Prop := Claim7.holds Tryd.pinned (.plain (OpenSpec.upto fnExactPackTrieSpec)) fnExactPackTrieUptoCard
end Rows
end Go.Proofs.YtnaebifmnhgjiaaDoor
