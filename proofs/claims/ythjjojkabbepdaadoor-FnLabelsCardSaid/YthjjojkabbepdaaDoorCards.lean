/-
  DERIVED. GIVEN WITH THE SEED: THE CARDS: each row of YthjjojkabbepdaaDoorRows.lean that lists a variable, with what it lists TIED to the program's text (the seventh form; the later family's looks); each row that meets fmt, with fmt's text TOLD by the authors' own Lean function (tested against real Go, not proved from fmt's source: count such statements apart). THE CARD IS WHAT COUNTS. Prove the row's statement (the work); the ties are given (YthjjojkabbepdaaDoorTie.lean); close each card by the builder's one call (the guide's Derived/Test/ToyasCard.lean, 'card_holds'). Laid BY PROGRAM, IN A SANDBOX (cutbox-door.mjs). By AI agents, Wed Nov 11 2026. No macro, syntax, notation, axiom, sorry.
-/
import Derived.Test.YthjjojkabbepdaaDoorRows
import GoSem.ClaimSeven
namespace Go.Proofs.YthjjojkabbepdaaDoor
namespace Rows

/-- THE TIED CARD OF 'laws.FnLabels'. -/
def fnLabelsCard : Claim7 := { stood := { row := fnLabelsRow, standIns := [], harness := (true, "154554bd112df2c195b363c3a3d9ce20d5b42243cd00bb5dba40850ef5355c4b"), looks := true }, kinds := [], alts := [], laidByText := true, laidKinds := [.data, .handle, .sentinel, .sentinel, .sentinel, .pinned], laidTests := true, laidLooks := .later }
def FnLabelsCardSaid : Prop := Claim7.holds Tryd.pinned (.plain (OpenSpec.ofChange fnLabelsSpec)) fnLabelsCard

/-- THE TIED CARD OF 'laws.FnExactDecodeLabel'. -/
def fnExactDecodeLabelCard : Claim7 := { stood := { row := fnExactDecodeLabelRow, standIns := [], harness := (true, "154554bd112df2c195b363c3a3d9ce20d5b42243cd00bb5dba40850ef5355c4b"), looks := true }, kinds := [], alts := [], laidByText := true, laidKinds := [.handle, .sentinel, .sentinel, .sentinel], laidTests := true, laidLooks := .later }
def FnExactDecodeLabelCardSaid : Prop := Claim7.holds Tryd.pinned (.plain (OpenSpec.ofChange fnExactDecodeLabelSpec)) fnExactDecodeLabelCard

/-- THE SECOND FORM's CARD OF 'laws.FnLabels'. -/
def fnLabelsUptoCard : Claim7 := { stood := { row := fnLabelsUptoRow, standIns := [], harness := (true, "154554bd112df2c195b363c3a3d9ce20d5b42243cd00bb5dba40850ef5355c4b"), looks := true }, kinds := [], alts := [], laidByText := true, laidKinds := [.data, .handle, .sentinel, .sentinel, .sentinel, .pinned], laidTests := true, laidLooks := .later }
def FnLabelsUptoCardSaid : Prop := Claim7.holds Tryd.pinned (.plain (OpenSpec.upto fnLabelsSpec)) fnLabelsUptoCard

/-- THE SECOND FORM's CARD OF 'laws.FnExactDecodeLabel'. -/
def fnExactDecodeLabelUptoCard : Claim7 := { stood := { row := fnExactDecodeLabelUptoRow, standIns := [], harness := (true, "154554bd112df2c195b363c3a3d9ce20d5b42243cd00bb5dba40850ef5355c4b"), looks := true }, kinds := [], alts := [], laidByText := true, laidKinds := [.handle, .sentinel, .sentinel, .sentinel], laidTests := true, laidLooks := .later }
def FnExactDecodeLabelUptoCardSaid : Prop := Claim7.holds Tryd.pinned (.plain (OpenSpec.upto fnExactDecodeLabelSpec)) fnExactDecodeLabelUptoCard
end Rows
end Go.Proofs.YthjjojkabbepdaaDoor
