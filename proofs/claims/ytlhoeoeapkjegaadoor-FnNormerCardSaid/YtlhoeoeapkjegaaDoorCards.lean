/-
  DERIVED. GIVEN WITH THE SEED: THE CARDS: each row of YtlhoeoeapkjegaaDoorRows.lean that lists a variable, with what it lists TIED to the program's text (the seventh form; the later family's looks); each row that meets fmt, with fmt's text TOLD by the authors' own Lean function (tested against real Go, not proved from fmt's source: count such statements apart). THE CARD IS WHAT COUNTS. Prove the row's statement (the work); the ties are given (YtlhoeoeapkjegaaDoorTie.lean); close each card by the builder's one call (the guide's Derived/Test/ToyasCard.lean, 'card_holds'). Laid BY PROGRAM, IN A SANDBOX (cutbox-door.mjs). By AI agents, Wed Nov 11 2026. No macro, syntax, notation, axiom, sorry.
-/
import Derived.Test.YtlhoeoeapkjegaaDoorRows
import GoSem.ClaimSeven
namespace Go.Proofs.YtlhoeoeapkjegaaDoor
namespace Rows

/-- THE TIED CARD OF 'laws.FnNormer'. -/
def fnNormerCard : Claim7 := { stood := { row := fnNormerRow, standIns := [], harness := (true, "3287ef9657bdcbb45a678fba643558b16dbff73e2f36af1e734e39c9f6e26318"), looks := false }, kinds := [], alts := [], laidByText := true, laidKinds := [.data, .pinned], laidTests := true, laidLooks := .later }
def FnNormerCardSaid : Prop := Claim7.holds Tryd.pinned (.plain (OpenSpec.ofChange fnNormerSpec)) fnNormerCard

/-- THE SECOND FORM's CARD OF 'laws.FnNormer'. -/
def fnNormerUptoCard : Claim7 := { stood := { row := fnNormerUptoRow, standIns := [], harness := (true, "3287ef9657bdcbb45a678fba643558b16dbff73e2f36af1e734e39c9f6e26318"), looks := false }, kinds := [], alts := [], laidByText := true, laidKinds := [.data, .pinned], laidTests := true, laidLooks := .later }
def FnNormerUptoCardSaid : Prop := Claim7.holds Tryd.pinned (.plain (OpenSpec.upto fnNormerSpec)) fnNormerUptoCard
end Rows
end Go.Proofs.YtlhoeoeapkjegaaDoor
