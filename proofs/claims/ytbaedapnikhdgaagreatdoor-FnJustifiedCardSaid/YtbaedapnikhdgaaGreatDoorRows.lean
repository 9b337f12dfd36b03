/-
  NARROWER THAN 'FOR EVERY INPUT', by the rows' own cells (each row's printed sentence says how): FnJustified: laid.
  DERIVED. THE GIVEN ROWS OF THIS SEAT. 1 by the template 'for every input the law returns true; each argument reads behind the call as it read before'; 0 by the template 'total and deterministic' (their statements: YtbaedapnikhdgaaGreatDoorTotals.lean).
  GIVEN WITH THE SEED: the statements are not yours to turn. If you find one false, say at which input.
  Laid BY PROGRAM, IN A SANDBOX (cutbox-rows.mjs): the forced cells as the released guide's own fill.sh prints them over the translation 42fd79cee42fd363… (all of the seat's roots in one cut). By AI agents, Wed Nov 11 2026. No macro, syntax, notation, axiom, sorry.
-/
import Derived.Test.YtbaedapnikhdgaaGreatDoorChecked
import GoSem.PinnedTables
import GoSem.Claim
import GoSem.ClaimJoined
import GoSem.ClaimMapViews
import Derived.JoinedTies
import Derived.KernelRfl
namespace Go.Proofs.YtbaedapnikhdgaaGreatDoor
/- THE CELL 'sum', in the pinned program and in every row, IS THE sha256 OF THE DUMP (.gsa) THAT YtbaedapnikhdgaaGreatDoorProg.lean LOADS. Nothing in Lean hashes anything: it is a label: what it is worth is what the hold of that sum in a sandbox is worth. -/
noncomputable def Tryz.pinned : Pinned := { name := "ytbaedapnikhdgaagreatdoor", sum := "42fd79cee42fd363235af095b2328a5aa010ec3681fe3b127368b224803fc513", checked := Tryz.checked }
namespace Rows
def none {H : Type} : Left H := { results := [], args := [] }

/- WHAT THE LISTED PACKAGE-LEVEL VARIABLES READ AS WHEN THE CALL BEGINS. Each datum BY PROGRAM (the guide's laid-datum.mjs) off the statement by which the dump's own 'gosem.cut.vars' lays the variable. In a bare row this is a premise. The card (YtbaedapnikhdgaaGreatDoorCards.lean) ties it to the program's text. -/
def laid_unicode_utf8_acceptRanges {H : Type} : DataW H := .agg [.agg [.lit (.int .u8 128), .lit (.int .u8 191)], .agg [.lit (.int .u8 160), .lit (.int .u8 191)], .agg [.lit (.int .u8 128), .lit (.int .u8 159)], .agg [.lit (.int .u8 144), .lit (.int .u8 191)], .agg [.lit (.int .u8 128), .lit (.int .u8 143)], .agg [.lit (.int .u8 0), .lit (.int .u8 0)], .agg [.lit (.int .u8 0), .lit (.int .u8 0)], .agg [.lit (.int .u8 0), .lit (.int .u8 0)], .agg [.lit (.int .u8 0), .lit (.int .u8 0)], .agg [.lit (.int .u8 0), .lit (.int .u8 0)], .agg [.lit (.int .u8 0), .lit (.int .u8 0)], .agg [.lit (.int .u8 0), .lit (.int .u8 0)], .agg [.lit (.int .u8 0), .lit (.int .u8 0)], .agg [.lit (.int .u8 0), .lit (.int .u8 0)], .agg [.lit (.int .u8 0), .lit (.int .u8 0)], .agg [.lit (.int .u8 0), .lit (.int .u8 0)]]
def laid_loop_example_g00044_impl_repertoire {H : Type} : DataW H := .agg [.agg [.lit (.int .u16 0), .lit (.int .u16 31), .lit (.int .u8 1), .lit (.int .u8 0)], .agg [.lit (.int .u16 32), .lit (.int .u16 32), .lit (.int .u8 2), .lit (.int .u8 0)], .agg [.lit (.int .u16 33), .lit (.int .u16 47), .lit (.int .u8 9), .lit (.int .u8 0)], .agg [.lit (.int .u16 48), .lit (.int .u16 57), .lit (.int .u8 8), .lit (.int .u8 0)], .agg [.lit (.int .u16 58), .lit (.int .u16 64), .lit (.int .u8 9), .lit (.int .u8 0)], .agg [.lit (.int .u16 65), .lit (.int .u16 90), .lit (.int .u8 4), .lit (.int .u8 1)], .agg [.lit (.int .u16 91), .lit (.int .u16 96), .lit (.int .u8 9), .lit (.int .u8 0)], .agg [.lit (.int .u16 97), .lit (.int .u16 122), .lit (.int .u8 5), .lit (.int .u8 1)], .agg [.lit (.int .u16 123), .lit (.int .u16 126), .lit (.int .u8 9), .lit (.int .u8 0)], .agg [.lit (.int .u16 127), .lit (.int .u16 159), .lit (.int .u8 1), .lit (.int .u8 0)], .agg [.lit (.int .u16 160), .lit (.int .u16 160), .lit (.int .u8 2), .lit (.int .u8 0)], .agg [.lit (.int .u16 161), .lit (.int .u16 172), .lit (.int .u8 10), .lit (.int .u8 0)], .agg [.lit (.int .u16 173), .lit (.int .u16 173), .lit (.int .u8 11), .lit (.int .u8 0)], .agg [.lit (.int .u16 174), .lit (.int .u16 191), .lit (.int .u8 10), .lit (.int .u8 0)], .agg [.lit (.int .u16 512), .lit (.int .u16 543), .lit (.int .u8 4), .lit (.int .u8 2)], .agg [.lit (.int .u16 544), .lit (.int .u16 575), .lit (.int .u8 5), .lit (.int .u8 2)], .agg [.lit (.int .u16 576), .lit (.int .u16 579), .lit (.int .u8 4), .lit (.int .u8 2)], .agg [.lit (.int .u16 580), .lit (.int .u16 583), .lit (.int .u8 6), .lit (.int .u8 2)], .agg [.lit (.int .u16 584), .lit (.int .u16 587), .lit (.int .u8 5), .lit (.int .u8 2)], .agg [.lit (.int .u16 592), .lit (.int .u16 601), .lit (.int .u8 8), .lit (.int .u8 2)], .agg [.lit (.int .u16 608), .lit (.int .u16 609), .lit (.int .u8 5), .lit (.int .u8 2)], .agg [.lit (.int .u16 1280), .lit (.int .u16 1311), .lit (.int .u8 7), .lit (.int .u8 5)], .agg [.lit (.int .u16 1360), .lit (.int .u16 1369), .lit (.int .u8 8), .lit (.int .u8 5)], .agg [.lit (.int .u16 1536), .lit (.int .u16 1567), .lit (.int .u8 7), .lit (.int .u8 6)], .agg [.lit (.int .u16 1568), .lit (.int .u16 1579), .lit (.int .u8 3), .lit (.int .u8 6)], .agg [.lit (.int .u16 1584), .lit (.int .u16 1585), .lit (.int .u8 3), .lit (.int .u8 6)], .agg [.lit (.int .u16 1616), .lit (.int .u16 1625), .lit (.int .u8 8), .lit (.int .u8 6)], .agg [.lit (.int .u16 1792), .lit (.int .u16 1810), .lit (.int .u8 7), .lit (.int .u8 7)], .agg [.lit (.int .u16 1824), .lit (.int .u16 1844), .lit (.int .u8 7), .lit (.int .u8 7)], .agg [.lit (.int .u16 1857), .lit (.int .u16 1883), .lit (.int .u8 7), .lit (.int .u8 7)], .agg [.lit (.int .u16 2048), .lit (.int .u16 2095), .lit (.int .u8 7), .lit (.int .u8 8)], .agg [.lit (.int .u16 4096), .lit (.int .u16 4159), .lit (.int .u8 3), .lit (.int .u8 0)], .agg [.lit (.int .u16 7680), .lit (.int .u16 7748), .lit (.int .u8 10), .lit (.int .u8 0)], .agg [.lit (.int .u16 7760), .lit (.int .u16 7785), .lit (.int .u8 10), .lit (.int .u8 0)], .agg [.lit (.int .u16 7936), .lit (.int .u16 7947), .lit (.int .u8 11), .lit (.int .u8 0)], .agg [.lit (.int .u16 7953), .lit (.int .u16 7954), .lit (.int .u8 11), .lit (.int .u8 0)], .agg [.lit (.int .u16 8064), .lit (.int .u16 8064), .lit (.int .u8 2), .lit (.int .u8 0)], .agg [.lit (.int .u16 8192), .lit (.int .u16 8399), .lit (.int .u8 4), .lit (.int .u8 1)], .agg [.lit (.int .u16 8400), .lit (.int .u16 8607), .lit (.int .u8 5), .lit (.int .u8 1)], .agg [.lit (.int .u16 8704), .lit (.int .u16 8911), .lit (.int .u8 4), .lit (.int .u8 1)], .agg [.lit (.int .u16 8912), .lit (.int .u16 9119), .lit (.int .u8 5), .lit (.int .u8 1)], .agg [.lit (.int .u16 9216), .lit (.int .u16 9423), .lit (.int .u8 4), .lit (.int .u8 1)], .agg [.lit (.int .u16 9424), .lit (.int .u16 9631), .lit (.int .u8 5), .lit (.int .u8 1)], .agg [.lit (.int .u16 9728), .lit (.int .u16 9753), .lit (.int .u8 4), .lit (.int .u8 1)], .agg [.lit (.int .u16 9984), .lit (.int .u16 10009), .lit (.int .u8 10), .lit (.int .u8 0)], .agg [.lit (.int .u16 10016), .lit (.int .u16 10025), .lit (.int .u8 8), .lit (.int .u8 0)], .agg [.lit (.int .u16 10032), .lit (.int .u16 10035), .lit (.int .u8 10), .lit (.int .u8 0)], .agg [.lit (.int .u16 12288), .lit (.int .u16 23459), .lit (.int .u8 7), .lit (.int .u8 7)], .agg [.lit (.int .u16 24576), .lit (.int .u16 26623), .lit (.int .u8 7), .lit (.int .u8 9)]]
/-- One of Go's own tables, pinned by name: the form's constant. -/
def laid_unicode_utf8_first : DataW Unit := Go.Pinned.utf8First

/-- 'laws.FnJustified': WHATEVER THE INPUT: true; the input reads as it did. -/
def fnJustifiedSpec : ChangeSpec := { name := "fnJustified", vars := ["loop.example/g00044/impl.repertoire"], fn := fun _ => fun
  | [d, g1] => { results := [.lit (.bool true)], args := [d], vars := [g1] }
  | _ => none }
def fnJustifiedRow : OpenClaim := { program := "ytbaedapnikhdgaagreatdoor", sum := "42fd79cee42fd363235af095b2328a5aa010ec3681fe3b127368b224803fc513", func := "loop.example/g00044/laws.FnJustified", spec := "fnJustified", inPlace := ["internal/bytealg.IndexByteString", "internal/bytealg.IndexString", "internal/abi.NoEscape", "internal/bytealg.MakeNoZero"], unfollowed := true, recurses := true, named := ["unicode/utf8.first", "unicode/utf8.acceptRanges", "loop.example/g00044/impl.repertoire", "internal/bytealg.MaxLen"], apart := false, laid := [("unicode/utf8.acceptRanges", laid_unicode_utf8_acceptRanges), ("loop.example/g00044/impl.repertoire", laid_loop_example_g00044_impl_repertoire), ("unicode/utf8.first", laid_unicode_utf8_first)] }
def FnJustifiedSaid : Prop := fnJustifiedRow.holds Tryz.pinned (OpenSpec.ofChange fnJustifiedSpec)

/-- ITS FALSE NEIGHBOUR: 'it returns false'. Refute it at one input. -/
def fnJustifiedWrong : ChangeSpec := { name := "fnJustified", vars := ["loop.example/g00044/impl.repertoire"], fn := fun _ => fun
  | [d, g1] => { results := [.lit (.bool false)], args := [d], vars := [g1] }
  | _ => none }
def FnJustifiedWrongFalsely : Prop := fnJustifiedRow.holds Tryz.pinned (OpenSpec.ofChange fnJustifiedWrong)

/- THE SECOND FORM. 'bulk': how many values and letters a reading holds, each counted each time it is reached (what is shared counts as often as it is met; a slice's spare places count too). A statement '..UptoSaid' is the law's where the arguments, and the package variables that the reading takes, are together of bulk at most 1048576: NARROWER than '..Said'. Prove '..Said' where nothing that the law and all that it calls make is longer than what came in: it says more and counts as full. Else prove '..UptoSaid'. A law counts once. -/
mutual
def uptoBulk {H : Type} : DataW H → Nat
  | .lit (.string bytes) => bytes.length + 1
  | .lit _ => 1
  | .nil => 1
  | .ptr d => uptoBulk d + 1
  | .slice elems spare => uptoBulkAll elems + uptoBulkAll spare + 1
  | .agg parts => uptoBulkAll parts + 1
  | .iface _ d => uptoBulk d + 1
  | .map entries => uptoBulkEntries entries + 1
  | .held _ => 1
def uptoBulkAll {H : Type} : List (DataW H) → Nat
  | [] => 0
  | d :: r => uptoBulk d + uptoBulkAll r
def uptoBulkEntries {H : Type} : List (Lit × DataW H) → Nat
  | [] => 0
  | x :: r => uptoBulkEntry x + uptoBulkEntries r
def uptoBulkEntry {H : Type} : Lit × DataW H → Nat
  | (.string bytes, d) => bytes.length + uptoBulk d + 1
  | (_, d) => uptoBulk d + 1
 end
def uptoSmall : (H : Type) → List (DataW H) → Bool := fun _ ds => decide (uptoBulkAll ds ≤ 1048576)
def OpenSpec.upto (s : _root_.Go.ChangeSpec) : _root_.Go.OpenSpec := { _root_.Go.OpenSpec.ofChange s with cond := some uptoSmall }

/-- 'laws.FnJustified', WHERE WHAT IT READS IS OF BULK AT MOST 1048576: true; the input reads as it did. -/
def fnJustifiedUptoRow : OpenClaim := { program := "ytbaedapnikhdgaagreatdoor", sum := "42fd79cee42fd363235af095b2328a5aa010ec3681fe3b127368b224803fc513", func := "loop.example/g00044/laws.FnJustified", spec := "fnJustified", inPlace := ["internal/bytealg.IndexByteString", "internal/bytealg.IndexString", "internal/abi.NoEscape", "internal/bytealg.MakeNoZero"], unfollowed := true, recurses := true, named := ["unicode/utf8.first", "unicode/utf8.acceptRanges", "loop.example/g00044/impl.repertoire", "internal/bytealg.MaxLen"], apart := false, laid := [("unicode/utf8.acceptRanges", laid_unicode_utf8_acceptRanges), ("loop.example/g00044/impl.repertoire", laid_loop_example_g00044_impl_repertoire), ("unicode/utf8.first", laid_unicode_utf8_first)], narrowed := true }
def FnJustifiedUptoSaid : Prop := fnJustifiedUptoRow.holds Tryz.pinned (OpenSpec.upto fnJustifiedSpec)

end Rows
end Go.Proofs.YtbaedapnikhdgaaGreatDoor
