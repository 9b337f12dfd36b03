/-
  No cell of these rows narrows 'for every input' (looked for: loops, veiled, ifaces, maps, wideKeys, modest, calm, conditions, laid).
  DERIVED. THE GIVEN ROWS OF THIS SEAT. 6 by the template 'for every input the law returns true; each argument reads behind the call as it read before'; 0 by the template 'total and deterministic' (their statements: YtllpmfeebkjeoaaTotals.lean).
  GIVEN WITH THE SEED: the statements are not yours to turn. If you find one false, say at which input.
  Laid BY PROGRAM, IN A SANDBOX (cutbox-rows.mjs): the forced cells as the released guide's own fill.sh prints them over the translation 962a18cab8b4b222… (all of the seat's roots in one cut). By AI agents, Wed Nov 11 2026. No macro, syntax, notation, axiom, sorry.
-/
import Derived.Test.YtllpmfeebkjeoaaChecked
import GoSem.Claim
import GoSem.ClaimJoined
import GoSem.ClaimMapViews
import Derived.JoinedTies
import Derived.KernelRfl
namespace Go.Proofs.Ytllpmfeebkjeoaa
/- THE CELL 'sum', in the pinned program and in every row, IS THE sha256 OF THE DUMP (.gsa) THAT YtllpmfeebkjeoaaProg.lean LOADS. Nothing in Lean hashes anything: it is a label: what it is worth is what the hold of that sum in a sandbox is worth. -/
noncomputable def Try.pinned : Pinned := { name := "ytllpmfeebkjeoaa", sum := "962a18cab8b4b222d875a6bfafd5df12175b4cbb8d0debf1145cf3d9bedfeb94", checked := Try.checked }
namespace Rows
def none {H : Type} : Left H := { results := [], args := [] }

/-- 'laws.FnExactDecompose': WHATEVER THE INPUT: true; the input reads as it did. -/
def fnExactDecomposeSpec : ChangeSpec := { name := "fnExactDecompose", fn := fun _ => fun
  | [d1, d2] => { results := [.lit (.bool true)], args := [d1, d2] }
  | _ => none }
def fnExactDecomposeRow : OpenClaim := { program := "ytllpmfeebkjeoaa", sum := "962a18cab8b4b222d875a6bfafd5df12175b4cbb8d0debf1145cf3d9bedfeb94", func := "loop.example/g00044/laws.FnExactDecompose", spec := "fnExactDecompose", unfollowed := true, recurses := true, plainKeys := false, apart := false }
def FnExactDecomposeSaid : Prop := fnExactDecomposeRow.holds Try.pinned (OpenSpec.ofChange fnExactDecomposeSpec)

/-- ITS FALSE NEIGHBOUR: 'it returns false'. Refute it at one input. -/
def fnExactDecomposeWrong : ChangeSpec := { name := "fnExactDecompose", fn := fun _ => fun
  | [d1, d2] => { results := [.lit (.bool false)], args := [d1, d2] }
  | _ => none }
def FnExactDecomposeWrongFalsely : Prop := fnExactDecomposeRow.holds Try.pinned (OpenSpec.ofChange fnExactDecomposeWrong)

/-- 'laws.FnExactCompose': WHATEVER THE INPUT: true; the input reads as it did. -/
def fnExactComposeSpec : ChangeSpec := { name := "fnExactCompose", fn := fun _ => fun
  | [d1, d2] => { results := [.lit (.bool true)], args := [d1, d2] }
  | _ => none }
def fnExactComposeRow : OpenClaim := { program := "ytllpmfeebkjeoaa", sum := "962a18cab8b4b222d875a6bfafd5df12175b4cbb8d0debf1145cf3d9bedfeb94", func := "loop.example/g00044/laws.FnExactCompose", spec := "fnExactCompose", unfollowed := true, recurses := true, plainKeys := false, apart := false }
def FnExactComposeSaid : Prop := fnExactComposeRow.holds Try.pinned (OpenSpec.ofChange fnExactComposeSpec)

/-- ITS FALSE NEIGHBOUR: 'it returns false'. Refute it at one input. -/
def fnExactComposeWrong : ChangeSpec := { name := "fnExactCompose", fn := fun _ => fun
  | [d1, d2] => { results := [.lit (.bool false)], args := [d1, d2] }
  | _ => none }
def FnExactComposeWrongFalsely : Prop := fnExactComposeRow.holds Try.pinned (OpenSpec.ofChange fnExactComposeWrong)

/-- 'laws.FnExactNormalize': WHATEVER THE INPUT: true; the input reads as it did. -/
def fnExactNormalizeSpec : ChangeSpec := { name := "fnExactNormalize", fn := fun _ => fun
  | [d1, d2] => { results := [.lit (.bool true)], args := [d1, d2] }
  | _ => none }
def fnExactNormalizeRow : OpenClaim := { program := "ytllpmfeebkjeoaa", sum := "962a18cab8b4b222d875a6bfafd5df12175b4cbb8d0debf1145cf3d9bedfeb94", func := "loop.example/g00044/laws.FnExactNormalize", spec := "fnExactNormalize", unfollowed := true, recurses := true, plainKeys := false, apart := false }
def FnExactNormalizeSaid : Prop := fnExactNormalizeRow.holds Try.pinned (OpenSpec.ofChange fnExactNormalizeSpec)

/-- ITS FALSE NEIGHBOUR: 'it returns false'. Refute it at one input. -/
def fnExactNormalizeWrong : ChangeSpec := { name := "fnExactNormalize", fn := fun _ => fun
  | [d1, d2] => { results := [.lit (.bool false)], args := [d1, d2] }
  | _ => none }
def FnExactNormalizeWrongFalsely : Prop := fnExactNormalizeRow.holds Try.pinned (OpenSpec.ofChange fnExactNormalizeWrong)

/-- 'laws.FnExactIsNormal': WHATEVER THE INPUT: true; the input reads as it did. -/
def fnExactIsNormalSpec : ChangeSpec := { name := "fnExactIsNormal", fn := fun _ => fun
  | [d1, d2] => { results := [.lit (.bool true)], args := [d1, d2] }
  | _ => none }
def fnExactIsNormalRow : OpenClaim := { program := "ytllpmfeebkjeoaa", sum := "962a18cab8b4b222d875a6bfafd5df12175b4cbb8d0debf1145cf3d9bedfeb94", func := "loop.example/g00044/laws.FnExactIsNormal", spec := "fnExactIsNormal", unfollowed := true, recurses := true, plainKeys := false, apart := false }
def FnExactIsNormalSaid : Prop := fnExactIsNormalRow.holds Try.pinned (OpenSpec.ofChange fnExactIsNormalSpec)

/-- ITS FALSE NEIGHBOUR: 'it returns false'. Refute it at one input. -/
def fnExactIsNormalWrong : ChangeSpec := { name := "fnExactIsNormal", fn := fun _ => fun
  | [d1, d2] => { results := [.lit (.bool false)], args := [d1, d2] }
  | _ => none }
def FnExactIsNormalWrongFalsely : Prop := fnExactIsNormalRow.holds Try.pinned (OpenSpec.ofChange fnExactIsNormalWrong)

/-- 'laws.FnExactJoinNormal': WHATEVER THE INPUT: true; the input reads as it did. -/
def fnExactJoinNormalSpec : ChangeSpec := { name := "fnExactJoinNormal", fn := fun _ => fun
  | [d1, d2, d3] => { results := [.lit (.bool true)], args := [d1, d2, d3] }
  | _ => none }
def fnExactJoinNormalRow : OpenClaim := { program := "ytllpmfeebkjeoaa", sum := "962a18cab8b4b222d875a6bfafd5df12175b4cbb8d0debf1145cf3d9bedfeb94", func := "loop.example/g00044/laws.FnExactJoinNormal", spec := "fnExactJoinNormal", unfollowed := true, recurses := true, plainKeys := false, apart := false }
def FnExactJoinNormalSaid : Prop := fnExactJoinNormalRow.holds Try.pinned (OpenSpec.ofChange fnExactJoinNormalSpec)

/-- ITS FALSE NEIGHBOUR: 'it returns false'. Refute it at one input. -/
def fnExactJoinNormalWrong : ChangeSpec := { name := "fnExactJoinNormal", fn := fun _ => fun
  | [d1, d2, d3] => { results := [.lit (.bool false)], args := [d1, d2, d3] }
  | _ => none }
def FnExactJoinNormalWrongFalsely : Prop := fnExactJoinNormalRow.holds Try.pinned (OpenSpec.ofChange fnExactJoinNormalWrong)

/-- 'laws.FnExactEquivalent': WHATEVER THE INPUT: true; the input reads as it did. -/
def fnExactEquivalentSpec : ChangeSpec := { name := "fnExactEquivalent", fn := fun _ => fun
  | [d1, d2] => { results := [.lit (.bool true)], args := [d1, d2] }
  | _ => none }
def fnExactEquivalentRow : OpenClaim := { program := "ytllpmfeebkjeoaa", sum := "962a18cab8b4b222d875a6bfafd5df12175b4cbb8d0debf1145cf3d9bedfeb94", func := "loop.example/g00044/laws.FnExactEquivalent", spec := "fnExactEquivalent", unfollowed := true, recurses := true, plainKeys := false, apart := false }
def FnExactEquivalentSaid : Prop := fnExactEquivalentRow.holds Try.pinned (OpenSpec.ofChange fnExactEquivalentSpec)

/-- ITS FALSE NEIGHBOUR: 'it returns false'. Refute it at one input. -/
def fnExactEquivalentWrong : ChangeSpec := { name := "fnExactEquivalent", fn := fun _ => fun
  | [d1, d2] => { results := [.lit (.bool false)], args := [d1, d2] }
  | _ => none }
def FnExactEquivalentWrongFalsely : Prop := fnExactEquivalentRow.holds Try.pinned (OpenSpec.ofChange fnExactEquivalentWrong)

/- THE SECOND FORM. 'bulk': how many values and letters a reading holds, each counted each time it is reached (what is shared counts as often as it is met; a slice's spare places count too). A statement '..UptoSaid' is the law's where the arguments, and the package variables that the reading takes, are together of bulk at most 1048576: NARROWER than '..Said'. Prove '..Said' where nothing that the law and all that it calls make is longer than what came in: it says more and counts as full. Else prove '..UptoSaid'. A law counts once. -/
mutual
def uptoBulk {H : Type} : DataW H → Nat
  | .lit (.string bytes) => bytes.length + 1
  | .lit _ => 1
  | .nil => 1
  | .ptr d => uptoBulk d + 1
  | .slice elems spare => uptoBulkAll elems + uptoBulkAll spare + 1
  | .agg parts => uptoBulkAll parts + 1
  | .iface _ d => uptoBulk d + 1
  | .map entries => uptoBulkEntries entries + 1
  | .held _ => 1
def uptoBulkAll {H : Type} : List (DataW H) → Nat
  | [] => 0
  | d :: r => uptoBulk d + uptoBulkAll r
def uptoBulkEntries {H : Type} : List (Lit × DataW H) → Nat
  | [] => 0
  | x :: r => uptoBulkEntry x + uptoBulkEntries r
def uptoBulkEntry {H : Type} : Lit × DataW H → Nat
  | (.string bytes, d) => bytes.length + uptoBulk d + 1
  | (_, d) => uptoBulk d + 1
 end
def uptoSmall : (H : Type) → List (DataW H) → Bool := fun _ ds => decide (uptoBulkAll ds ≤ 1048576)
def OpenSpec.upto (s : _root_.Go.ChangeSpec) : _root_.Go.OpenSpec := { _root_.Go.OpenSpec.ofChange s with cond := some uptoSmall }

/-- 'laws.FnExactDecompose', WHERE WHAT IT READS IS OF BULK AT MOST 1048576: true; the input reads as it did. -/
def fnExactDecomposeUptoRow : OpenClaim := { program := "ytllpmfeebkjeoaa", sum := "962a18cab8b4b222d875a6bfafd5df12175b4cbb8d0debf1145cf3d9bedfeb94", func := "loop.example/g00044/laws.FnExactDecompose", spec := "fnExactDecompose", unfollowed := true, recurses := true, plainKeys := false, apart := false, narrowed := true }
def FnExactDecomposeUptoSaid : Prop := fnExactDecomposeUptoRow.holds Try.pinned (OpenSpec.upto fnExactDecomposeSpec)

/-- 'laws.FnExactCompose', WHERE WHAT IT READS IS OF BULK AT MOST 1048576: true; the input reads as it did. -/
def fnExactComposeUptoRow : OpenClaim := { program := "ytllpmfeebkjeoaa", sum := "962a18cab8b4b222d875a6bfafd5df12175b4cbb8d0debf1145cf3d9bedfeb94", func := "loop.example/g00044/laws.FnExactCompose", spec := "fnExactCompose", unfollowed := true, recurses := true, plainKeys := false, apart := false, narrowed := true }
def FnExactComposeUptoSaid : Prop := fnExactComposeUptoRow.holds Try.pinned (OpenSpec.upto fnExactComposeSpec)

/-- 'laws.FnExactNormalize', WHERE WHAT IT READS IS OF BULK AT MOST 1048576: true; the input reads as it did. -/
def fnExactNormalizeUptoRow : OpenClaim := { program := "ytllpmfeebkjeoaa", sum := "962a18cab8b4b222d875a6bfafd5df12175b4cbb8d0debf1145cf3d9bedfeb94", func := "loop.example/g00044/laws.FnExactNormalize", spec := "fnExactNormalize", unfollowed := true, recurses := true, plainKeys := false, apart := false, narrowed := true }
def FnExactNormalizeUptoSaid : Prop := fnExactNormalizeUptoRow.holds Try.pinned (OpenSpec.upto fnExactNormalizeSpec)

/-- 'laws.FnExactIsNormal', WHERE WHAT IT READS IS OF BULK AT MOST 1048576: true; the input reads as it did. -/
def fnExactIsNormalUptoRow : OpenClaim := { program := "ytllpmfeebkjeoaa", sum := "962a18cab8b4b222d875a6bfafd5df12175b4cbb8d0debf1145cf3d9bedfeb94", func := "loop.example/g00044/laws.FnExactIsNormal", spec := "fnExactIsNormal", unfollowed := true, recurses := true, plainKeys := false, apart := false, narrowed := true }
def FnExactIsNormalUptoSaid : Prop := fnExactIsNormalUptoRow.holds Try.pinned (OpenSpec.upto fnExactIsNormalSpec)

/-- 'laws.FnExactJoinNormal', WHERE WHAT IT READS IS OF BULK AT MOST 1048576: true; the input reads as it did. -/
def fnExactJoinNormalUptoRow : OpenClaim := { program := "ytllpmfeebkjeoaa", sum := "962a18cab8b4b222d875a6bfafd5df12175b4cbb8d0debf1145cf3d9bedfeb94", func := "loop.example/g00044/laws.FnExactJoinNormal", spec := "fnExactJoinNormal", unfollowed := true, recurses := true, plainKeys := false, apart := false, narrowed := true }
def FnExactJoinNormalUptoSaid : Prop := fnExactJoinNormalUptoRow.holds Try.pinned (OpenSpec.upto fnExactJoinNormalSpec)

/-- 'laws.FnExactEquivalent', WHERE WHAT IT READS IS OF BULK AT MOST 1048576: true; the input reads as it did. -/
def fnExactEquivalentUptoRow : OpenClaim := { program := "ytllpmfeebkjeoaa", sum := "962a18cab8b4b222d875a6bfafd5df12175b4cbb8d0debf1145cf3d9bedfeb94", func := "loop.example/g00044/laws.FnExactEquivalent", spec := "fnExactEquivalent", unfollowed := true, recurses := true, plainKeys := false, apart := false, narrowed := true }
def FnExactEquivalentUptoSaid : Prop := fnExactEquivalentUptoRow.holds Try.pinned (OpenSpec.upto fnExactEquivalentSpec)

end Rows
end Go.Proofs.Ytllpmfeebkjeoaa
