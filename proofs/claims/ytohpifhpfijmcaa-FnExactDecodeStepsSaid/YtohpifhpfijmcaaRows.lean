/-
  No cell of these rows narrows 'for every input' (looked for: loops, veiled, ifaces, maps, wideKeys, modest, calm, conditions, laid).
  DERIVED. THE GIVEN ROWS OF THIS SEAT. 3 by the template 'for every input the law returns true; each argument reads behind the call as it read before'; 0 by the template 'total and deterministic' (their statements: YtohpifhpfijmcaaTotals.lean).
  GIVEN WITH THE SEED: the statements are not yours to turn. If you find one false, say at which input.
  Laid BY PROGRAM, IN A SANDBOX (cutbox-rows.mjs): the forced cells as the released guide's own fill.sh prints them over the translation cbcc0670cc034722… (all of the seat's roots in one cut). By AI agents, Wed Nov 11 2026. No macro, syntax, notation, axiom, sorry.
-/
import Derived.Test.YtohpifhpfijmcaaChecked
import GoSem.Claim
import GoSem.ClaimJoined
import GoSem.ClaimMapViews
import Derived.JoinedTies
import Derived.KernelRfl
namespace Go.Proofs.Ytohpifhpfijmcaa
/- THE CELL 'sum', in the pinned program and in every row, IS THE sha256 OF THE DUMP (.gsa) THAT YtohpifhpfijmcaaProg.lean LOADS. Nothing in Lean hashes anything: it is a label: what it is worth is what the hold of that sum in a sandbox is worth. -/
noncomputable def Try.pinned : Pinned := { name := "ytohpifhpfijmcaa", sum := "cbcc0670cc034722d2a9a451db32c9fb04242ad4bb72e0d2f48164168ab975da", checked := Try.checked }
namespace Rows
def none {H : Type} : Left H := { results := [], args := [] }

/-- 'laws.FnExactFeedDecoder': WHATEVER THE INPUT: true; the input reads as it did. -/
def fnExactFeedDecoderSpec : ChangeSpec := { name := "fnExactFeedDecoder", fn := fun _ => fun
  | [d1, d2] => { results := [.lit (.bool true)], args := [d1, d2] }
  | _ => none }
def fnExactFeedDecoderRow : OpenClaim := { program := "ytohpifhpfijmcaa", sum := "cbcc0670cc034722d2a9a451db32c9fb04242ad4bb72e0d2f48164168ab975da", func := "loop.example/g00044/laws.FnExactFeedDecoder", spec := "fnExactFeedDecoder", unfollowed := true, recurses := true, apart := false }
def FnExactFeedDecoderSaid : Prop := fnExactFeedDecoderRow.holds Try.pinned (OpenSpec.ofChange fnExactFeedDecoderSpec)

/-- ITS FALSE NEIGHBOUR: 'it returns false'. Refute it at one input. -/
def fnExactFeedDecoderWrong : ChangeSpec := { name := "fnExactFeedDecoder", fn := fun _ => fun
  | [d1, d2] => { results := [.lit (.bool false)], args := [d1, d2] }
  | _ => none }
def FnExactFeedDecoderWrongFalsely : Prop := fnExactFeedDecoderRow.holds Try.pinned (OpenSpec.ofChange fnExactFeedDecoderWrong)

/-- 'laws.FnExactEncodeSteps': WHATEVER THE INPUT: true; the input reads as it did. -/
def fnExactEncodeStepsSpec : ChangeSpec := { name := "fnExactEncodeSteps", fn := fun _ => fun
  | [d] => { results := [.lit (.bool true)], args := [d] }
  | _ => none }
def fnExactEncodeStepsRow : OpenClaim := { program := "ytohpifhpfijmcaa", sum := "cbcc0670cc034722d2a9a451db32c9fb04242ad4bb72e0d2f48164168ab975da", func := "loop.example/g00044/laws.FnExactEncodeSteps", spec := "fnExactEncodeSteps", apart := false }
def FnExactEncodeStepsSaid : Prop := fnExactEncodeStepsRow.holds Try.pinned (OpenSpec.ofChange fnExactEncodeStepsSpec)

/-- ITS FALSE NEIGHBOUR: 'it returns false'. Refute it at one input. -/
def fnExactEncodeStepsWrong : ChangeSpec := { name := "fnExactEncodeSteps", fn := fun _ => fun
  | [d] => { results := [.lit (.bool false)], args := [d] }
  | _ => none }
def FnExactEncodeStepsWrongFalsely : Prop := fnExactEncodeStepsRow.holds Try.pinned (OpenSpec.ofChange fnExactEncodeStepsWrong)

/-- 'laws.FnExactDecodeSteps': WHATEVER THE INPUT: true; the input reads as it did. -/
def fnExactDecodeStepsSpec : ChangeSpec := { name := "fnExactDecodeSteps", fn := fun _ => fun
  | [d] => { results := [.lit (.bool true)], args := [d] }
  | _ => none }
def fnExactDecodeStepsRow : OpenClaim := { program := "ytohpifhpfijmcaa", sum := "cbcc0670cc034722d2a9a451db32c9fb04242ad4bb72e0d2f48164168ab975da", func := "loop.example/g00044/laws.FnExactDecodeSteps", spec := "fnExactDecodeSteps", apart := false }
def FnExactDecodeStepsSaid : Prop := fnExactDecodeStepsRow.holds Try.pinned (OpenSpec.ofChange fnExactDecodeStepsSpec)

/-- ITS FALSE NEIGHBOUR: 'it returns false'. Refute it at one input. -/
def fnExactDecodeStepsWrong : ChangeSpec := { name := "fnExactDecodeSteps", fn := fun _ => fun
  | [d] => { results := [.lit (.bool false)], args := [d] }
  | _ => none }
def FnExactDecodeStepsWrongFalsely : Prop := fnExactDecodeStepsRow.holds Try.pinned (OpenSpec.ofChange fnExactDecodeStepsWrong)

/- THE SECOND FORM. 'bulk': how many values and letters a reading holds, each counted each time it is reached (what is shared counts as often as it is met; a slice's spare places count too). A statement '..UptoSaid' is the law's where the arguments, and the package variables that the reading takes, are together of bulk at most 1048576: NARROWER than '..Said'. Prove '..Said' where nothing that the law and all that it calls make is longer than what came in: it says more and counts as full. Else prove '..UptoSaid'. A law counts once. -/
mutual
def uptoBulk {H : Type} : DataW H → Nat
  | .lit (.string bytes) => bytes.length + 1
  | .lit _ => 1
  | .nil => 1
  | .ptr d => uptoBulk d + 1
  | .slice elems spare => uptoBulkAll elems + uptoBulkAll spare + 1
  | .agg parts => uptoBulkAll parts + 1
  | .iface _ d => uptoBulk d + 1
  | .map entries => uptoBulkEntries entries + 1
  | .held _ => 1
def uptoBulkAll {H : Type} : List (DataW H) → Nat
  | [] => 0
  | d :: r => uptoBulk d + uptoBulkAll r
def uptoBulkEntries {H : Type} : List (Lit × DataW H) → Nat
  | [] => 0
  | x :: r => uptoBulkEntry x + uptoBulkEntries r
def uptoBulkEntry {H : Type} : Lit × DataW H → Nat
  | (.string bytes, d) => bytes.length + uptoBulk d + 1
  | (_, d) => uptoBulk d + 1
 end
def uptoSmall : (H : Type) → List (DataW H) → Bool := fun _ ds => decide (uptoBulkAll ds ≤ 1048576)
def OpenSpec.upto (s : _root_.Go.ChangeSpec) : _root_.Go.OpenSpec := { _root_.Go.OpenSpec.ofChange s with cond := some uptoSmall }

/-- 'laws.FnExactFeedDecoder', WHERE WHAT IT READS IS OF BULK AT MOST 1048576: true; the input reads as it did. -/
def fnExactFeedDecoderUptoRow : OpenClaim := { program := "ytohpifhpfijmcaa", sum := "cbcc0670cc034722d2a9a451db32c9fb04242ad4bb72e0d2f48164168ab975da", func := "loop.example/g00044/laws.FnExactFeedDecoder", spec := "fnExactFeedDecoder", unfollowed := true, recurses := true, apart := false, narrowed := true }
def FnExactFeedDecoderUptoSaid : Prop := fnExactFeedDecoderUptoRow.holds Try.pinned (OpenSpec.upto fnExactFeedDecoderSpec)

/-- 'laws.FnExactEncodeSteps', WHERE WHAT IT READS IS OF BULK AT MOST 1048576: true; the input reads as it did. -/
def fnExactEncodeStepsUptoRow : OpenClaim := { program := "ytohpifhpfijmcaa", sum := "cbcc0670cc034722d2a9a451db32c9fb04242ad4bb72e0d2f48164168ab975da", func := "loop.example/g00044/laws.FnExactEncodeSteps", spec := "fnExactEncodeSteps", apart := false, narrowed := true }
def FnExactEncodeStepsUptoSaid : Prop := fnExactEncodeStepsUptoRow.holds Try.pinned (OpenSpec.upto fnExactEncodeStepsSpec)

/-- 'laws.FnExactDecodeSteps', WHERE WHAT IT READS IS OF BULK AT MOST 1048576: true; the input reads as it did. -/
def fnExactDecodeStepsUptoRow : OpenClaim := { program := "ytohpifhpfijmcaa", sum := "cbcc0670cc034722d2a9a451db32c9fb04242ad4bb72e0d2f48164168ab975da", func := "loop.example/g00044/laws.FnExactDecodeSteps", spec := "fnExactDecodeSteps", apart := false, narrowed := true }
def FnExactDecodeStepsUptoSaid : Prop := fnExactDecodeStepsUptoRow.holds Try.pinned (OpenSpec.upto fnExactDecodeStepsSpec)

end Rows
end Go.Proofs.Ytohpifhpfijmcaa
