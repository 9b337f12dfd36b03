/- For every trie the law FnExactTrieSpans returns true: impl.TrieSpans answers as spec.TrieSpans, writes into no argument, keeps nothing of one, and its answer owns its memory; no condition. The frame is the guide's shell; the walks are ours. -/
import Derived.Test.YtnaebifmnhgjiaaRows
import Derived.Test.YtnaebifmnhgjiaaSpnO
import Derived.Test.YtnaebifmnhgjiaaSpbL
namespace Go.Proofs.Ytnaebifmnhgjiaa.fnExactTrieSpans
open Go.ChangeShapes Go.WideShapes Go.ChangeAt Go.RowKit
set_option linter.unusedVariables false
theorem own : ownKnob Try.prog.godebug = none := by kernel_rfl
theorem laidOut : laidOutB Try.prog = true := by kernel_rfl
set_option maxRecDepth 100000 in
theorem lifted (os : Os) (started : os.Started) (H : Type) (enc : TypeId × Value → H) :
    ReturnsInHanded {} Try.checked os 7 .any (Rows.fnExactTrieSpansSpec.pre6 enc Try.prog Try.f7 Rows.fnExactTrieSpansRow.domain false) (Rows.fnExactTrieSpansSpec.post enc Try.prog Try.f7 false true false false) := by
  refine returnsInHanded_of_change (C := Try.checked) own started (by kernel_rfl) Try.func7
    (ChangeSpec.witness6 (enc := enc) (C := Try.checked) false ⟨#[], #[.agg #[.slice none 0 0, .slice none 0 0]], []⟩ 8 (by kernel_rfl) (by kernel_rfl) (by kernel_rfl) (by kernel_rfl)) ?_
  intro W base args ds gs before hval0 hW hcnd _
  have hval : ∀ (j : Nat) t v, Try.f7.params[j]? = some t → args[j]? = some v → Value.okWide Try.prog W .any base t v := hval0
  have hW' := hW
  obtain ⟨p, q, hA0, hV, rfl, hfz, hnd⟩ := hW
  have hA : DataW.TrodAll enc Try.prog W 0 (fun _ => true) true Try.f7.params.toList args.toList ds p := hA0
  rw [Try.params7] at hA hval
  obtain ⟨v0, vs0, d0, ds0, p0, q0, hargs, rfl, rfl, h0, r0⟩ := trodAll_cons hA
  obtain ⟨rfl, rfl, rfl⟩ := trodAll_nil r0
  obtain rfl : args = #[v0] := by cases args; simp_all
  obtain ⟨rfl, rfl⟩ := trodVars_none hV
  have lt0 : ∀ x ∈ p0, x.block < W.heap.size := by obtain ⟨m, hm⟩ := h0; exact DataW.trod_lt m _ _ _ hm
  obtain ⟨vi0, vd0, ix0, dt0, hv0, si0, sd0, mi0, md0⟩ := open_trie (hval 0 37 v0 rfl rfl) h0
  subst hv0
  clear hA0 hval0
  refine (lawTrieSpans vi0 vd0 ix0 dt0 W si0 sd0 mi0 md0).mono fun e W' ⟨he, bel⟩ => ?_
  subst he
  exact ⟨_, rfl, _, _, _, [], _, [], hW', trodAll_mk1 (shut_bool Try.underlying4 _), (trodAll_cons_mk (Below.trod laidOut (by kernel_rfl) (of_decide_eq_true (by kernel_rfl)) h0 bel lt0) trodAll_mk0), rfl, bel.frame _, fun h => by cases h⟩
theorem over : Rows.fnExactTrieSpansRow.holds Try.pinned (OpenSpec.ofChange Rows.fnExactTrieSpansSpec) :=
  OpenClaim.holds_of_wide 7 Try.f7 rfl rfl rfl rfl rfl rfl rfl ⟨rfl, rfl, rfl, rfl, rfl⟩ rfl rfl rfl rfl rfl (by kernel_rfl) Try.func7 (by kernel_rfl)
    (of_decide_eq_true (by kernel_rfl)) (by unfold Func.isWrapper; first | (rw [if_pos (by decide +kernel)]; kernel_rfl) | (rw [if_neg (by decide +kernel)]; exact ⟨rfl, rfl⟩))
    (fun os started H enc _ => lifted os started H enc)
theorem proved : Rows.FnExactTrieSpansSaid := over
end Go.Proofs.Ytnaebifmnhgjiaa.fnExactTrieSpans
namespace Go.Proofs.Ytnaebifmnhgjiaa
theorem fnExactTrieSpans_holds : Rows.FnExactTrieSpansSaid := fnExactTrieSpans.proved
#print axioms fnExactTrieSpans_holds
end Go.Proofs.Ytnaebifmnhgjiaa
