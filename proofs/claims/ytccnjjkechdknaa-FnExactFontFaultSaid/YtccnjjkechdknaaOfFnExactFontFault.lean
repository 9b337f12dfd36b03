/- For every font the law FnExactFontFault returns true: FontFault answers as its model and writes into no argument. No condition. -/
import Derived.Test.YtccnjjkechdknaaRows
import Derived.Test.YtccnjjkechdknaaFntO
import Derived.Test.YtccnjjkechdknaaFntL
namespace Go.Proofs.Ytccnjjkechdknaa.fnExactFontFault
open Go.ChangeShapes Go.WideShapes Go.ChangeAt Go.RowKit
set_option linter.unusedVariables false
theorem own : ownKnob Try.prog.godebug = none := by kernel_rfl
theorem laidOut : laidOutB Try.prog = true := by kernel_rfl
set_option maxRecDepth 100000 in
theorem lifted (os : Os) (started : os.Started) (H : Type) (enc : TypeId × Value → H) :
    ReturnsInHanded {} Try.checked os 3 .any (Rows.fnExactFontFaultSpec.pre6 enc Try.prog Try.f3 Rows.fnExactFontFaultRow.domain false) (Rows.fnExactFontFaultSpec.post enc Try.prog Try.f3 false true false false) := by
  refine returnsInHanded_of_change (C := Try.checked) own started (by kernel_rfl) Try.func3
    (ChangeSpec.witness6 (enc := enc) (C := Try.checked) false ⟨#[], #[.agg #[.int .i64 0, .slice none 0 0, .slice none 0 0, .slice none 0 0, .slice none 0 0]], []⟩ 8 (by kernel_rfl) (by kernel_rfl) (by kernel_rfl) (by kernel_rfl)) ?_
  intro W base args ds gs before hval0 hW hcnd _
  have hval : ∀ (j : Nat) t v, Try.f3.params[j]? = some t → args[j]? = some v → Value.okWide Try.prog W .any base t v := hval0
  have hW' := hW
  obtain ⟨p, q, hA0, hV, rfl, hfz, hnd⟩ := hW
  have hA : DataW.TrodAll enc Try.prog W 0 (fun _ => true) true Try.f3.params.toList args.toList ds p := hA0
  rw [Try.params3] at hA hval
  obtain ⟨v0, vs0, d0, ds0, p0, q0, hargs, rfl, rfl, h0, r0⟩ := trodAll_cons hA
  obtain ⟨rfl, rfl, rfl⟩ := trodAll_nil r0
  obtain rfl : args = #[v0] := by cases args; simp_all
  obtain ⟨rfl, rfl⟩ := trodVars_none hV
  have lt0 : ∀ x ∈ p0, x.block < W.heap.size := by obtain ⟨m, hm⟩ := h0; exact DataW.trod_lt m _ _ _ hm
  obtain ⟨wd, a1, a2, a3, a4, c1, c2, c3, c4, LW, n, Q, LK, LA, hv0, s1, s2, s3, s4, m1, m2, m5, m3, m4⟩ := Fnt.open_font (hval 0 26 v0 rfl rfl) h0
  subst hv0
  clear hA0 hval0
  refine (Fnt.lawFF wd a1 a2 a3 a4 c1 c2 c3 c4 LW n Q LK LA W s1 s2 s3 s4 m1 m2 m5 m3 m4).mono fun e W' ⟨he, bel⟩ => ?_
  subst he
  exact ⟨_, rfl, _, _, _, [], _, [], hW', trodAll_mk1 (shut_bool Try.underlying4 _), (trodAll_cons_mk (Below.trod laidOut (by kernel_rfl) (of_decide_eq_true (by kernel_rfl)) h0 bel lt0) trodAll_mk0), rfl, bel.frame _, fun h => by cases h⟩
theorem over : Rows.fnExactFontFaultRow.holds Try.pinned (OpenSpec.ofChange Rows.fnExactFontFaultSpec) :=
  OpenClaim.holds_of_wide 3 Try.f3 rfl rfl rfl rfl rfl rfl rfl ⟨rfl, rfl, rfl, rfl, rfl⟩ rfl rfl rfl rfl rfl (by kernel_rfl) Try.func3 (by kernel_rfl)
    (of_decide_eq_true (by kernel_rfl)) (by unfold Func.isWrapper; first | (rw [if_pos (by decide +kernel)]; kernel_rfl) | (rw [if_neg (by decide +kernel)]; exact ⟨rfl, rfl⟩))
    (fun os started H enc _ => lifted os started H enc)
theorem proved : Rows.FnExactFontFaultSaid := over
end Go.Proofs.Ytccnjjkechdknaa.fnExactFontFault
namespace Go.Proofs.Ytccnjjkechdknaa
theorem fnExactFontFault_holds : Rows.FnExactFontFaultSaid := fnExactFontFault.proved
#print axioms fnExactFontFault_holds
end Go.Proofs.Ytccnjjkechdknaa
