/- The law of JoinSets. -/
import Derived.Test.YtfcabmpklcmbgaaSetG
import Derived.Test.YtfcabmpklcmbgaaSetW
namespace Go.Proofs.Ytfcabmpklcmbgaa
open Go.RowKit
set_option maxHeartbeats 1000000 in
theorem specJoinSets (va vb : Value) (A C : List Sp) (B1 B2 : Nat) (w : World) (h1 : SpRow w B1 va A) (h2 : SpRow w B2 vb C) (lA : A.length ≤ 1048576) (lC : C.length ≤ 1048576) :
    Calls Try.prog 9 #[va, vb] w fun e w' => ∃ (sv : Value) (M : List Sp), e = .returned sv ∧ SetOf 0 A C M ∧ M.length ≤ 32768 ∧ SpRow w' w.heap.size sv M ∧ Below w.heap.size w w' := by
  go_enter Try.func9, Try.ntmps9
  go_wp2_with fail
  refine (l04Set_any va vb A C 0 (by omega) B1 B2 w h1 h2 lA lC).mono ?_
  rintro e w1 ⟨sv, M, rfl, hs, hl, hr, hb⟩
  have R := hide (⟨hs, hl, hr, hb⟩ : _ ∧ _ ∧ _ ∧ _)
  clear hs hl hr hb
  go_wp2
  go_ret
  exact ⟨_, _, rfl, (unhide R).1, (unhide R).2.1, (unhide R).2.2.1, (unhide R).2.2.2⟩
set_option maxHeartbeats 1000000 in
theorem implJoinSets (va vb : Value) (A C : List Sp) (B1 B2 : Nat) (w : World) (h1 : SpRow w B1 va A) (h2 : SpRow w B2 vb C) (lA : A.length ≤ 1048576) (lC : C.length ≤ 1048576) :
    Calls Try.prog 5 #[va, vb] w fun e w' => ∃ (sv : Value) (M : List Sp), e = .returned sv ∧ SetOf 0 A C M ∧ M.length ≤ 32768 ∧ SpRow w' w.heap.size sv M ∧ Below w.heap.size w w' := by
  go_enter Try.func5, Try.ntmps5
  go_wp2_with fail
  refine (merge0 va vb A C B1 B2 w h1 h2 lA lC).mono ?_
  rintro e w1 ⟨sv, M, rfl, hs, hl, hr, hb⟩
  have R := hide (⟨hs, hl, hr, hb⟩ : _ ∧ _ ∧ _ ∧ _)
  clear hs hl hr hb
  go_wp2
  go_ret
  exact ⟨_, _, rfl, (unhide R).1, (unhide R).2.1, (unhide R).2.2.1, (unhide R).2.2.2⟩
end Go.Proofs.Ytfcabmpklcmbgaa
