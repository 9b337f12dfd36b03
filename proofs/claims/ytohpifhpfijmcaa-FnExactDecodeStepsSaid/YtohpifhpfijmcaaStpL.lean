/- The law on EncodeSteps, walked. -/
import Derived.Test.YtohpifhpfijmcaaStpG
namespace Go.Proofs.Ytohpifhpfijmcaa
open Go.RowKit
theorem iEncSteps_big (s : ByteArray) (w : World) (hs : 65536 < s.size) (hs2 : s.size ≤ 1048576) :
    Calls Try.prog 14 #[.string s] w fun e w' => e = .returned (.string (strOfNums [])) ∧ Below w.heap.size w w' := by
  go_enter Try.func14, Try.ntmps14
  go_wp2
  go_ret
  exact ⟨rfl, Below.refl _ _⟩
theorem sEncSteps_big (s : ByteArray) (w : World) (hs : 65536 < s.size) (hs2 : s.size ≤ 1048576) :
    Calls Try.prog 13 #[.string s] w fun e w' => e = .returned (.string (strOfNums [])) ∧ Below w.heap.size w w' := by
  go_enter Try.func13, Try.ntmps13
  go_wp2
  go_ret
  exact ⟨rfl, Below.refl _ _⟩
theorem iEncS (s : ByteArray) (w : World) (hs2 : s.size ≤ 1048576) :
    Calls Try.prog 14 #[.string s] w fun e w' => e = .returned (.string (strOfNums (encS s))) ∧ Below w.heap.size w w' := by
  unfold encS
  by_cases h : 65536 < s.size
  · rw [if_pos h]; exact iEncSteps_big s w h hs2
  · rw [if_neg h]; exact iEncSteps s w (by omega)
theorem sEncS (s : ByteArray) (w : World) (hs2 : s.size ≤ 1048576) :
    Calls Try.prog 13 #[.string s] w fun e w' => e = .returned (.string (strOfNums (encS s))) ∧ Below w.heap.size w w' := by
  unfold encS
  by_cases h : 65536 < s.size
  · rw [if_pos h]; exact sEncSteps_big s w h hs2
  · rw [if_neg h]; exact sEncSteps s w (by omega)
set_option maxRecDepth 100000 in
theorem lawEncSteps (s : ByteArray) (w : World) :
    Calls Try.prog 4 #[.string s] w fun e w' => e = .returned (.bool true) ∧ Below w.heap.size w w' := by
  by_cases hl : 1048576 < s.size
  · go_enter Try.func4, Try.ntmps4
    go_wp2
    go_ret
    exact ⟨rfl, Below.refl _ _⟩
  have hl' : s.size ≤ 1048576 := by omega
  go_enter Try.func4, Try.ntmps4
  go_wp2_with fail
  refine (sEncS s _ hl').mono ?_
  rintro e w1 ⟨rfl, hb1⟩
  have HB1 := hide hb1
  clear hb1
  go_wp2_with fail
  refine (iEncS s _ hl').mono ?_
  rintro e w2 ⟨rfl, hb2⟩
  have HB2 := hide ((unhide HB1).trans (hb2.mono (unhide HB1).size))
  clear hb2 HB1
  generalize strOfNums (encS s) = T at *
  have hne : (T.toList != T.toList) = false := by simp
  go_wp2
  go_ret
  exact ⟨rfl, unhide HB2⟩
end Go.Proofs.Ytohpifhpfijmcaa
