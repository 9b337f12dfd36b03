/- The law on EncodeSteps, walked. -/
import Derived.Test.YtohpifhpfijmcaaDoorStpG
namespace Go.Proofs.YtohpifhpfijmcaaDoor
open Go.RowKit
theorem iEncSteps_big (s : ByteArray) (w : World) (hs : 65536 < s.size) (hs2 : s.size ≤ 1048576) :
    Calls Tryd.prog 13 #[.string s] w fun e w' => e = .returned (.string (strOfNums [])) ∧ Below w.heap.size w w' := by
  go_enter Tryd.func13, Tryd.ntmps13
  go_wp2
  go_ret
  exact ⟨rfl, Below.refl _ _⟩
theorem sEncSteps_big (s : ByteArray) (w : World) (hs : 65536 < s.size) (hs2 : s.size ≤ 1048576) :
    Calls Tryd.prog 15 #[.string s] w fun e w' => e = .returned (.string (strOfNums [])) ∧ Below w.heap.size w w' := by
  go_enter Tryd.func15, Tryd.ntmps15
  go_wp2
  go_ret
  exact ⟨rfl, Below.refl _ _⟩
theorem iEncS (s : ByteArray) (w : World) (hs2 : s.size ≤ 1048576) :
    Calls Tryd.prog 13 #[.string s] w fun e w' => e = .returned (.string (strOfNums (encS s))) ∧ Below w.heap.size w w' := by
  unfold encS
  by_cases h : 65536 < s.size
  · rw [if_pos h]; exact iEncSteps_big s w h hs2
  · rw [if_neg h]; exact iEncSteps s w (by omega)
theorem sEncS (s : ByteArray) (w : World) (hs2 : s.size ≤ 1048576) :
    Calls Tryd.prog 15 #[.string s] w fun e w' => e = .returned (.string (strOfNums (encS s))) ∧ Below w.heap.size w w' := by
  unfold encS
  by_cases h : 65536 < s.size
  · rw [if_pos h]; exact sEncSteps_big s w h hs2
  · rw [if_neg h]; exact sEncSteps s w (by omega)
end Go.Proofs.YtohpifhpfijmcaaDoor
