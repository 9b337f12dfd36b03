/- SkeletonOf and LookAlike of the specification; the laws. -/
import Derived.Test.YtjdginjohajmaaaGreatDoorSkeT
namespace Go.Proofs.YtjdginjohajmaaaGreatDoor.Ske
open Go.RowKit
set_option linter.unusedVariables false
set_option maxRecDepth 100000 in
theorem specSke (s : ByteArray) (w : World) : Calls Tryz.prog 6 #[.string s] w fun e w' => e = .returned (.string (strOfNums (skT s))) ∧ Below w.heap.size w w' := by
  by_cases hs : 65536 < s.size
  · have hs' : (65536 : Int) < (s.size : Int) := by omega
    have HE : Hid (skT s = []) := hide (by
      have e : ptsOut s = [] := by unfold ptsOut; rw [if_pos hs]
      unfold skT ske
      rw [e, nrm_nil]
      show small (textL (nrmL 1 [])) = []
      rw [nrm_nil]
      rfl)
    go_enter Tryz.func6, Tryz.ntmps6
    go_wp2
    go_ret
    exact ⟨by rw [unhide HE]; rfl, Below.refl _ _⟩
  · have hs' : ¬ (65536 : Int) < (s.size : Int) := by omega
    have C1 := hide (skelS s w (by omega))
    have C2 := hide (fun v W h => l01Text v (ske s) W h (ske_len s))
    have C3 := hide (fun W => smallS (textL (ske s)) W)
    have HE : Hid (skT s = small (textL (ske s))) := hide rfl
    generalize skT s = T at *
    generalize small (textL (ske s)) = U at *
    generalize textL (ske s) = V at *
    generalize ske s = Z at *
    go_enter Tryz.func6, Tryz.ntmps6
    go_wp2_with (first
      | (go_at_call 22; refine (unhide C1).mono ?_; rintro e w1 ⟨v1, rfl, ho1, hb1⟩; have I1 := hide (IntsAt.owned ho1); have B1 := hide hb1; clear ho1 hb1)
      | (go_at_call 21; refine ((unhide C2) _ _ (unhide I1)).mono ?_; rintro e w2 ⟨rfl, hb2⟩; have B2 := hide (j2 (unhide B1) hb2); clear hb2)
      | (go_at_call 20; refine ((unhide C3) _).mono ?_; rintro e w' ⟨rfl, hw⟩; obtain rfl := hw.symm; clear hw))
    go_ret
    exact ⟨by rw [unhide HE]; rfl, unhide B2⟩
end Go.Proofs.YtjdginjohajmaaaGreatDoor.Ske
