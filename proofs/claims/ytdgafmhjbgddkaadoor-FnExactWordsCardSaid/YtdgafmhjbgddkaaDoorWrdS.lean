/- The classes of points that cuts of words ask for, as the specification tells them. -/
import Derived.Test.YtdgafmhjbgddkaaDoorWrdI
import Derived.Test.YtdgafmhjbgddkaaDoorChrS
namespace Go.Proofs.YtdgafmhjbgddkaaDoor
namespace Wrd
open Go.RowKit
open Chr (cat ctl mrk sCat sControl sMark)
set_option maxRecDepth 100000 in
set_option maxHeartbeats 4000000 in
theorem sWord (p : Int) (w : World) : Calls Tryd.prog 27 #[.int .i64 p] w fun e w' => e = .returned (.int .i64 (wcl p)) ∧ Below w.heap.size w w' := by
  have CC := hide (sCat p w)
  have CS := hide (fun W => scrS_any p W)
  have HE : Hid (wcl p = if cat p = 8 then 2 else if scr p = 8 ∧ cat p = 7 then 5 else if ¬ scr p = 9 ∧ (cat p = 4 ∨ cat p = 5 ∨ cat p = 6 ∨ cat p = 7) then 1 else if p = 95 then 3 else 0) := hide rfl
  generalize wcl p = D at *
  generalize cat p = c at *
  generalize scr p = s at *
  by_cases c8 : c = 8
  · have HD : Hid (D = 2) := hide (by rw [unhide HE, if_pos c8])
    clear HE
    subst c8
    go_enter Tryd.func27, Tryd.ntmps27
    go_wp2_with (go_at_call 42; refine (unhide CC).mono ?_; rintro e w2 ⟨rfl, hb2⟩)
    go_ret
    exact ⟨by rw [unhide HD]; rfl, hb2⟩
  · have e8 : (c == 8) = false := by simpa using c8
    rw [if_neg c8] at HE
    clear c8
    by_cases h5 : s = 8 ∧ c = 7
    · have HD : Hid (D = 5) := hide (by rw [unhide HE, if_pos h5])
      clear HE e8
      obtain ⟨rfl, rfl⟩ := h5
      go_enter Tryd.func27, Tryd.ntmps27
      go_wp2_with (first | (go_at_call 42; refine (unhide CC).mono ?_; rintro e w2 ⟨rfl, hb2⟩; have B := hide hb2; clear hb2) | (go_at_call 28; refine ((unhide CS) _).mono ?_; rintro e w3 ⟨rfl, hb3⟩; replace B := hide (jn (unhide B) hb3); clear hb3))
      go_ret
      exact ⟨by rw [unhide HD]; rfl, unhide B⟩
    · rw [if_neg h5] at HE
      by_cases h9 : s = 9
      · have e9 : (s == 8) = false := by simp; omega
        rw [if_neg (by simp [h9])] at HE
        clear h5
        subst h9
        have HD : Hid (D = if (p == 95) = true then 3 else 0) := hide (by rw [unhide HE]; simp)
        clear HE
        cases h95 : (p == 95)
        all_goals
          rw [h95] at HD
          go_enter Tryd.func27, Tryd.ntmps27
          go_wp2_with (first | (go_at_call 42; refine (unhide CC).mono ?_; rintro e w2 ⟨rfl, hb2⟩; have B := hide hb2; clear hb2) | (go_at_call 28; refine ((unhide CS) _).mono ?_; rintro e w3 ⟨rfl, hb3⟩; replace B := hide (jn (unhide B) hb3); clear hb3))
          go_ret
          exact ⟨by rw [unhide HD]; rfl, unhide B⟩
      · have e9 : (s == 9) = false := by simpa using h9
        have n9 : (s != 9) = true := by simpa using h9
        cases e8s : (s == 8) <;> cases c7 : (c == 7)
        case true.true => exact absurd ⟨by simpa using e8s, by simpa using c7⟩ h5
        all_goals
          clear h5
          cases c4 : (c == 4) <;> cases c5 : (c == 5) <;> cases c6 : (c == 6)
          all_goals
            have HD : Hid (D = if (c == 4 || c == 5 || c == 6 || c == 7) = true then 1 else if (p == 95) = true then 3 else 0) := hide (by
              rw [unhide HE]
              simp [h9, or_assoc])
            rw [c4, c5, c6, c7] at HD
            clear HE
            cases h95 : (p == 95)
            all_goals
              rw [h95] at HD
              go_enter Tryd.func27, Tryd.ntmps27
              go_wp2_with (first | (go_at_call 42; refine (unhide CC).mono ?_; rintro e w2 ⟨rfl, hb2⟩; have B := hide hb2; clear hb2) | (go_at_call 28; refine ((unhide CS) _).mono ?_; rintro e w3 ⟨rfl, hb3⟩; replace B := hide (jn (unhide B) hb3); clear hb3))
              go_ret
              exact ⟨by rw [unhide HD]; rfl, unhide B⟩
set_option maxRecDepth 100000 in
theorem sJoint (p : Int) (w : World) : Calls Tryd.prog 79 #[.int .i64 p] w fun e w' => e = .returned (.bool (isJ p)) ∧ w' = w := by
  unfold isJ
  cases h1 : (p == 39) <;> cases h2 : (p == 46)
  all_goals
    go_enter Tryd.func79, Tryd.ntmps79
    go_wp2
    go_ret
    exact ⟨rfl, rfl⟩
set_option maxRecDepth 100000 in
theorem sIsPoint2 (p : Int) (w : World) : Calls Tryd.prog 80 #[.int .i64 p] w fun e w' => e = .returned (.bool (isP p)) ∧ w' = w := by
  unfold isP
  cases h1 : (p == 46)
  all_goals
    go_enter Tryd.func80, Tryd.ntmps80
    go_wp2
    go_ret
    exact ⟨rfl, rfl⟩
end Wrd
end Go.Proofs.YtdgafmhjbgddkaaDoor
