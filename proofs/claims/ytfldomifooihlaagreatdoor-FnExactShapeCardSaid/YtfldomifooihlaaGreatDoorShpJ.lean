/- To which sides a point joins, as the program and as the specification tell it, and the law of it. -/
import Derived.Test.YtfldomifooihlaaGreatDoorMG
import Derived.Test.YtfldomifooihlaaGreatDoorChrS
namespace Go.Proofs.YtfldomifooihlaaGreatDoor.Shp
open Go.RowKit Chr
set_option linter.unusedVariables false
/-- The letters of script 5. -/
def jlt (p : Int) : Bool := decide (1280 ≤ p) && decide (p ≤ 1311)
/-- To which sides a point joins. -/
def jns (p : Int) : Int := if (cat p == 3) = true then -1 else if (p == 7936) = true then 3 else if jlt p = false then 0 else if p.tmod 4 = 1 then 2 else if p.tmod 4 = 3 then 0 else 3
theorem jlt_true {p : Int} (h : jlt p = true) : 1280 ≤ p ∧ p ≤ 1311 := by
  unfold jlt at h
  simp at h
  exact h
theorem jns_way (p : Int) : ((cat p == 3) = true ∧ jns p = -1) ∨ ((cat p == 3) = false ∧ (p == 7936) = true ∧ jns p = 3) ∨ ((cat p == 3) = false ∧ (p == 7936) = false ∧ jlt p = false ∧ jns p = 0)
    ∨ ((cat p == 3) = false ∧ (p == 7936) = false ∧ jlt p = true ∧ ((p.tmod 4 = 0 ∧ jns p = 3) ∨ (p.tmod 4 = 1 ∧ jns p = 2) ∨ (p.tmod 4 = 2 ∧ jns p = 3) ∨ (p.tmod 4 = 3 ∧ jns p = 0))) := by
  cases h1 : (cat p == 3)
  · cases h2 : (p == 7936)
    · cases h3 : jlt p
      · refine .inr (.inr (.inl ⟨rfl, rfl, rfl, ?_⟩))
        unfold jns; rw [h1, h2, h3]; rfl
      · refine .inr (.inr (.inr ⟨rfl, rfl, rfl, ?_⟩))
        have hp := jlt_true h3
        have hm : p.tmod 4 = 0 ∨ p.tmod 4 = 1 ∨ p.tmod 4 = 2 ∨ p.tmod 4 = 3 := by rw [Int.tmod_eq_emod_of_nonneg (by omega)]; omega
        rcases hm with e | e | e | e
        · exact .inl ⟨e, by unfold jns; rw [h1, h2, h3, e]; rfl⟩
        · exact .inr (.inl ⟨e, by unfold jns; rw [h1, h2, h3, e]; rfl⟩)
        · exact .inr (.inr (.inl ⟨e, by unfold jns; rw [h1, h2, h3, e]; rfl⟩))
        · exact .inr (.inr (.inr ⟨e, by unfold jns; rw [h1, h2, h3, e]; rfl⟩))
    · refine .inr (.inl ⟨rfl, rfl, ?_⟩)
      unfold jns; rw [h1, h2]; rfl
  · exact .inl ⟨rfl, by unfold jns; rw [h1]; rfl⟩
theorem jns_in (p : Int) : jns p = -1 ∨ jns p = 0 ∨ jns p = 2 ∨ jns p = 3 := by
  rcases jns_way p with ⟨_, e⟩ | ⟨_, _, e⟩ | ⟨_, _, _, e⟩ | ⟨_, _, _, (⟨_, e⟩ | ⟨_, e⟩ | ⟨_, e⟩ | ⟨_, e⟩)⟩ <;> rw [e] <;> simp
theorem ret_i64 {x y : Int} (h : x = y) : (Ending.returned (.int .i64 x) : Ending) = .returned (.int .i64 y) := by rw [h]
theorem isJoining_any (p : Int) (w : World) : Calls Tryz.prog 110 #[.int .i64 p] w fun e w' => e = .returned (.bool (jlt p)) ∧ w' = w := by
  go_enter Tryz.func110, Tryz.ntmps110
  go_wp2_with (go_at_call 50; refine (cw_any _ _ _ _).mono ?_; rintro e w' ⟨rfl, rfl⟩)
  go_ret
  exact ⟨rfl, rfl⟩
theorem sLetter (p : Int) (w : World) : Calls Tryz.prog 74 #[.int .i64 p] w fun e w' => e = .returned (.bool (jlt p)) ∧ w' = w := by
  by_cases h : 1280 ≤ p
  · have HR := hide (show jlt p = decide (p ≤ 1311) by unfold jlt; simp [h])
    go_enter Tryz.func74, Tryz.ntmps74
    go_wp2
    go_ret
    exact ⟨by rw [unhide HR]; rfl, rfl⟩
  · have HR := hide (show jlt p = false by unfold jlt; simp; omega)
    go_enter Tryz.func74, Tryz.ntmps74
    go_wp2
    go_ret
    exact ⟨by rw [unhide HR]; rfl, rfl⟩
set_option maxHeartbeats 1000000 in
theorem implJoins (p : Int) (w : World) (ht : TabAt w) : Calls Tryz.prog 117 #[.int .i64 p] w fun e w' => e = .returned (.int .i64 (jns p)) ∧ Below w.heap.size w w' := by
  have CC : Hid (Calls Tryz.prog 59 #[.int .i64 p] w fun e w' => e = .returned (.int .i64 (cat p)) ∧ Below w.heap.size w w') := hide (by
    have := implCat p w ht
    rwa [cat_i] at this)
  have CL : Hid (∀ w', Calls Tryz.prog 110 #[.int .i64 p] w' fun e w'' => e = .returned (.bool (jlt p)) ∧ w'' = w') := hide (fun w' => isJoining_any p w')
  have W := jns_way p
  clear ht
  generalize jns p = R at *
  generalize jlt p = B at *
  generalize cat p = c at *
  rcases W with ⟨h1, rfl⟩ | ⟨h1, h2, rfl⟩ | ⟨h1, h2, rfl, rfl⟩ | ⟨h1, h2, rfl, (⟨h3, rfl⟩ | ⟨h3, rfl⟩ | ⟨h3, rfl⟩ | ⟨h3, rfl⟩)⟩
  all_goals
    go_enter Tryz.func117, Tryz.ntmps117
    go_wp2_with (first | (go_at_call 59; refine (unhide CC).mono ?_; rintro e w' ⟨rfl, hb⟩) | (go_at_call 110; refine ((unhide CL) _).mono ?_; rintro e w'' ⟨rfl, rfl⟩))
    go_ret
    exact ⟨rfl, hb⟩
set_option maxHeartbeats 1000000 in
theorem sJoins (p : Int) (w : World) : Calls Tryz.prog 73 #[.int .i64 p] w fun e w' => e = .returned (.int .i64 (jns p)) ∧ Below w.heap.size w w' := by
  have CC := hide (sCat p w)
  have CL : Hid (∀ w', Calls Tryz.prog 74 #[.int .i64 p] w' fun e w'' => e = .returned (.bool (jlt p)) ∧ w'' = w') := hide (fun w' => sLetter p w')
  have W := jns_way p
  generalize jns p = R at *
  generalize jlt p = B at *
  generalize cat p = c at *
  rcases W with ⟨h1, rfl⟩ | ⟨h1, h2, rfl⟩ | ⟨h1, h2, rfl, rfl⟩ | ⟨h1, h2, rfl, (⟨h3, rfl⟩ | ⟨h3, rfl⟩ | ⟨h3, rfl⟩ | ⟨h3, rfl⟩)⟩
  all_goals
    go_enter Tryz.func73, Tryz.ntmps73
    go_wp2_with (first | (go_at_call 19; refine (unhide CC).mono ?_; rintro e w' ⟨rfl, hb⟩) | (go_at_call 74; refine ((unhide CL) _).mono ?_; rintro e w'' ⟨rfl, rfl⟩))
    go_ret
  iterate 3 exact ⟨rfl, hb⟩
  all_goals exact ⟨rfl, Below.alloc hb hb.size _⟩
end Go.Proofs.YtfldomifooihlaaGreatDoor.Shp
