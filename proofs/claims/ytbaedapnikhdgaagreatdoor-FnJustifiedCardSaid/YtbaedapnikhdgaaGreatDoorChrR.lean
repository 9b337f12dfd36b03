/- The rules of characters, each by itself, as the program tells them. -/
import Derived.Test.YtbaedapnikhdgaaGreatDoorChrJ
namespace Go.Proofs.YtbaedapnikhdgaaGreatDoor
namespace Chr
open Go.RowKit
def rl (k : Nat) (x : Pl) : Bool :=
  match k with
  | 0 => x.l == 13 && x.r == 10
  | 1 => ctl x.l || ctl x.r
  | 2 => sylI x.l x.r
  | 3 => mrk x.r
  | 4 => x.d && (decide (1536 ≤ x.r) && decide (x.r ≤ 1567))
  | 5 => pic x.b && x.l == 7936 && pic x.r
  | _ => x.f % 2 == 1 && flg x.r
def Silent (k : Nat) (x : Pl) : Prop := ∀ j, j < k → rl j x = false
theorem Silent.succ {k : Nat} {x : Pl} (h : Silent k x) (hk : rl k x = false) : Silent (k + 1) x := by
  intro j hj
  by_cases e : j = k
  · rw [e]; exact hk
  · exact h j (by omega)
theorem dec_rl (x : Pl) : decI x = if rl 0 x then false else if rl 1 x then true else if rl 2 x then false else if rl 3 x then false else if rl 4 x then false else if rl 5 x then false else if rl 6 x then false else true := rfl
theorem dec_hit {k : Nat} {x : Pl} (hk : k < 7) (h : Silent k x) (hr : rl k x = true) : decI x = (k == 1) := by
  rw [dec_rl]
  have e : k = 0 ∨ k = 1 ∨ k = 2 ∨ k = 3 ∨ k = 4 ∨ k = 5 ∨ k = 6 := by omega
  rcases e with rfl | rfl | rfl | rfl | rfl | rfl | rfl
  · simp [hr]
  · simp [hr, h 0 (by decide)]
  · simp [hr, h 0 (by decide), h 1 (by decide)]
  · simp [hr, h 0 (by decide), h 1 (by decide), h 2 (by decide)]
  · simp [hr, h 0 (by decide), h 1 (by decide), h 2 (by decide), h 3 (by decide)]
  · simp [hr, h 0 (by decide), h 1 (by decide), h 2 (by decide), h 3 (by decide), h 4 (by decide)]
  · simp [hr, h 0 (by decide), h 1 (by decide), h 2 (by decide), h 3 (by decide), h 4 (by decide), h 5 (by decide)]
theorem dec_none {x : Pl} (h : Silent 7 x) : decI x = true := by
  rw [dec_rl]
  simp [h 0 (by decide), h 1 (by decide), h 2 (by decide), h 3 (by decide), h 4 (by decide), h 5 (by decide), h 6 (by decide)]
theorem bel1 (w : World) (a : Obj) : Below w.heap.size w (w.alloc a) := (Below.refl _ _).alloc (Nat.le_refl _) _
theorem bel2 (w : World) (a b : Obj) : Below w.heap.size w ((w.alloc a).alloc b) := (bel1 w a).alloc (by simp) _
set_option maxRecDepth 100000 in
theorem rl0 (x : Pl) (w : World) : Calls Tryz.prog 66 #[plV x] w fun e w' => e = .returned (.bool (rl 0 x)) ∧ Below w.heap.size w w' := by
  obtain ⟨l, r, b, f, d⟩ := x
  unfold plV rl
  simp only
  cases h1 : (l == 13)
  all_goals
    go_enter Tryz.func66, Tryz.ntmps66
    go_wp2
    go_ret
    exact ⟨rfl, bel1 _ _⟩
set_option maxRecDepth 100000 in
theorem rl1 (x : Pl) (w : World) (ht : TabAt w) : Calls Tryz.prog 67 #[plV x] w fun e w' => e = .returned (.bool (rl 1 x)) ∧ Below w.heap.size w w' := by
  obtain ⟨l, r, b, f, d⟩ := x
  have H := hide ht
  clear ht
  have CL := hide (fun W h => isControl_any l W h)
  have CR := hide (fun W h => isControl_any r W h)
  unfold plV rl
  simp only
  cases h1 : ctl l
  · rw [h1] at CL
    go_enter Tryz.func67, Tryz.ntmps67
    go_wp2_with (first | (go_at_call_of 89 l; refine ((unhide CL) _ ((unhide H).alloc _)).mono ?_; rintro e w2 ⟨rfl, o2, rfl⟩) | (go_at_call_of 89 r; refine ((unhide CR) _ (((unhide H).alloc _).alloc _)).mono ?_; rintro e w2 ⟨rfl, o3, rfl⟩))
    go_ret
    exact ⟨rfl, below3 _ _ _ _⟩
  · rw [h1] at CL
    go_enter Tryz.func67, Tryz.ntmps67
    go_wp2_with (first | (go_at_call_of 89 l; refine ((unhide CL) _ ((unhide H).alloc _)).mono ?_; rintro e w2 ⟨rfl, o2, rfl⟩))
    go_ret
    exact ⟨rfl, bel2 _ _ _⟩
set_option maxRecDepth 100000 in
theorem rl3 (x : Pl) (w : World) (ht : TabAt w) : Calls Tryz.prog 69 #[plV x] w fun e w' => e = .returned (.bool (rl 3 x)) ∧ Below w.heap.size w w' := by
  obtain ⟨l, r, b, f, d⟩ := x
  have H := hide ht
  clear ht
  unfold plV rl
  simp only
  go_enter Tryz.func69, Tryz.ntmps69
  go_wp2_with (go_at_call 73; refine (isMark_any r _ ((unhide H).alloc _)).mono ?_; rintro e w2 ⟨rfl, o2, rfl⟩)
  go_ret
  exact ⟨rfl, bel2 _ _ _⟩
set_option maxRecDepth 100000 in
theorem rl4 (x : Pl) (w : World) : Calls Tryz.prog 70 #[plV x] w fun e w' => e = .returned (.bool (rl 4 x)) ∧ Below w.heap.size w w' := by
  obtain ⟨l, r, b, f, d⟩ := x
  unfold plV rl
  simp only
  cases d
  all_goals
    go_enter Tryz.func70, Tryz.ntmps70
    go_wp2_with (go_at_call 15; refine (cw_any _ _ _ _).mono ?_; rintro e w2 ⟨rfl, rfl⟩)
    go_ret
    exact ⟨rfl, bel1 _ _⟩
set_option maxRecDepth 100000 in
theorem rl5 (x : Pl) (w : World) : Calls Tryz.prog 71 #[plV x] w fun e w' => e = .returned (.bool (rl 5 x)) ∧ Below w.heap.size w w' := by
  obtain ⟨l, r, b, f, d⟩ := x
  unfold plV rl
  simp only
  have CB := hide (fun W => isPicture_any b W)
  have CR := hide (fun W => isPicture_any r W)
  cases h1 : pic b <;> cases h2 : (l == 7936)
  all_goals
    rw [h1] at CB
    go_enter Tryz.func71, Tryz.ntmps71
    go_wp2_with (first | (go_at_call_of 50 b; refine ((unhide CB) _).mono ?_; rintro e w2 ⟨rfl, rfl⟩) | (go_at_call_of 50 r; refine ((unhide CR) _).mono ?_; rintro e w2 ⟨rfl, rfl⟩))
    go_ret
    exact ⟨rfl, bel1 _ _⟩
set_option maxRecDepth 100000 in
theorem rl6 (x : Pl) (w : World) (hf : x.f ≤ 100000) : Calls Tryz.prog 72 #[plV x] w fun e w' => e = .returned (.bool (rl 6 x)) ∧ Below w.heap.size w w' := by
  obtain ⟨l, r, b, f, d⟩ := x
  simp only at hf
  unfold plV rl
  simp only
  obtain ⟨m, hm⟩ : ∃ m, f % 2 = m := ⟨_, rfl⟩
  have e1 : ((f : Int)).tmod 2 = (m : Int) := by rw [Int.tmod_eq_emod_of_nonneg (by omega)]; omega
  have hm2 : m < 2 := by omega
  rw [hm]
  clear hm
  cases h1 : (m == 1)
  · have h1' : ((m : Int) == 1) = false := by simp at h1 ⊢; omega
    go_enter Tryz.func72, Tryz.ntmps72
    go_wp2
    go_ret
    exact ⟨rfl, bel1 _ _⟩
  · have h1' : ((m : Int) == 1) = true := by simp at h1 ⊢; omega
    go_enter Tryz.func72, Tryz.ntmps72
    go_wp2_with (go_at_call 74; refine (isFlag_any _ _).mono ?_; rintro e w2 ⟨rfl, rfl⟩)
    go_ret
    exact ⟨rfl, bel1 _ _⟩
set_option maxHeartbeats 4000000 in
set_option maxRecDepth 100000 in
theorem rl2 (x : Pl) (w : World) : Calls Tryz.prog 68 #[plV x] w fun e w' => e = .returned (.bool (rl 2 x)) ∧ Below w.heap.size w w' := by
  obtain ⟨l, r, b, f, d⟩ := x
  unfold plV rl
  simp only
  have A1 := hide (fun W => isLead_any l W)
  have A2 := hide (fun W => isVowel_any l W)
  have A3 := hide (fun W => isSyllable_any l W)
  have A4 := hide (fun W => isTail_any l W)
  have A5 := hide (fun W h => hasTail_any l W h)
  have B1 := hide (fun W => isLead_any r W)
  have B2 := hide (fun W => isVowel_any r W)
  have B3 := hide (fun W => isSyllable_any r W)
  have B4 := hide (fun W => isTail_any r W)
  have HR : Hid (sylI l r = if led l then led r || vow r || sil r else if vow l || (sil l && !hta l) then vow r || tai r else if tai l || sil l then tai r else false) := hide rfl
  generalize sylI l r = S at *
  cases h1 : led l
  · cases h2 : vow l
    · cases h3 : sil l
      · cases h4 : tai l
        · rw [h1] at A1 HR
          rw [h2] at A2 HR
          rw [h3] at A3 HR
          rw [h4] at A4 HR
          go_enter Tryz.func68, Tryz.ntmps68
          go_wp2_with (first | (go_at_call 90; refine ((unhide A1) _).mono ?_; rintro e w2 ⟨rfl, rfl⟩) | (go_at_call 91; refine ((unhide A2) _).mono ?_; rintro e w2 ⟨rfl, rfl⟩) | (go_at_call 48; refine ((unhide A3) _).mono ?_; rintro e w2 ⟨rfl, rfl⟩) | (go_at_call 93; refine ((unhide A4) _).mono ?_; rintro e w2 ⟨rfl, rfl⟩))
          go_ret
          exact ⟨by rw [unhide HR]; rfl, bel1 _ _⟩
        · rw [h1] at A1 HR
          rw [h2] at A2 HR
          rw [h3] at A3 HR
          rw [h4] at A4 HR
          go_enter Tryz.func68, Tryz.ntmps68
          go_wp2_with (first | (go_at_call 90; refine ((unhide A1) _).mono ?_; rintro e w2 ⟨rfl, rfl⟩) | (go_at_call 91; refine ((unhide A2) _).mono ?_; rintro e w2 ⟨rfl, rfl⟩) | (go_at_call 48; refine ((unhide A3) _).mono ?_; rintro e w2 ⟨rfl, rfl⟩) | (go_at_call_of 93 l; refine ((unhide A4) _).mono ?_; rintro e w2 ⟨rfl, rfl⟩) | (go_at_call_of 93 r; refine ((unhide B4) _).mono ?_; rintro e w2 ⟨rfl, rfl⟩))
          go_ret
          exact ⟨by rw [unhide HR]; rfl, bel1 _ _⟩
      · cases h5 : hta l
        · have A6 := hide (fun W => (unhide A5) W h3)
          rw [h1] at A1 HR
          rw [h2] at A2 HR
          rw [h3] at A3 HR
          rw [h5] at A6 HR
          cases h6 : vow r
          all_goals
            rw [h6] at B2 HR
            go_enter Tryz.func68, Tryz.ntmps68
            go_wp2_with (first | (go_at_call 90; refine ((unhide A1) _).mono ?_; rintro e w2 ⟨rfl, rfl⟩) | (go_at_call_of 91 l; refine ((unhide A2) _).mono ?_; rintro e w2 ⟨rfl, rfl⟩) | (go_at_call 48; refine ((unhide A3) _).mono ?_; rintro e w2 ⟨rfl, rfl⟩) | (go_at_call 92; refine ((unhide A6) _).mono ?_; rintro e w2 ⟨rfl, rfl⟩) | (go_at_call_of 91 r; refine ((unhide B2) _).mono ?_; rintro e w2 ⟨rfl, rfl⟩) | (go_at_call_of 93 r; refine ((unhide B4) _).mono ?_; rintro e w2 ⟨rfl, rfl⟩))
            go_ret
            exact ⟨by rw [unhide HR]; rfl, bel1 _ _⟩
        · have A6 := hide (fun W => (unhide A5) W h3)
          rw [h1] at A1 HR
          rw [h2] at A2 HR
          rw [h3] at A3 HR
          rw [h5] at A6 HR
          have HR' : Hid (S = tai r) := hide (by rw [unhide HR]; simp)
          cases h4 : tai l
          all_goals
            rw [h4] at A4
            go_enter Tryz.func68, Tryz.ntmps68
            go_wp2_with (first | (go_at_call 90; refine ((unhide A1) _).mono ?_; rintro e w2 ⟨rfl, rfl⟩) | (go_at_call_of 91 l; refine ((unhide A2) _).mono ?_; rintro e w2 ⟨rfl, rfl⟩) | (go_at_call 48; refine ((unhide A3) _).mono ?_; rintro e w2 ⟨rfl, rfl⟩) | (go_at_call 92; refine ((unhide A6) _).mono ?_; rintro e w2 ⟨rfl, rfl⟩) | (go_at_call_of 93 l; refine ((unhide A4) _).mono ?_; rintro e w2 ⟨rfl, rfl⟩) | (go_at_call_of 93 r; refine ((unhide B4) _).mono ?_; rintro e w2 ⟨rfl, rfl⟩))
            go_ret
            exact ⟨by rw [unhide HR']; rfl, bel1 _ _⟩
    · rw [h1] at A1 HR
      rw [h2] at A2 HR
      cases h6 : vow r
      all_goals
        rw [h6] at B2 HR
        go_enter Tryz.func68, Tryz.ntmps68
        go_wp2_with (first | (go_at_call 90; refine ((unhide A1) _).mono ?_; rintro e w2 ⟨rfl, rfl⟩) | (go_at_call_of 91 l; refine ((unhide A2) _).mono ?_; rintro e w2 ⟨rfl, rfl⟩) | (go_at_call_of 91 r; refine ((unhide B2) _).mono ?_; rintro e w2 ⟨rfl, rfl⟩) | (go_at_call_of 93 r; refine ((unhide B4) _).mono ?_; rintro e w2 ⟨rfl, rfl⟩))
        go_ret
        exact ⟨by rw [unhide HR]; rfl, bel1 _ _⟩
  · rw [h1] at A1 HR
    cases h6 : led r <;> cases h7 : vow r
    all_goals
      rw [h6] at B1 HR
      rw [h7] at B2 HR
      go_enter Tryz.func68, Tryz.ntmps68
      go_wp2_with (first | (go_at_call_of 90 l; refine ((unhide A1) _).mono ?_; rintro e w2 ⟨rfl, rfl⟩) | (go_at_call_of 90 r; refine ((unhide B1) _).mono ?_; rintro e w2 ⟨rfl, rfl⟩) | (go_at_call 91; refine ((unhide B2) _).mono ?_; rintro e w2 ⟨rfl, rfl⟩) | (go_at_call 48; refine ((unhide B3) _).mono ?_; rintro e w2 ⟨rfl, rfl⟩))
      go_ret
      exact ⟨by rw [unhide HR]; rfl, bel1 _ _⟩
end Chr
end Go.Proofs.YtbaedapnikhdgaaGreatDoor
