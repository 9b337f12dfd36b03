/- The parts of a point, as the program tells them: all rows. -/
import Derived.Test.YtnfdkcphmolkiaaPrtI
namespace Go.Proofs.Ytnfdkcphmolkiaa
open Go.RowKit
def pairL (p : Int) : List Int → Int × Int
  | [] => (p, -1)
  | [a] => (a, -1)
  | a :: b :: _ => (a, b)
theorem pairZ_L (k : Bool) (p : Int) : pairZ k p = pairL p (partsZ k p) := by
  unfold pairZ pairL
  split <;> simp_all
set_option maxHeartbeats 2000000 in
theorem looseI (p : Int) (w : World) : Calls Try.prog 108 #[.int .i64 p] w fun e w' => e = .returned (pairV (pairL p (wideZ p))) ∧ ∃ o, w' = w.alloc o := by
  by_cases c1 : 9984 ≤ p ∧ p ≤ 10009
  · have HP : Hid (pairL p (wideZ p) = (65 + p - 9984, -1)) := hide (by unfold wideZ; rw [if_pos c1]; show (p - 9984 + 65, (-1 : Int)) = _; congr 1; omega)
    go_enter Try.func108, Try.ntmps108
    go_wp2_with (first | (go_at_call 102; refine (within_t _ _ _ _ (by omega)).mono ?_; rintro e w' ⟨rfl, rfl⟩) | (go_at_call 102; refine (within_f _ _ _ _ (by omega)).mono ?_; rintro e w' ⟨rfl, rfl⟩))
    go_returns
    exact ⟨ret_pair (unhide HP), _, rfl⟩
  by_cases c2 : 10016 ≤ p ∧ p ≤ 10025
  · have HP : Hid (pairL p (wideZ p) = (48 + p - 10016, -1)) := hide (by unfold wideZ; rw [if_neg c1, if_pos c2]; show (p - 10016 + 48, (-1 : Int)) = _; congr 1; omega)
    go_enter Try.func108, Try.ntmps108
    go_wp2_with (first | (go_at_call 102; refine (within_t _ _ _ _ (by omega)).mono ?_; rintro e w' ⟨rfl, rfl⟩) | (go_at_call 102; refine (within_f _ _ _ _ (by omega)).mono ?_; rintro e w' ⟨rfl, rfl⟩))
    go_returns
    exact ⟨ret_pair (unhide HP), _, rfl⟩
  by_cases d1 : p = 8064
  · subst d1
    go_enter Try.func108, Try.ntmps108
    go_wp2_with (go_at_call 102; refine (within_f _ _ _ _ (by omega)).mono ?_; rintro e w' ⟨rfl, rfl⟩)
    go_returns
    exact ⟨ret_pair (by decide), _, rfl⟩
  by_cases d2 : p = 160
  · subst d2
    go_enter Try.func108, Try.ntmps108
    go_wp2_with (go_at_call 102; refine (within_f _ _ _ _ (by omega)).mono ?_; rintro e w' ⟨rfl, rfl⟩)
    go_returns
    exact ⟨ret_pair (by decide), _, rfl⟩
  by_cases d3 : p = 10032
  · subst d3
    go_enter Try.func108, Try.ntmps108
    go_wp2_with (go_at_call 102; refine (within_f _ _ _ _ (by omega)).mono ?_; rintro e w' ⟨rfl, rfl⟩)
    go_returns
    exact ⟨ret_pair (by decide), _, rfl⟩
  by_cases d4 : p = 10033
  · subst d4
    go_enter Try.func108, Try.ntmps108
    go_wp2_with (go_at_call 102; refine (within_f _ _ _ _ (by omega)).mono ?_; rintro e w' ⟨rfl, rfl⟩)
    go_returns
    exact ⟨ret_pair (by decide), _, rfl⟩
  by_cases d5 : p = 10034
  · subst d5
    go_enter Try.func108, Try.ntmps108
    go_wp2_with (go_at_call 102; refine (within_f _ _ _ _ (by omega)).mono ?_; rintro e w' ⟨rfl, rfl⟩)
    go_returns
    exact ⟨ret_pair (by decide), _, rfl⟩
  by_cases d6 : p = 10035
  · subst d6
    go_enter Try.func108, Try.ntmps108
    go_wp2_with (go_at_call 102; refine (within_f _ _ _ _ (by omega)).mono ?_; rintro e w' ⟨rfl, rfl⟩)
    go_returns
    exact ⟨ret_pair (by decide), _, rfl⟩
  have HP : Hid (pairL p (wideZ p) = (p, -1)) := hide (by
    unfold wideZ
    rw [if_neg c1, if_neg c2, if_neg (by omega), if_neg d3, if_neg d4, if_neg d5, if_neg d6]
    rfl)
  have t1 : (p == 8064) = false := by simpa using d1
  have t2 : (p == 160) = false := by simpa using d2
  have t3 : (p == 10032) = false := by simpa using d3
  have t4 : (p == 10033) = false := by simpa using d4
  have t5 : (p == 10034) = false := by simpa using d5
  have t6 : (p == 10035) = false := by simpa using d6
  go_enter Try.func108, Try.ntmps108
  go_wp2_with (go_at_call 102; refine (within_f _ _ _ _ (by omega)).mono ?_; rintro e w' ⟨rfl, rfl⟩)
  go_returns
  exact ⟨ret_pair (unhide HP), _, rfl⟩
theorem one_below (w : World) (o : Obj) : Below w.heap.size w (w.alloc o) := (Below.refl _ _).alloc (Nat.le_refl _) o
theorem two_below (w : World) (o o' : Obj) : Below w.heap.size w ((w.alloc o).alloc o') := (one_below w o).alloc (by simp) o'
set_option maxHeartbeats 4000000 in
set_option maxRecDepth 100000 in
theorem partsI (form p : Int) (k : Bool) (w : World) (hk : k = true ↔ form = 3 ∨ form = 4) :
    Calls Try.prog 92 #[.int .i64 form, .int .i64 p] w fun e w' => e = .returned (pairV (pairZ k p)) ∧ Below w.heap.size w w' := by
  by_cases c1 : 8192 ≤ p ∧ p ≤ 8607
  · obtain ⟨q, hq⟩ : ∃ q, (p - 8192) / 8 = q := ⟨_, rfl⟩
    obtain ⟨r, hr⟩ : ∃ r, (p - 8192) % 8 = r := ⟨_, rfl⟩
    have e1 : (p - 8192).tdiv 8 = q := by rw [Int.tdiv_eq_ediv_of_nonneg (by omega)]; exact hq
    have e2 : p.tmod 8 = r := by rw [Int.tmod_eq_emod_of_nonneg (by omega)]; omega
    have b1 : 0 ≤ q ∧ q ≤ 51 := by omega
    have b2 : 0 ≤ r ∧ r ≤ 7 := by omega
    have HP : Hid (pairZ k p = (letterZ q, 4096 + r)) := hide (pair_two (by unfold partsZ; rw [if_pos c1, hq, hr]))
    clear hq hr
    go_enter Try.func92, Try.ntmps92
    go_wp2_with (first | (go_at_call 102; refine (within_t _ _ _ _ (by omega)).mono ?_; rintro e w' ⟨rfl, rfl⟩) | (go_at_call 106; refine (letterI _ _ (by omega)).mono ?_; rintro e w' ⟨rfl, rfl⟩))
    go_returns
    exact ⟨ret_pair (unhide HP), one_below _ _⟩
  by_cases c2 : 8704 ≤ p ∧ p ≤ 9119
  · obtain ⟨q, hq⟩ : ∃ q, (p - 8704) / 8 = q := ⟨_, rfl⟩
    obtain ⟨r, hr⟩ : ∃ r, (p - 8704) % 8 = r := ⟨_, rfl⟩
    have e1 : (p - 8704).tdiv 8 = q := by rw [Int.tdiv_eq_ediv_of_nonneg (by omega)]; exact hq
    have e2 : p.tmod 8 = r := by rw [Int.tmod_eq_emod_of_nonneg (by omega)]; omega
    have b1 : 0 ≤ q ∧ q ≤ 51 := by omega
    have b2 : 0 ≤ r ∧ r ≤ 7 := by omega
    have HP : Hid (pairZ k p = (letterZ q, 4112 + r)) := hide (pair_two (by unfold partsZ; rw [if_neg c1, if_pos c2, hq, hr]))
    clear hq hr
    go_enter Try.func92, Try.ntmps92
    go_wp2_with (first | (go_at_call 102; refine (within_t _ _ _ _ (by omega)).mono ?_; rintro e w' ⟨rfl, rfl⟩) | (go_at_call 102; refine (within_f _ _ _ _ (by omega)).mono ?_; rintro e w' ⟨rfl, rfl⟩) | (go_at_call 106; refine (letterI _ _ (by omega)).mono ?_; rintro e w' ⟨rfl, rfl⟩))
    go_returns
    exact ⟨ret_pair (unhide HP), one_below _ _⟩
  by_cases c3 : 9216 ≤ p ∧ p ≤ 9631
  · have HP : Hid (pairZ k p = (p - 512, 4096)) := hide (pair_two (by unfold partsZ; rw [if_neg c1, if_neg c2, if_pos c3]))
    go_enter Try.func92, Try.ntmps92
    go_wp2_with (first | (go_at_call 102; refine (within_t _ _ _ _ (by omega)).mono ?_; rintro e w' ⟨rfl, rfl⟩) | (go_at_call 102; refine (within_f _ _ _ _ (by omega)).mono ?_; rintro e w' ⟨rfl, rfl⟩))
    go_returns
    exact ⟨ret_pair (unhide HP), one_below _ _⟩
  by_cases c4 : 9728 ≤ p ∧ p ≤ 9753
  · have HP : Hid (pairZ k p = (65 + p - 9728, -1)) := hide (by
      rw [pair_one (a := p - 9728 + 65) (by unfold partsZ; rw [if_neg c1, if_neg c2, if_neg c3, if_pos c4])]
      congr 1
      omega)
    go_enter Try.func92, Try.ntmps92
    go_wp2_with (first | (go_at_call 102; refine (within_t _ _ _ _ (by omega)).mono ?_; rintro e w' ⟨rfl, rfl⟩) | (go_at_call 102; refine (within_f _ _ _ _ (by omega)).mono ?_; rintro e w' ⟨rfl, rfl⟩))
    go_returns
    exact ⟨ret_pair (unhide HP), one_below _ _⟩
  by_cases c5 : 12288 ≤ p ∧ p ≤ 23459
  · have hz : pairZ false p = pairZ k p := by
      rw [pairZ_L, pairZ_L]
      unfold partsZ
      rw [if_neg c1, if_neg c2, if_neg c3, if_neg c4, if_pos c5, if_neg c1, if_neg c2, if_neg c3, if_neg c4, if_pos c5]
    have SY := hide (fun W => syllableI p W c5)
    rw [hz] at SY
    generalize pairZ k p = z at *
    obtain ⟨za, zb⟩ := z
    clear hz
    go_enter Try.func92, Try.ntmps92
    go_wp2_with (first | (go_at_call 102; refine (within_t _ _ _ _ (by omega)).mono ?_; rintro e w' ⟨rfl, rfl⟩) | (go_at_call 102; refine (within_f _ _ _ _ (by omega)).mono ?_; rintro e w' ⟨rfl, rfl⟩) | (go_at_call 107; refine ((unhide SY) _).mono ?_; rintro e w' ⟨rfl, o, rfl⟩; simp only [pairV]))
    go_returns
    exact ⟨rfl, two_below _ _ _⟩
  cases k with
  | true =>
    have hz : pairL p (wideZ p) = pairZ true p := by
      rw [pairZ_L]
      unfold partsZ
      rw [if_neg c1, if_neg c2, if_neg c3, if_neg c4, if_neg c5, if_pos rfl]
    have SY := hide (fun W => looseI p W)
    rw [hz] at SY
    generalize pairZ true p = z at *
    obtain ⟨za, zb⟩ := z
    clear hz
    have hf := hk.1 rfl
    clear hk
    rcases hf with rfl | rfl
    · go_enter Try.func92, Try.ntmps92
      go_wp2_with (first | (go_at_call 102; refine (within_f _ _ _ _ (by omega)).mono ?_; rintro e w' ⟨rfl, rfl⟩) | (go_at_call 108; refine ((unhide SY) _).mono ?_; rintro e w' ⟨rfl, o, rfl⟩; simp only [pairV]))
      go_returns
      exact ⟨rfl, two_below _ _ _⟩
    · go_enter Try.func92, Try.ntmps92
      go_wp2_with (first | (go_at_call 102; refine (within_f _ _ _ _ (by omega)).mono ?_; rintro e w' ⟨rfl, rfl⟩) | (go_at_call 108; refine ((unhide SY) _).mono ?_; rintro e w' ⟨rfl, o, rfl⟩; simp only [pairV]))
      go_returns
      exact ⟨rfl, two_below _ _ _⟩
  | false =>
    have n3 : ¬ form = 3 := fun h => by have := hk.2 (.inl h); cases this
    have n4 : ¬ form = 4 := fun h => by have := hk.2 (.inr h); cases this
    have t3 : (form == 3) = false := by simpa using n3
    have t4 : (form == 4) = false := by simpa using n4
    have HP : Hid (pairZ false p = (p, -1)) := hide (pair_none (by unfold partsZ; rw [if_neg c1, if_neg c2, if_neg c3, if_neg c4, if_neg c5, if_neg (by simp)]))
    clear hk
    go_enter Try.func92, Try.ntmps92
    go_wp2_with (go_at_call 102; refine (within_f _ _ _ _ (by omega)).mono ?_; rintro e w' ⟨rfl, rfl⟩)
    go_returns
    exact ⟨ret_pair (unhide HP), one_below _ _⟩
end Go.Proofs.Ytnfdkcphmolkiaa
