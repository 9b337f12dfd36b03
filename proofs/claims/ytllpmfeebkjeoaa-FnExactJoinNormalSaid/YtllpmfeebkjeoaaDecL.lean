/- The law of Decompose. -/
import Derived.Test.YtllpmfeebkjeoaaMC
namespace Go.Proofs.Ytllpmfeebkjeoaa
open Go.RowKit
theorem isPointS' (p : Int) (w : World) : Calls Try.prog 24 #[.int .i64 p] w fun e w' => e = .returned (.bool (isP p)) ∧ w' = w := by
  by_cases h1 : 0 ≤ p
  · by_cases h2 : p ≤ 1114111
    · by_cases h3 : p < 55296
      · have HP : Hid (isP p = true) := hide (decide_eq_true (by omega))
        go_enter Try.func24, Try.ntmps24
        go_wp2
        go_ret
        exact ⟨ret_bool (unhide HP).symm, rfl⟩
      · by_cases h4 : 57343 < p
        · have HP : Hid (isP p = true) := hide (decide_eq_true (by omega))
          go_enter Try.func24, Try.ntmps24
          go_wp2
          go_ret
          exact ⟨ret_bool (unhide HP).symm, rfl⟩
        · have HP : Hid (isP p = false) := hide (decide_eq_false (by omega))
          go_enter Try.func24, Try.ntmps24
          go_wp2
          go_ret
          exact ⟨ret_bool (unhide HP).symm, rfl⟩
    · have HP : Hid (isP p = false) := hide (decide_eq_false (by omega))
      go_enter Try.func24, Try.ntmps24
      go_wp2
      go_ret
      exact ⟨ret_bool (unhide HP).symm, rfl⟩
  · have HP : Hid (isP p = false) := hide (decide_eq_false (by omega))
    go_enter Try.func24, Try.ntmps24
    go_wp2
    go_ret
    exact ⟨ret_bool (unhide HP).symm, rfl⟩
theorem isFormS (f : Int) (w : World) : Calls Try.prog 25 #[.int .i64 f] w fun e w' => e = .returned (.bool (isF f)) ∧ w' = w := by
  by_cases h1 : 1 ≤ f
  · by_cases h2 : f ≤ 4
    · have HP : Hid (isF f = true) := hide (decide_eq_true (by omega))
      go_enter Try.func25, Try.ntmps25
      go_wp2
      go_ret
      exact ⟨ret_bool (unhide HP).symm, rfl⟩
    · have HP : Hid (isF f = false) := hide (decide_eq_false (by omega))
      go_enter Try.func25, Try.ntmps25
      go_wp2
      go_ret
      exact ⟨ret_bool (unhide HP).symm, rfl⟩
  · have HP : Hid (isF f = false) := hide (decide_eq_false (by omega))
    go_enter Try.func25, Try.ntmps25
    go_wp2
    go_ret
    exact ⟨ret_bool (unhide HP).symm, rfl⟩
theorem isKS (f : Int) (w : World) (h : isF f = true) : Calls Try.prog 27 #[.int .i64 f] w fun e w' => e = .returned (.bool (isK f)) ∧ w' = w := by
  have hb := of_decide_eq_true h
  by_cases h1 : 3 ≤ f
  · have HP : Hid (isK f = true) := hide (decide_eq_true (by omega))
    go_enter Try.func27, Try.ntmps27
    go_wp2
    go_ret
    exact ⟨ret_bool (unhide HP).symm, rfl⟩
  · have HP : Hid (isK f = false) := hide (decide_eq_false (by omega))
    go_enter Try.func27, Try.ntmps27
    go_wp2
    go_ret
    exact ⟨ret_bool (unhide HP).symm, rfl⟩
theorem specDec (p form : Int) (w : World) : Calls Try.prog 9 #[.int .i64 p, .int .i64 form] w fun e w' => NewRow w w' e (decL p form) := by
  by_cases hp : isP p = true
  · by_cases hf : isF form = true
    · have HD : Hid (decL p form = allF (isK form) 2 p) := hide (if_pos ⟨hp, hf⟩)
      have hb := of_decide_eq_true hp
      have HC := hide (fun W => allS (isK form) 2 (Nat.le_refl _) p W (all_deep _ p) ⟨hb.1, hb.2.1⟩)
      have HI := hide (fun W => isPointS' p W)
      have HF := hide (fun W => isFormS form W)
      have HK := hide (fun W => isKS form W hf)
      rw [hp] at HI
      rw [hf] at HF
      clear hp hf hb
      generalize isK form = kb at *
      go_enter Try.func9, Try.ntmps9
      go_wp2_with (first | (go_at_call 24; refine ((unhide HI) _).mono ?_; rintro e w1 ⟨rfl, rfl⟩) | (go_at_call 25; refine ((unhide HF) _).mono ?_; rintro e w1 ⟨rfl, rfl⟩) | (go_at_call 27; refine ((unhide HK) _).mono ?_; rintro e w1 ⟨rfl, rfl⟩) | (go_at_call 26; refine ((unhide HC) _).mono ?_; rintro e w2 ⟨v, rfl, ho, hb2⟩))
      go_ret
      rw [unhide HD]
      exact ⟨v, rfl, ho, hb2⟩
    · have HD : Hid (decL p form = []) := hide (if_neg (fun h => hf h.2))
      have HI := hide (fun W => isPointS' p W)
      have HF := hide (fun W => isFormS form W)
      rw [hp] at HI
      have hf' : isF form = false := by simpa using hf
      rw [hf'] at HF
      clear hp hf hf'
      go_enter Try.func9, Try.ntmps9
      go_wp2_with (first | (go_at_call 24; refine ((unhide HI) _).mono ?_; rintro e w1 ⟨rfl, rfl⟩) | (go_at_call 25; refine ((unhide HF) _).mono ?_; rintro e w1 ⟨rfl, rfl⟩))
      go_ret
      exact ⟨_, rfl, row0 _ (unhide HD), one_below _ _⟩
  · have HD : Hid (decL p form = []) := hide (if_neg (fun h => hp h.1))
    have HI := hide (fun W => isPointS' p W)
    have hp' : isP p = false := by simpa using hp
    rw [hp'] at HI
    clear hp hp'
    go_enter Try.func9, Try.ntmps9
    go_wp2_with (go_at_call 24; refine ((unhide HI) _).mono ?_; rintro e w1 ⟨rfl, rfl⟩)
    go_ret
    exact ⟨_, rfl, row0 _ (unhide HD), one_below _ _⟩
theorem decL_len (p form : Int) : (decL p form).length ≤ 4 := by
  unfold decL
  split
  · exact (allF_len _ 2 p).2
  · simp
set_option maxHeartbeats 4000000 in
set_option maxRecDepth 100000 in
theorem lawDec (p form : Int) (w : World) (_ : (Lit.int .i64 p).wf = true) (_ : (Lit.int .i64 form).wf = true) :
    Calls Try.prog 3 #[.int .i64 p, .int .i64 form] w fun e w' => e = .returned (.bool true) ∧ Below w.heap.size w w' := by
  have hl := decL_len p form
  have IM := hide (fun W => implDec p form W)
  have SP := hide (fun W => specDec p form W)
  generalize decL p form = l at *
  have hl' : l.length ≤ 1048576 := by omega
  go_enter Try.func3, Try.ntmps3
  go_wp2_with fail
  refine ((unhide SP) _).mono ?_
  rintro e w1 ⟨sv, rfl, ho, hb⟩
  obtain ⟨a1, c1, rfl⟩ := form_ownI ho
  have S1 := hide ho
  have L1 : Hid (∀ k, (Value.slice a1 l.length c1).ownBlock = some k → k < w1.heap.size) := hide (fun k hk => (World.ownsRow.lt ho k hk).2)
  have W1 := hide hb
  clear ho hb
  go_wp2_with fail
  refine ((unhide IM) _).mono ?_
  rintro e w2 ⟨gv, rfl, ho, hb⟩
  obtain ⟨a2, c2, rfl⟩ := form_ownI ho
  have G2 := hide ho
  have S2 := hide (ownsRow_below (unhide S1) hb)
  have L2 : Hid (∀ k, (Value.slice a2 l.length c2).ownBlock = some k → w1.heap.size ≤ k) := hide (fun k hk => (World.ownsRow.lt ho k hk).1)
  have W2 := hide ((unhide W1).trans (hb.mono (unhide W1).size))
  have z2 := hb.size
  have z1 := (unhide W1).size
  clear ho hb S1 W1
  go_wp2_with fail
  refine (eqInts _ _ l _ (IntsAt.owned (unhide G2)) (IntsAt.owned (unhide S2)) hl').mono ?_
  rintro e w3 ⟨rfl, hb⟩
  have G3 := hide (ownsRow_below (unhide G2) hb)
  have S3 := hide (ownsRow_below (unhide S2) hb)
  have W3 := hide ((unhide W2).trans (hb.mono (unhide W2).size))
  have z3 := hb.size
  clear hb G2 S2 W2
  go_wp2_with fail
  refine (markI_own _ l.length _ _ 1 _ (by omega) hl' (unhide G3)).mono ?_
  rintro e w4 ⟨rfl, ho, hg⟩
  have G4 := hide ho
  have S4 := hide (World.ownsRow.kept (unhide S3) hg (by
    cases hv : (Value.slice a1 l.length c1).ownBlock with
    | none => exact .inl rfl
    | some k => exact .inr (fun e => by have := unhide L1 k hv; have := unhide L2 k e.symm; omega)))
  have W4 := hide ((unhide W3).grown hg (unhide W3).size (fun k hk => by have := unhide L2 k hk; omega))
  clear ho hg G3 S3 W3
  have hpos : ¬ (1 + (l.length : Int)) < 0 := by omega
  have hne : ((1 + (l.length : Int)) != (1 + (l.length : Int))) = false := by simp
  go_wp2_with fail
  refine (heldI_own _ l.length _ 1 _ (by omega) hl' (unhide G4)).mono ?_
  rintro e w5 ⟨rfl, rfl⟩
  go_wp2_with fail
  refine ((unhide IM) _).mono ?_
  rintro e w6 ⟨hv, rfl, ho, hb⟩
  obtain ⟨a3, c3, rfl⟩ := form_ownI ho
  have H6 := hide ho
  have G6 := hide (ownsRow_below (unhide G4) hb)
  have S6 := hide (ownsRow_below (unhide S4) hb)
  have W6 := hide ((unhide W4).trans (hb.mono (unhide W4).size))
  clear ho hb G4 S4 W4
  go_wp2_with fail
  refine (eqInts _ _ l _ (IntsAt.owned (unhide H6)) (IntsAt.owned (unhide S6)) hl').mono ?_
  rintro e w7 ⟨rfl, hb⟩
  have G7 := hide (ownsRow_below (unhide G6) hb)
  have W7 := hide ((unhide W6).trans (hb.mono (unhide W6).size))
  clear hb G6 S6 W6 H6
  go_wp2_with fail
  refine (heldI_own _ l.length _ 1 _ (by omega) hl' (unhide G7)).mono ?_
  rintro e w8 ⟨rfl, rfl⟩
  go_wp2
  go_ret
  exact ⟨rfl, unhide W7⟩
end Go.Proofs.Ytllpmfeebkjeoaa
