/- The points of two parts of which one is the first, handed on by an iterator. -/
import Derived.Test.YtjdginjohajmaaaGreatDoorCmpP
import Derived.Test.YtjdginjohajmaaaGreatDoorMC
namespace Go.Proofs.YtjdginjohajmaaaGreatDoor
open Go.RowKit Go.Shelf
attribute [local go_sem] Oper.semAt_some
theorem letNoI (p : Int) (w : World) : Calls Tryz.prog 121 #[.int .i64 p] w fun e w' => e = .returned (.int .i64 (letNo p)) ∧ w' = w := by
  by_cases h1 : 65 ≤ p ∧ p ≤ 90
  · have HE : Hid (letNo p = p - 65) := hide (if_pos h1)
    go_enter Tryz.func121, Tryz.ntmps121
    go_wp2_with (go_at_call 84; refine (within_t _ _ _ _ (by omega)).mono ?_; rintro e w' ⟨rfl, rfl⟩)
    go_ret
    exact ⟨ret_int (unhide HE).symm, rfl⟩
  by_cases h2 : 97 ≤ p ∧ p ≤ 122
  · have HE : Hid (letNo p = p - 97 + 26) := hide (by unfold letNo; rw [if_neg h1, if_pos h2])
    go_enter Tryz.func121, Tryz.ntmps121
    go_wp2_with (first | (go_at_call 84; refine (within_t _ _ _ _ (by omega)).mono ?_; rintro e w' ⟨rfl, rfl⟩) | (go_at_call 84; refine (within_f _ _ _ _ (by omega)).mono ?_; rintro e w' ⟨rfl, rfl⟩))
    go_ret
    exact ⟨ret_int (unhide HE).symm, rfl⟩
  have HE : Hid (letNo p = -1) := hide (by unfold letNo; rw [if_neg h1, if_neg h2])
  go_enter Tryz.func121, Tryz.ntmps121
  go_wp2_with (go_at_call 84; refine (within_f _ _ _ _ (by omega)).mono ?_; rintro e w' ⟨rfl, rfl⟩)
  go_ret
  exact ⟨ret_int (unhide HE).symm, rfl⟩
theorem isSecI (p : Int) (w : World) : Calls Tryz.prog 106 #[.int .i64 p] w fun e w' => e = .returned (.bool (isSec p)) ∧ w' = w := by
  by_cases h1 : 1824 ≤ p ∧ p ≤ 1844
  · have HE : Hid (isSec p = true) := hide (decide_eq_true (by omega))
    go_enter Tryz.func106, Tryz.ntmps106
    go_wp2_with (go_at_call 84; refine (within_t _ _ _ _ (by omega)).mono ?_; rintro e w' ⟨rfl, rfl⟩)
    go_ret
    exact ⟨ret_bool (unhide HE).symm, rfl⟩
  by_cases h2 : 1857 ≤ p ∧ p ≤ 1883
  · have HE : Hid (isSec p = true) := hide (decide_eq_true (by omega))
    go_enter Tryz.func106, Tryz.ntmps106
    go_wp2_with (first | (go_at_call 84; refine (within_t _ _ _ _ (by omega)).mono ?_; rintro e w' ⟨rfl, rfl⟩) | (go_at_call 84; refine (within_f _ _ _ _ (by omega)).mono ?_; rintro e w' ⟨rfl, rfl⟩))
    go_ret
    exact ⟨ret_bool (unhide HE).symm, rfl⟩
  by_cases h3 : 4096 ≤ p ∧ p ≤ 4103
  · have HE : Hid (isSec p = true) := hide (decide_eq_true (by omega))
    go_enter Tryz.func106, Tryz.ntmps106
    go_wp2_with (first | (go_at_call 84; refine (within_t _ _ _ _ (by omega)).mono ?_; rintro e w' ⟨rfl, rfl⟩) | (go_at_call 84; refine (within_f _ _ _ _ (by omega)).mono ?_; rintro e w' ⟨rfl, rfl⟩))
    go_ret
    exact ⟨ret_bool (unhide HE).symm, rfl⟩
  by_cases h4 : 4112 ≤ p ∧ p ≤ 4119
  · have HE : Hid (isSec p = true) := hide (decide_eq_true (by omega))
    go_enter Tryz.func106, Tryz.ntmps106
    go_wp2_with (first | (go_at_call 84; refine (within_t _ _ _ _ (by omega)).mono ?_; rintro e w' ⟨rfl, rfl⟩) | (go_at_call 84; refine (within_f _ _ _ _ (by omega)).mono ?_; rintro e w' ⟨rfl, rfl⟩))
    go_ret
    exact ⟨ret_bool (unhide HE).symm, rfl⟩
  have HE : Hid (isSec p = false) := hide (decide_eq_false (by omega))
  go_enter Tryz.func106, Tryz.ntmps106
  go_wp2_with (go_at_call 84; refine (within_f _ _ _ _ (by omega)).mono ?_; rintro e w' ⟨rfl, rfl⟩)
  go_ret
  exact ⟨ret_bool (unhide HE).symm, rfl⟩
theorem rowL_prefix (f s : Int) (j m : Nat) : rowL f s j <+: rowL f s (j + m) := by
  unfold rowL
  have e : List.range (j + m) = List.range j ++ (List.range m).map (j + ·) := List.range_add ..
  rw [e, List.map_append]
  exact List.prefix_append _ _
set_option maxRecDepth 100000 in
set_option maxHeartbeats 2000000 in
theorem row_in (first step : Int) (cnt : Nat) (hf : 0 ≤ first ∧ first ≤ 100000) (hs : 0 ≤ step ∧ step ≤ 28) (hc : cnt ≤ 27) (l N : Nat) (J Jx : List Int → World → Prop) (hY : Takes l N J Jx) (n : Nat) (pre : List Int) (W : World)
    (hJ : J pre W) (hN : pre.length + cnt ≤ N) :
    CallsIn Fence.wide n Tryz.prog 122 #[.int .i64 first, .int .i64 step, .int .i64 cnt, .func (.yield l) #[] #[]] W (Handed J Jx pre (rowL first step cnt) W) := by
  have HJ : Hid (J (pre ++ rowL first step 0) W) := hide (by simpa [rowL] using hJ)
  have HK : Hid (KeepP W W) := hide (KeepP.refl _)
  have HY := hide hY
  clear hJ hY
  refine callsIn_of_wp Tryz.func122 rfl trivial ?_ rfl
  simp only [Tryz.ntmps122, List.size_toArray, List.length_cons, List.length_nil, Nat.reduceAdd, Nat.reduceSub, Array.replicate_succ, Array.replicate_zero, List.push_toArray, List.append_toArray, List.nil_append, List.cons_append]
  gi_wp2
  gi_loopw [11] (fun i wr => ∃ j : Nat, j ≤ cnt ∧ i = .int .i64 j ∧ Hid (J (pre ++ rowL first step j) wr) ∧ Hid (KeepP W wr)) (fun i _ => cnt - (intOf i).toNat)
  case atStart => exact ⟨0, Nat.zero_le _, rfl, HJ, HK⟩
  case round =>
    obtain ⟨j, hj, rfl, HJj, HKj⟩ := hrel
    clear HJ HK
    by_cases hlt : j < cnt
    · have hlt' : (j : Int) < (cnt : Int) := by omega
      have hm0 : 0 ≤ (j : Int) * step := Int.mul_nonneg (by omega) hs.1
      have hm1 : (j : Int) * step ≤ 27 * 28 := Int.mul_le_mul (by omega) hs.2 hs.1 (by omega)
      have hR0 := (unhide HY) (n - 1) (pre ++ rowL first step j) (first + (j : Int) * step) wr (unhide HJj) (by rw [List.length_append, rowL_len]; omega)
      rw [List.append_assoc, ← rowL_succ] at hR0
      obtain ⟨fn, tmps, assign, body, hy, hR⟩ := hR0
      gi_wp2_with (first | refine hR.mono ?_ | refine ⟨(fun h => (by cases h)), hR.mono ?_⟩; clear hR; rintro e W2 (⟨rfl, hJ2, hk2⟩ | ⟨rfl, hx2⟩))
      · have HJ2 := hide hJ2
        have HK2 := hide ((unhide HKj).trans hk2)
        clear hJ2 hk2
        gi_wp2
        go_roundw
        case rel => exact ⟨j + 1, by omega, by go_num, HJ2, HK2⟩
        case measure => simp [intOf]; omega
      · have HX := hide hx2
        clear hx2
        gi_wp2
        go_ret
        refine .inr ⟨rfl, rowL first step (j + 1), ?_, unhide HX⟩
        obtain ⟨m, rfl⟩ : ∃ m, cnt = j + 1 + m := ⟨cnt - (j + 1), by omega⟩
        exact rowL_prefix first step (j + 1) m
    · obtain rfl : j = cnt := by omega
      gi_wp2
      go_ret
      exact .inl ⟨rfl, unhide HJj, unhide HKj⟩
/-- How an iterator's call ends. -/
def Iters (J Jx : List Int → World → Prop) (xs : List Int) (e : Ending) (W' : World) : Prop := (∃ v, e = .returned v) ∧ ((∃ ys, ys = xs ∧ J ys W') ∨ (∃ pre, pre <+: xs ∧ Jx pre W'))
set_option maxRecDepth 100000 in
set_option maxHeartbeats 4000000 in
theorem wholes1_in (n : Nat) (a : Int) (l b1 : Nat) (J Jx : List Int → World → Prop) (W : World)
    (hY : ∀ pre x W, J pre W → pre.length < (wholesL a).length → YieldAt Fence.wide (n - 1) Tryz.prog l #[.int .i64 x] W fun e W' =>
      (e = .returned (.bool true) ∧ J (pre ++ [x]) W' ∧ KeepP W W') ∨ (e = .returned (.bool false) ∧ Jx (pre ++ [x]) W'))
    (h1 : W.cell? ⟨b1, 0, none⟩ = some (.int .i64 a)) (h0 : J [] W) :
    CallsIn Fence.wide n Tryz.prog 120 #[.func (.yield l) #[] #[], .pointer (some ⟨b1, 0, none⟩)] W (Iters J Jx (wholesL a)) := by
  have HT : Takes l (wholesL a).length J Jx := fun m pre x W hj hl => yield_any m (hY pre x W hj hl)
  have LN := (callsIn_wide (n := n - 1)).2 (letNoI a W)
  clear hY
  by_cases c1 : 0 ≤ letNo a
  · have hl := (letNo_bd a).resolve_left (by omega)
    obtain ⟨_, h51, _⟩ := hl
    have hw : wholesL a = rowL (8192 + 8 * letNo a) 1 8 ++ rowL (8704 + 8 * letNo a) 1 8 := if_pos c1
    rw [hw] at HT ⊢
    rw [List.length_append, rowL_len, rowL_len] at HT
    generalize letNo a = i at *
    have R1 := (row_in (8192 + 8 * i) 1 8 (by omega) (by omega) (by omega) l (8 + 8) J Jx HT (n - 1) [] W h0 (by simp)).mono (R' := fun e W1 =>
        (e = .returned (.bool true) ∧ CallsIn Fence.wide (n - 1) Tryz.prog 122 #[.int .i64 (8704 + 8 * i), .int .i64 1, .int .i64 8, .func (.yield l) #[] #[]] W1 (Handed J Jx (rowL (8192 + 8 * i) 1 8) (rowL (8704 + 8 * i) 1 8) W1)) ∨ (e = .returned (.bool false) ∧ ∃ q, q <+: rowL (8192 + 8 * i) 1 8 ∧ Jx q W1))
      (fun e W1 g => g.elim (fun ⟨he, hj, _⟩ => .inl ⟨he, row_in (8704 + 8 * i) 1 8 (by omega) (by omega) (by omega) l (8 + 8) J Jx HT (n - 1) _ W1 (by simpa using hj) (by rw [rowL_len]; omega)⟩) (fun ⟨he, q, hq, hx⟩ => .inr ⟨he, q, hq, by simpa using hx⟩))
    clear HT hw
    refine callsIn_of_wp Tryz.func120 rfl trivial ?_ rfl
    simp only [Tryz.ntmps120, List.size_toArray, List.length_cons, List.length_nil, Nat.reduceAdd, Nat.reduceSub, Array.replicate_succ, Array.replicate_zero, List.push_toArray, List.append_toArray, List.nil_append, List.cons_append]
    gi_wp2_with (first
      | (refine ⟨trivial, (fun h => (by cases h)), ?_⟩; gi_at_call 121; refine LN.mono ?_; clear LN; rintro e W1 ⟨rfl, rfl⟩)
      | (refine ⟨trivial, (fun h => (by cases h)), ?_⟩; gi_at_call 122; refine R1.mono ?_; clear R1; rintro e W2 (⟨rfl, hS⟩ | ⟨rfl, q, hq, hx⟩))
      | (refine ⟨trivial, (fun h => (by cases h)), ?_⟩; gi_at_call 122; refine hS.mono ?_; clear hS; rintro e W3 (⟨rfl, hJ3, _⟩ | ⟨rfl, q, ⟨r, hr⟩, hx⟩)))
    · go_end0
      exact ⟨⟨_, rfl⟩, .inl ⟨_, rfl, hJ3⟩⟩
    · go_end0
      exact ⟨⟨_, rfl⟩, .inr ⟨_, ⟨r, by rw [List.append_assoc, hr]⟩, hx⟩⟩
    · refine ⟨trivial, ?_⟩
      gi_wp2
      go_end0
      exact ⟨⟨_, rfl⟩, .inr ⟨q, hq.trans (List.prefix_append _ _), hx⟩⟩
  have hn1 : letNo a = -1 := (letNo_bd a).resolve_right (fun h => c1 h.1)
  rw [hn1] at LN
  by_cases c2 : 8704 ≤ a ∧ a ≤ 9119
  · have hw : wholesL a = rowL (a + 512) 1 1 := by unfold wholesL; rw [if_neg c1, if_pos c2]
    rw [hw] at HT ⊢
    rw [rowL_len] at HT
    have R1 := row_in (a + 512) 1 1 (by omega) (by omega) (by omega) l 1 J Jx HT (n - 1) [] W h0 (by simp)
    have WT := (callsIn_wide (n := n - 1)).2 (within_t a 8704 9119 W c2)
    clear HT hw hn1 c1
    refine callsIn_of_wp Tryz.func120 rfl trivial ?_ rfl
    simp only [Tryz.ntmps120, List.size_toArray, List.length_cons, List.length_nil, Nat.reduceAdd, Nat.reduceSub, Array.replicate_succ, Array.replicate_zero, List.push_toArray, List.append_toArray, List.nil_append, List.cons_append]
    gi_wp2_with (first
      | (refine ⟨trivial, (fun h => (by cases h)), ?_⟩; gi_at_call 121; refine LN.mono ?_; clear LN; rintro e W1 ⟨rfl, rfl⟩)
      | (refine ⟨trivial, (fun h => (by cases h)), ?_⟩; gi_at_call 84; refine WT.mono ?_; clear WT; rintro e W1 ⟨rfl, rfl⟩)
      | (refine ⟨trivial, (fun h => (by cases h)), ?_⟩; gi_at_call 122; refine R1.mono ?_; clear R1; rintro e W3 (⟨rfl, hJ3, _⟩ | ⟨rfl, q, hq, hx⟩)))
    · go_end0
      exact ⟨⟨_, rfl⟩, .inl ⟨_, rfl, by simpa using hJ3⟩⟩
    · go_end0
      exact ⟨⟨_, rfl⟩, .inr ⟨q, hq, by simpa using hx⟩⟩
  by_cases c3 : 1792 ≤ a ∧ a ≤ 1810
  · have hw : wholesL a = rowL (12288 + (a - 1792) * 21 * 28) 28 21 := by unfold wholesL; rw [if_neg c1, if_neg c2, if_pos c3]
    rw [hw] at HT ⊢
    rw [rowL_len] at HT
    have R1 := row_in (12288 + (a - 1792) * 21 * 28) 28 21 (by omega) (by omega) (by omega) l 21 J Jx HT (n - 1) [] W h0 (by simp)
    have WF := (callsIn_wide (n := n - 1)).2 (within_f a 8704 9119 W c2)
    have WT := (callsIn_wide (n := n - 1)).2 (lead_t a W c3)
    clear HT hw hn1 c1 c2
    refine callsIn_of_wp Tryz.func120 rfl trivial ?_ rfl
    simp only [Tryz.ntmps120, List.size_toArray, List.length_cons, List.length_nil, Nat.reduceAdd, Nat.reduceSub, Array.replicate_succ, Array.replicate_zero, List.push_toArray, List.append_toArray, List.nil_append, List.cons_append]
    gi_wp2_with (first
      | (refine ⟨trivial, (fun h => (by cases h)), ?_⟩; gi_at_call 121; refine LN.mono ?_; clear LN; rintro e W1 ⟨rfl, rfl⟩)
      | (refine ⟨trivial, (fun h => (by cases h)), ?_⟩; gi_at_call 84; refine WF.mono ?_; clear WF; rintro e W1 ⟨rfl, rfl⟩)
      | (refine ⟨trivial, (fun h => (by cases h)), ?_⟩; gi_at_call 123; refine WT.mono ?_; clear WT; rintro e W1 ⟨rfl, rfl⟩)
      | (refine ⟨trivial, (fun h => (by cases h)), ?_⟩; gi_at_call 122; refine R1.mono ?_; clear R1; rintro e W3 (⟨rfl, hJ3, _⟩ | ⟨rfl, q, hq, hx⟩)))
    · go_end0
      exact ⟨⟨_, rfl⟩, .inl ⟨_, rfl, by simpa using hJ3⟩⟩
    · go_end0
      exact ⟨⟨_, rfl⟩, .inr ⟨q, hq, by simpa using hx⟩⟩
  have WF := (callsIn_wide (n := n - 1)).2 (within_f a 8704 9119 W c2)
  have WG := (callsIn_wide (n := n - 1)).2 (lead_f a W c3)
  by_cases c4 : 12288 ≤ a ∧ a ≤ 23459
  · have WT := (callsIn_wide (n := n - 1)).2 (syll_t a W c4)
    obtain ⟨r, hr⟩ : ∃ r, (a - 12288) % 28 = r := ⟨_, rfl⟩
    have e1 : (a - 12288).tmod 28 = r := by rw [Int.tmod_eq_emod_of_nonneg (by omega)]; exact hr
    have WH := (callsIn_wide (n := n - 1)).2 (tail_any a W c4 r e1)
    by_cases c5 : r = 0
    · have hw : wholesL a = rowL (a + 1) 1 27 := by unfold wholesL; rw [if_neg c1, if_neg c2, if_neg c3, if_pos ⟨c4.1, c4.2, hr.trans c5⟩]
      rw [hw] at HT ⊢
      rw [rowL_len] at HT
      have R1 := row_in (a + 1) 1 27 (by omega) (by omega) (by omega) l 27 J Jx HT (n - 1) [] W h0 (by simp)
      subst c5
      have t0 : ((0 : Int) != 0) = false := rfl
      clear HT hw hn1 c1 c2 c3 hr
      refine callsIn_of_wp Tryz.func120 rfl trivial ?_ rfl
      simp only [Tryz.ntmps120, List.size_toArray, List.length_cons, List.length_nil, Nat.reduceAdd, Nat.reduceSub, Array.replicate_succ, Array.replicate_zero, List.push_toArray, List.append_toArray, List.nil_append, List.cons_append]
      gi_wp2_with (first
        | (refine ⟨trivial, (fun h => (by cases h)), ?_⟩; gi_at_call 121; refine LN.mono ?_; clear LN; rintro e W1 ⟨rfl, rfl⟩)
        | (refine ⟨trivial, (fun h => (by cases h)), ?_⟩; gi_at_call 84; refine WF.mono ?_; clear WF; rintro e W1 ⟨rfl, rfl⟩)
        | (refine ⟨trivial, (fun h => (by cases h)), ?_⟩; gi_at_call 123; refine WG.mono ?_; clear WG; rintro e W1 ⟨rfl, rfl⟩)
        | (refine ⟨trivial, (fun h => (by cases h)), ?_⟩; gi_at_call 116; refine WT.mono ?_; clear WT; rintro e W1 ⟨rfl, rfl⟩)
        | (refine ⟨trivial, (fun h => (by cases h)), ?_⟩; gi_at_call 124; refine WH.mono ?_; clear WH; rintro e W1 ⟨rfl, rfl⟩)
        | (refine ⟨trivial, (fun h => (by cases h)), ?_⟩; gi_at_call 122; refine R1.mono ?_; clear R1; rintro e W3 (⟨rfl, hJ3, _⟩ | ⟨rfl, q, hq, hx⟩)))
      · go_end0
        exact ⟨⟨_, rfl⟩, .inl ⟨_, rfl, by simpa using hJ3⟩⟩
      · go_end0
        exact ⟨⟨_, rfl⟩, .inr ⟨q, hq, by simpa using hx⟩⟩
    · have hw : wholesL a = [] := by unfold wholesL; rw [if_neg c1, if_neg c2, if_neg c3, if_neg (fun h => c5 (by omega))]
      rw [hw]
      have t0 : (r != 0) = true := by simpa using c5
      clear HT hw hn1 c1 c2 c3 hr
      refine callsIn_of_wp Tryz.func120 rfl trivial ?_ rfl
      simp only [Tryz.ntmps120, List.size_toArray, List.length_cons, List.length_nil, Nat.reduceAdd, Nat.reduceSub, Array.replicate_succ, Array.replicate_zero, List.push_toArray, List.append_toArray, List.nil_append, List.cons_append]
      gi_wp2_with (first
        | (refine ⟨trivial, (fun h => (by cases h)), ?_⟩; gi_at_call 121; refine LN.mono ?_; clear LN; rintro e W1 ⟨rfl, rfl⟩)
        | (refine ⟨trivial, (fun h => (by cases h)), ?_⟩; gi_at_call 84; refine WF.mono ?_; clear WF; rintro e W1 ⟨rfl, rfl⟩)
        | (refine ⟨trivial, (fun h => (by cases h)), ?_⟩; gi_at_call 123; refine WG.mono ?_; clear WG; rintro e W1 ⟨rfl, rfl⟩)
        | (refine ⟨trivial, (fun h => (by cases h)), ?_⟩; gi_at_call 116; refine WT.mono ?_; clear WT; rintro e W1 ⟨rfl, rfl⟩)
        | (refine ⟨trivial, (fun h => (by cases h)), ?_⟩; gi_at_call 124; refine WH.mono ?_; clear WH; rintro e W1 ⟨rfl, rfl⟩))
      go_end0
      exact ⟨⟨_, rfl⟩, .inl ⟨_, rfl, h0⟩⟩
  · have hw : wholesL a = [] := by unfold wholesL; rw [if_neg c1, if_neg c2, if_neg c3, if_neg (fun h => c4 ⟨h.1, h.2.1⟩)]
    rw [hw]
    have WT := (callsIn_wide (n := n - 1)).2 (syll_f a W c4)
    clear HT hw hn1 c1 c2 c3
    refine callsIn_of_wp Tryz.func120 rfl trivial ?_ rfl
    simp only [Tryz.ntmps120, List.size_toArray, List.length_cons, List.length_nil, Nat.reduceAdd, Nat.reduceSub, Array.replicate_succ, Array.replicate_zero, List.push_toArray, List.append_toArray, List.nil_append, List.cons_append]
    gi_wp2_with (first
      | (refine ⟨trivial, (fun h => (by cases h)), ?_⟩; gi_at_call 121; refine LN.mono ?_; clear LN; rintro e W1 ⟨rfl, rfl⟩)
      | (refine ⟨trivial, (fun h => (by cases h)), ?_⟩; gi_at_call 84; refine WF.mono ?_; clear WF; rintro e W1 ⟨rfl, rfl⟩)
      | (refine ⟨trivial, (fun h => (by cases h)), ?_⟩; gi_at_call 123; refine WG.mono ?_; clear WG; rintro e W1 ⟨rfl, rfl⟩)
      | (refine ⟨trivial, (fun h => (by cases h)), ?_⟩; gi_at_call 116; refine WT.mono ?_; clear WT; rintro e W1 ⟨rfl, rfl⟩))
    refine ⟨trivial, ?_⟩
    gi_wp2
    go_end0
    exact ⟨⟨_, rfl⟩, .inl ⟨_, rfl, h0⟩⟩
theorem wholes_any (a : Int) (w : World) : Calls Tryz.prog 107 #[.int .i64 a] w fun e w' => e = .returned (.func (.func 120) #[] #[.pointer (some ⟨w.heap.size, 0, none⟩)]) ∧ w' = w.alloc (.cells #[.int .i64 a] 2) := by
  go_enter Tryz.func107, Tryz.ntmps107
  go_wp2
  go_ret
  exact ⟨rfl, rfl⟩
theorem wholes_stops (n : Nat) (a : Int) (b1 : Nat) (w : World) (l1 : b1 < w.heap.size) (h1 : w.cell? ⟨b1, 0, none⟩ = some (.int .i64 a)) :
    SeqStopsK Fence.wide n Tryz.prog 120 #[.pointer (some ⟨b1, 0, none⟩)] (fun x : Int => #[Value.int .i64 x]) KeepP (fun ys => ys = wholesL a) (fun pre => pre <+: wholesL a) (wholesL a).length w := fun l J Jx W hW _ _ hY h0 =>
  wholes1_in n a l b1 J Jx W hY ((hW.cell (p := ⟨b1, 0, none⟩) l1).trans h1) h0
end Go.Proofs.YtjdginjohajmaaaGreatDoor
