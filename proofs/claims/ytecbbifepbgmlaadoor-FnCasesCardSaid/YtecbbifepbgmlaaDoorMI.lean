/- Several texts in one. -/
import Derived.Test.YtecbbifepbgmlaaDoorCmpP
import Derived.Test.YtecbbifepbgmlaaDoorMC
import Derived.Maps.RangeWalk
import Derived.Maps.Range
/- The points of two parts of which one is the first, handed on by an iterator. -/
namespace Go.Proofs.YtecbbifepbgmlaaDoor
open Go.RowKit Go.Shelf
attribute [local go_sem] Oper.semAt_some
theorem letNoI (p : Int) (w : World) : Calls Tryd.prog 84 #[.int .i64 p] w fun e w' => e = .returned (.int .i64 (letNo p)) ∧ w' = w := by
  by_cases h1 : 65 ≤ p ∧ p ≤ 90
  · have HE : Hid (letNo p = p - 65) := hide (if_pos h1)
    go_enter Tryd.func84, Tryd.ntmps84
    go_wp2_with (go_at_call 31; refine (within_t _ _ _ _ (by omega)).mono ?_; rintro e w' ⟨rfl, rfl⟩)
    go_ret
    exact ⟨ret_int (unhide HE).symm, rfl⟩
  by_cases h2 : 97 ≤ p ∧ p ≤ 122
  · have HE : Hid (letNo p = p - 97 + 26) := hide (by unfold letNo; rw [if_neg h1, if_pos h2])
    go_enter Tryd.func84, Tryd.ntmps84
    go_wp2_with (first | (go_at_call 31; refine (within_t _ _ _ _ (by omega)).mono ?_; rintro e w' ⟨rfl, rfl⟩) | (go_at_call 31; refine (within_f _ _ _ _ (by omega)).mono ?_; rintro e w' ⟨rfl, rfl⟩))
    go_ret
    exact ⟨ret_int (unhide HE).symm, rfl⟩
  have HE : Hid (letNo p = -1) := hide (by unfold letNo; rw [if_neg h1, if_neg h2])
  go_enter Tryd.func84, Tryd.ntmps84
  go_wp2_with (go_at_call 31; refine (within_f _ _ _ _ (by omega)).mono ?_; rintro e w' ⟨rfl, rfl⟩)
  go_ret
  exact ⟨ret_int (unhide HE).symm, rfl⟩
theorem isSecI (p : Int) (w : World) : Calls Tryd.prog 75 #[.int .i64 p] w fun e w' => e = .returned (.bool (isSec p)) ∧ w' = w := by
  by_cases h1 : 1824 ≤ p ∧ p ≤ 1844
  · have HE : Hid (isSec p = true) := hide (decide_eq_true (by omega))
    go_enter Tryd.func75, Tryd.ntmps75
    go_wp2_with (go_at_call 31; refine (within_t _ _ _ _ (by omega)).mono ?_; rintro e w' ⟨rfl, rfl⟩)
    go_ret
    exact ⟨ret_bool (unhide HE).symm, rfl⟩
  by_cases h2 : 1857 ≤ p ∧ p ≤ 1883
  · have HE : Hid (isSec p = true) := hide (decide_eq_true (by omega))
    go_enter Tryd.func75, Tryd.ntmps75
    go_wp2_with (first | (go_at_call 31; refine (within_t _ _ _ _ (by omega)).mono ?_; rintro e w' ⟨rfl, rfl⟩) | (go_at_call 31; refine (within_f _ _ _ _ (by omega)).mono ?_; rintro e w' ⟨rfl, rfl⟩))
    go_ret
    exact ⟨ret_bool (unhide HE).symm, rfl⟩
  by_cases h3 : 4096 ≤ p ∧ p ≤ 4103
  · have HE : Hid (isSec p = true) := hide (decide_eq_true (by omega))
    go_enter Tryd.func75, Tryd.ntmps75
    go_wp2_with (first | (go_at_call 31; refine (within_t _ _ _ _ (by omega)).mono ?_; rintro e w' ⟨rfl, rfl⟩) | (go_at_call 31; refine (within_f _ _ _ _ (by omega)).mono ?_; rintro e w' ⟨rfl, rfl⟩))
    go_ret
    exact ⟨ret_bool (unhide HE).symm, rfl⟩
  by_cases h4 : 4112 ≤ p ∧ p ≤ 4119
  · have HE : Hid (isSec p = true) := hide (decide_eq_true (by omega))
    go_enter Tryd.func75, Tryd.ntmps75
    go_wp2_with (first | (go_at_call 31; refine (within_t _ _ _ _ (by omega)).mono ?_; rintro e w' ⟨rfl, rfl⟩) | (go_at_call 31; refine (within_f _ _ _ _ (by omega)).mono ?_; rintro e w' ⟨rfl, rfl⟩))
    go_ret
    exact ⟨ret_bool (unhide HE).symm, rfl⟩
  have HE : Hid (isSec p = false) := hide (decide_eq_false (by omega))
  go_enter Tryd.func75, Tryd.ntmps75
  go_wp2_with (go_at_call 31; refine (within_f _ _ _ _ (by omega)).mono ?_; rintro e w' ⟨rfl, rfl⟩)
  go_ret
  exact ⟨ret_bool (unhide HE).symm, rfl⟩
theorem rowL_prefix (f s : Int) (j m : Nat) : rowL f s j <+: rowL f s (j + m) := by
  unfold rowL
  have e : List.range (j + m) = List.range j ++ (List.range m).map (j + ·) := List.range_add ..
  rw [e, List.map_append]
  exact List.prefix_append _ _
set_option maxRecDepth 100000 in
set_option maxHeartbeats 2000000 in
theorem row_in (first step : Int) (cnt : Nat) (hf : 0 ≤ first ∧ first ≤ 100000) (hs : 0 ≤ step ∧ step ≤ 28) (hc : cnt ≤ 27) (l N : Nat) (J Jx : List Int → World → Prop) (hY : Takes l N J Jx) (n : Nat) (pre : List Int) (W : World)
    (hJ : J pre W) (hN : pre.length + cnt ≤ N) :
    CallsIn Fence.wide n Tryd.prog 85 #[.int .i64 first, .int .i64 step, .int .i64 cnt, .func (.yield l) #[] #[]] W (Handed J Jx pre (rowL first step cnt) W) := by
  have HJ : Hid (J (pre ++ rowL first step 0) W) := hide (by simpa [rowL] using hJ)
  have HK : Hid (KeepP W W) := hide (KeepP.refl _)
  have HY := hide hY
  clear hJ hY
  refine callsIn_of_wp Tryd.func85 rfl trivial ?_ rfl
  simp only [Tryd.ntmps85, List.size_toArray, List.length_cons, List.length_nil, Nat.reduceAdd, Nat.reduceSub, Array.replicate_succ, Array.replicate_zero, List.push_toArray, List.append_toArray, List.nil_append, List.cons_append]
  gi_wp2
  gi_loopw [11] (fun i wr => ∃ j : Nat, j ≤ cnt ∧ i = .int .i64 j ∧ Hid (J (pre ++ rowL first step j) wr) ∧ Hid (KeepP W wr)) (fun i _ => cnt - (intOf i).toNat)
  case atStart => exact ⟨0, Nat.zero_le _, rfl, HJ, HK⟩
  case round =>
    obtain ⟨j, hj, rfl, HJj, HKj⟩ := hrel
    clear HJ HK
    by_cases hlt : j < cnt
    · have hlt' : (j : Int) < (cnt : Int) := by omega
      have hm0 : 0 ≤ (j : Int) * step := Int.mul_nonneg (by omega) hs.1
      have hm1 : (j : Int) * step ≤ 27 * 28 := Int.mul_le_mul (by omega) hs.2 hs.1 (by omega)
      have hR0 := (unhide HY) (n - 1) (pre ++ rowL first step j) (first + (j : Int) * step) wr (unhide HJj) (by rw [List.length_append, rowL_len]; omega)
      rw [List.append_assoc, ← rowL_succ] at hR0
      obtain ⟨fn, tmps, assign, body, hy, hR⟩ := hR0
      gi_wp2_with (first | refine hR.mono ?_ | refine ⟨(fun h => (by cases h)), hR.mono ?_⟩; clear hR; rintro e W2 (⟨rfl, hJ2, hk2⟩ | ⟨rfl, hx2⟩))
      · have HJ2 := hide hJ2
        have HK2 := hide ((unhide HKj).trans hk2)
        clear hJ2 hk2
        gi_wp2
        go_roundw
        case rel => exact ⟨j + 1, by omega, by go_num, HJ2, HK2⟩
        case measure => simp [intOf]; omega
      · have HX := hide hx2
        clear hx2
        gi_wp2
        go_ret
        refine .inr ⟨rfl, rowL first step (j + 1), ?_, unhide HX⟩
        obtain ⟨m, rfl⟩ : ∃ m, cnt = j + 1 + m := ⟨cnt - (j + 1), by omega⟩
        exact rowL_prefix first step (j + 1) m
    · obtain rfl : j = cnt := by omega
      gi_wp2
      go_ret
      exact .inl ⟨rfl, unhide HJj, unhide HKj⟩
/-- How an iterator's call ends. -/
def Iters (J Jx : List Int → World → Prop) (xs : List Int) (e : Ending) (W' : World) : Prop := (∃ v, e = .returned v) ∧ ((∃ ys, ys = xs ∧ J ys W') ∨ (∃ pre, pre <+: xs ∧ Jx pre W'))
set_option maxRecDepth 100000 in
set_option maxHeartbeats 4000000 in
theorem wholes1_in (n : Nat) (a : Int) (l b1 : Nat) (J Jx : List Int → World → Prop) (W : World)
    (hY : ∀ pre x W, J pre W → pre.length < (wholesL a).length → YieldAt Fence.wide (n - 1) Tryd.prog l #[.int .i64 x] W fun e W' =>
      (e = .returned (.bool true) ∧ J (pre ++ [x]) W' ∧ KeepP W W') ∨ (e = .returned (.bool false) ∧ Jx (pre ++ [x]) W'))
    (h1 : W.cell? ⟨b1, 0, none⟩ = some (.int .i64 a)) (h0 : J [] W) :
    CallsIn Fence.wide n Tryd.prog 83 #[.func (.yield l) #[] #[], .pointer (some ⟨b1, 0, none⟩)] W (Iters J Jx (wholesL a)) := by
  have HT : Takes l (wholesL a).length J Jx := fun m pre x W hj hl => yield_any m (hY pre x W hj hl)
  have LN := (callsIn_wide (n := n - 1)).2 (letNoI a W)
  clear hY
  by_cases c1 : 0 ≤ letNo a
  · have hl := (letNo_bd a).resolve_left (by omega)
    obtain ⟨_, h51, _⟩ := hl
    have hw : wholesL a = rowL (8192 + 8 * letNo a) 1 8 ++ rowL (8704 + 8 * letNo a) 1 8 := if_pos c1
    rw [hw] at HT ⊢
    rw [List.length_append, rowL_len, rowL_len] at HT
    generalize letNo a = i at *
    have R1 := (row_in (8192 + 8 * i) 1 8 (by omega) (by omega) (by omega) l (8 + 8) J Jx HT (n - 1) [] W h0 (by simp)).mono (R' := fun e W1 =>
        (e = .returned (.bool true) ∧ CallsIn Fence.wide (n - 1) Tryd.prog 85 #[.int .i64 (8704 + 8 * i), .int .i64 1, .int .i64 8, .func (.yield l) #[] #[]] W1 (Handed J Jx (rowL (8192 + 8 * i) 1 8) (rowL (8704 + 8 * i) 1 8) W1)) ∨ (e = .returned (.bool false) ∧ ∃ q, q <+: rowL (8192 + 8 * i) 1 8 ∧ Jx q W1))
      (fun e W1 g => g.elim (fun ⟨he, hj, _⟩ => .inl ⟨he, row_in (8704 + 8 * i) 1 8 (by omega) (by omega) (by omega) l (8 + 8) J Jx HT (n - 1) _ W1 (by simpa using hj) (by rw [rowL_len]; omega)⟩) (fun ⟨he, q, hq, hx⟩ => .inr ⟨he, q, hq, by simpa using hx⟩))
    clear HT hw
    refine callsIn_of_wp Tryd.func83 rfl trivial ?_ rfl
    simp only [Tryd.ntmps83, List.size_toArray, List.length_cons, List.length_nil, Nat.reduceAdd, Nat.reduceSub, Array.replicate_succ, Array.replicate_zero, List.push_toArray, List.append_toArray, List.nil_append, List.cons_append]
    gi_wp2_with (first
      | (refine ⟨trivial, (fun h => (by cases h)), ?_⟩; gi_at_call 84; refine LN.mono ?_; clear LN; rintro e W1 ⟨rfl, rfl⟩)
      | (refine ⟨trivial, (fun h => (by cases h)), ?_⟩; gi_at_call 85; refine R1.mono ?_; clear R1; rintro e W2 (⟨rfl, hS⟩ | ⟨rfl, q, hq, hx⟩))
      | (refine ⟨trivial, (fun h => (by cases h)), ?_⟩; gi_at_call 85; refine hS.mono ?_; clear hS; rintro e W3 (⟨rfl, hJ3, _⟩ | ⟨rfl, q, ⟨r, hr⟩, hx⟩)))
    · go_end0
      exact ⟨⟨_, rfl⟩, .inl ⟨_, rfl, hJ3⟩⟩
    · go_end0
      exact ⟨⟨_, rfl⟩, .inr ⟨_, ⟨r, by rw [List.append_assoc, hr]⟩, hx⟩⟩
    · refine ⟨trivial, ?_⟩
      gi_wp2
      go_end0
      exact ⟨⟨_, rfl⟩, .inr ⟨q, hq.trans (List.prefix_append _ _), hx⟩⟩
  have hn1 : letNo a = -1 := (letNo_bd a).resolve_right (fun h => c1 h.1)
  rw [hn1] at LN
  by_cases c2 : 8704 ≤ a ∧ a ≤ 9119
  · have hw : wholesL a = rowL (a + 512) 1 1 := by unfold wholesL; rw [if_neg c1, if_pos c2]
    rw [hw] at HT ⊢
    rw [rowL_len] at HT
    have R1 := row_in (a + 512) 1 1 (by omega) (by omega) (by omega) l 1 J Jx HT (n - 1) [] W h0 (by simp)
    have WT := (callsIn_wide (n := n - 1)).2 (within_t a 8704 9119 W c2)
    clear HT hw hn1 c1
    refine callsIn_of_wp Tryd.func83 rfl trivial ?_ rfl
    simp only [Tryd.ntmps83, List.size_toArray, List.length_cons, List.length_nil, Nat.reduceAdd, Nat.reduceSub, Array.replicate_succ, Array.replicate_zero, List.push_toArray, List.append_toArray, List.nil_append, List.cons_append]
    gi_wp2_with (first
      | (refine ⟨trivial, (fun h => (by cases h)), ?_⟩; gi_at_call 84; refine LN.mono ?_; clear LN; rintro e W1 ⟨rfl, rfl⟩)
      | (refine ⟨trivial, (fun h => (by cases h)), ?_⟩; gi_at_call 31; refine WT.mono ?_; clear WT; rintro e W1 ⟨rfl, rfl⟩)
      | (refine ⟨trivial, (fun h => (by cases h)), ?_⟩; gi_at_call 85; refine R1.mono ?_; clear R1; rintro e W3 (⟨rfl, hJ3, _⟩ | ⟨rfl, q, hq, hx⟩)))
    · go_end0
      exact ⟨⟨_, rfl⟩, .inl ⟨_, rfl, by simpa using hJ3⟩⟩
    · go_end0
      exact ⟨⟨_, rfl⟩, .inr ⟨q, hq, by simpa using hx⟩⟩
  by_cases c3 : 1792 ≤ a ∧ a ≤ 1810
  · have hw : wholesL a = rowL (12288 + (a - 1792) * 21 * 28) 28 21 := by unfold wholesL; rw [if_neg c1, if_neg c2, if_pos c3]
    rw [hw] at HT ⊢
    rw [rowL_len] at HT
    have R1 := row_in (12288 + (a - 1792) * 21 * 28) 28 21 (by omega) (by omega) (by omega) l 21 J Jx HT (n - 1) [] W h0 (by simp)
    have WF := (callsIn_wide (n := n - 1)).2 (within_f a 8704 9119 W c2)
    have WT := (callsIn_wide (n := n - 1)).2 (lead_t a W c3)
    clear HT hw hn1 c1 c2
    refine callsIn_of_wp Tryd.func83 rfl trivial ?_ rfl
    simp only [Tryd.ntmps83, List.size_toArray, List.length_cons, List.length_nil, Nat.reduceAdd, Nat.reduceSub, Array.replicate_succ, Array.replicate_zero, List.push_toArray, List.append_toArray, List.nil_append, List.cons_append]
    gi_wp2_with (first
      | (refine ⟨trivial, (fun h => (by cases h)), ?_⟩; gi_at_call 84; refine LN.mono ?_; clear LN; rintro e W1 ⟨rfl, rfl⟩)
      | (refine ⟨trivial, (fun h => (by cases h)), ?_⟩; gi_at_call 31; refine WF.mono ?_; clear WF; rintro e W1 ⟨rfl, rfl⟩)
      | (refine ⟨trivial, (fun h => (by cases h)), ?_⟩; gi_at_call 86; refine WT.mono ?_; clear WT; rintro e W1 ⟨rfl, rfl⟩)
      | (refine ⟨trivial, (fun h => (by cases h)), ?_⟩; gi_at_call 85; refine R1.mono ?_; clear R1; rintro e W3 (⟨rfl, hJ3, _⟩ | ⟨rfl, q, hq, hx⟩)))
    · go_end0
      exact ⟨⟨_, rfl⟩, .inl ⟨_, rfl, by simpa using hJ3⟩⟩
    · go_end0
      exact ⟨⟨_, rfl⟩, .inr ⟨q, hq, by simpa using hx⟩⟩
  have WF := (callsIn_wide (n := n - 1)).2 (within_f a 8704 9119 W c2)
  have WG := (callsIn_wide (n := n - 1)).2 (lead_f a W c3)
  by_cases c4 : 12288 ≤ a ∧ a ≤ 23459
  · have WT := (callsIn_wide (n := n - 1)).2 (syll_t a W c4)
    obtain ⟨r, hr⟩ : ∃ r, (a - 12288) % 28 = r := ⟨_, rfl⟩
    have e1 : (a - 12288).tmod 28 = r := by rw [Int.tmod_eq_emod_of_nonneg (by omega)]; exact hr
    have WH := (callsIn_wide (n := n - 1)).2 (tail_any a W c4 r e1)
    by_cases c5 : r = 0
    · have hw : wholesL a = rowL (a + 1) 1 27 := by unfold wholesL; rw [if_neg c1, if_neg c2, if_neg c3, if_pos ⟨c4.1, c4.2, hr.trans c5⟩]
      rw [hw] at HT ⊢
      rw [rowL_len] at HT
      have R1 := row_in (a + 1) 1 27 (by omega) (by omega) (by omega) l 27 J Jx HT (n - 1) [] W h0 (by simp)
      subst c5
      have t0 : ((0 : Int) != 0) = false := rfl
      clear HT hw hn1 c1 c2 c3 hr
      refine callsIn_of_wp Tryd.func83 rfl trivial ?_ rfl
      simp only [Tryd.ntmps83, List.size_toArray, List.length_cons, List.length_nil, Nat.reduceAdd, Nat.reduceSub, Array.replicate_succ, Array.replicate_zero, List.push_toArray, List.append_toArray, List.nil_append, List.cons_append]
      gi_wp2_with (first
        | (refine ⟨trivial, (fun h => (by cases h)), ?_⟩; gi_at_call 84; refine LN.mono ?_; clear LN; rintro e W1 ⟨rfl, rfl⟩)
        | (refine ⟨trivial, (fun h => (by cases h)), ?_⟩; gi_at_call 31; refine WF.mono ?_; clear WF; rintro e W1 ⟨rfl, rfl⟩)
        | (refine ⟨trivial, (fun h => (by cases h)), ?_⟩; gi_at_call 86; refine WG.mono ?_; clear WG; rintro e W1 ⟨rfl, rfl⟩)
        | (refine ⟨trivial, (fun h => (by cases h)), ?_⟩; gi_at_call 78; refine WT.mono ?_; clear WT; rintro e W1 ⟨rfl, rfl⟩)
        | (refine ⟨trivial, (fun h => (by cases h)), ?_⟩; gi_at_call 87; refine WH.mono ?_; clear WH; rintro e W1 ⟨rfl, rfl⟩)
        | (refine ⟨trivial, (fun h => (by cases h)), ?_⟩; gi_at_call 85; refine R1.mono ?_; clear R1; rintro e W3 (⟨rfl, hJ3, _⟩ | ⟨rfl, q, hq, hx⟩)))
      · go_end0
        exact ⟨⟨_, rfl⟩, .inl ⟨_, rfl, by simpa using hJ3⟩⟩
      · go_end0
        exact ⟨⟨_, rfl⟩, .inr ⟨q, hq, by simpa using hx⟩⟩
    · have hw : wholesL a = [] := by unfold wholesL; rw [if_neg c1, if_neg c2, if_neg c3, if_neg (fun h => c5 (by omega))]
      rw [hw]
      have t0 : (r != 0) = true := by simpa using c5
      clear HT hw hn1 c1 c2 c3 hr
      refine callsIn_of_wp Tryd.func83 rfl trivial ?_ rfl
      simp only [Tryd.ntmps83, List.size_toArray, List.length_cons, List.length_nil, Nat.reduceAdd, Nat.reduceSub, Array.replicate_succ, Array.replicate_zero, List.push_toArray, List.append_toArray, List.nil_append, List.cons_append]
      gi_wp2_with (first
        | (refine ⟨trivial, (fun h => (by cases h)), ?_⟩; gi_at_call 84; refine LN.mono ?_; clear LN; rintro e W1 ⟨rfl, rfl⟩)
        | (refine ⟨trivial, (fun h => (by cases h)), ?_⟩; gi_at_call 31; refine WF.mono ?_; clear WF; rintro e W1 ⟨rfl, rfl⟩)
        | (refine ⟨trivial, (fun h => (by cases h)), ?_⟩; gi_at_call 86; refine WG.mono ?_; clear WG; rintro e W1 ⟨rfl, rfl⟩)
        | (refine ⟨trivial, (fun h => (by cases h)), ?_⟩; gi_at_call 78; refine WT.mono ?_; clear WT; rintro e W1 ⟨rfl, rfl⟩)
        | (refine ⟨trivial, (fun h => (by cases h)), ?_⟩; gi_at_call 87; refine WH.mono ?_; clear WH; rintro e W1 ⟨rfl, rfl⟩))
      go_end0
      exact ⟨⟨_, rfl⟩, .inl ⟨_, rfl, h0⟩⟩
  · have hw : wholesL a = [] := by unfold wholesL; rw [if_neg c1, if_neg c2, if_neg c3, if_neg (fun h => c4 ⟨h.1, h.2.1⟩)]
    rw [hw]
    have WT := (callsIn_wide (n := n - 1)).2 (syll_f a W c4)
    clear HT hw hn1 c1 c2 c3
    refine callsIn_of_wp Tryd.func83 rfl trivial ?_ rfl
    simp only [Tryd.ntmps83, List.size_toArray, List.length_cons, List.length_nil, Nat.reduceAdd, Nat.reduceSub, Array.replicate_succ, Array.replicate_zero, List.push_toArray, List.append_toArray, List.nil_append, List.cons_append]
    gi_wp2_with (first
      | (refine ⟨trivial, (fun h => (by cases h)), ?_⟩; gi_at_call 84; refine LN.mono ?_; clear LN; rintro e W1 ⟨rfl, rfl⟩)
      | (refine ⟨trivial, (fun h => (by cases h)), ?_⟩; gi_at_call 31; refine WF.mono ?_; clear WF; rintro e W1 ⟨rfl, rfl⟩)
      | (refine ⟨trivial, (fun h => (by cases h)), ?_⟩; gi_at_call 86; refine WG.mono ?_; clear WG; rintro e W1 ⟨rfl, rfl⟩)
      | (refine ⟨trivial, (fun h => (by cases h)), ?_⟩; gi_at_call 78; refine WT.mono ?_; clear WT; rintro e W1 ⟨rfl, rfl⟩))
    refine ⟨trivial, ?_⟩
    gi_wp2
    go_end0
    exact ⟨⟨_, rfl⟩, .inl ⟨_, rfl, h0⟩⟩
theorem wholes_any (a : Int) (w : World) : Calls Tryd.prog 76 #[.int .i64 a] w fun e w' => e = .returned (.func (.func 83) #[] #[.pointer (some ⟨w.heap.size, 0, none⟩)]) ∧ w' = w.alloc (.cells #[.int .i64 a] 2) := by
  go_enter Tryd.func76, Tryd.ntmps76
  go_wp2
  go_ret
  exact ⟨rfl, rfl⟩
theorem wholes_stops (n : Nat) (a : Int) (b1 : Nat) (w : World) (l1 : b1 < w.heap.size) (h1 : w.cell? ⟨b1, 0, none⟩ = some (.int .i64 a)) :
    SeqStopsK Fence.wide n Tryd.prog 83 #[.pointer (some ⟨b1, 0, none⟩)] (fun x : Int => #[Value.int .i64 x]) KeepP (fun ys => ys = wholesL a) (fun pre => pre <+: wholesL a) (wholesL a).length w := fun l J Jx W hW _ _ hY h0 =>
  wholes1_in n a l b1 J Jx W hY ((hW.cell (p := ⟨b1, 0, none⟩) l1).trans h1) h0
end Go.Proofs.YtecbbifepbgmlaaDoor
/- Composing by a book of pairs. -/
namespace Go.Proofs.YtecbbifepbgmlaaDoor
open Go.RowKit Go.Shelf
attribute [local go_sem] Oper.semAt_some
/-- The book, the box that leads to it, and that nothing else has changed. -/
structure BkI (w W : World) (M : Nat) (D : List (Int × Int × Int)) : Prop where
  book : BookAt W M D
  box : Boxed W w.heap.size 76 (.map (some M))
  grown : w.grownBy W (some M)
theorem BkI.step {w W W' : World} {M : Nat} {D : List (Int × Int × Int)} {row : Option Nat} (h : BkI w W M D) (hM : M < w.heap.size) (hg : W.grownBy W' row) (hr : ∀ r, row = some r → w.heap.size < r) : BkI w W' M D :=
  ⟨h.book.at (hg.block M h.book.lt (fun e => by have := hr M e.symm; omega)), h.box.kept hg (fun e => by have := hr _ e.symm; omega), h.grown.andThen hg (fun j e => .inl (by have := hr j e; omega))⟩
theorem BkI.below {w W W' : World} {M : Nat} {D : List (Int × Int × Int)} (h : BkI w W M D) (hM : M < w.heap.size) (hb : Below W.heap.size W W') : BkI w W' M D :=
  h.step hM (grown_of_below hb) (fun r e => by cases e)
theorem BkI.put {w W : World} {M : Nat} {D D' : List (Int × Int × Int)} {o : Obj} (h : BkI w W M D) (hM : M < w.heap.size) (hb : BookAt (W.putObj M o) M D') : BkI w (W.putObj M o) M D' :=
  ⟨hb, h.box.kept (grownBy_putObj' W M o) (by simp; omega), h.grown.trans (grownBy_putObj' W M o)⟩
theorem keepP_put {W : World} {M : Nat} {D : List (Int × Int × Int)} {o : Obj} (h : BookAt W M D) : KeepP W (W.putObj M o) := by
  obtain ⟨es, clock, hM, _⟩ := h
  exact ⟨by simp [World.putObj], fun k c z e => (World.putObj_heap_other (fun hk => by subst hk; rw [hM] at e; injection e with e; cases e)).trans e⟩
theorem good_find {D : List (Int × Int × Int)} (hG : Good D) {a x : Int} {pre : List Int} (hp : pre ++ [x] <+: wholesL a) :
    (findD a (secZ x) (D ++ entA a pre) 0 = none → ¬ HasA a D) ∧ ((findD a (secZ x) (D ++ entA a pre) 0).isSome = true → HasA a D) := by
  have hx : x ∈ wholesL a := by
    obtain ⟨r, hr⟩ := hp
    rw [← hr]
    simp
  constructor
  · intro hf hA
    exact findD_none hf _ (List.mem_append.2 (.inl (hG.2 a hA x hx))) ⟨rfl, rfl⟩
  · intro hs
    obtain ⟨y, hy⟩ := Option.isSome_iff_exists.1 hs
    obtain ⟨t, ht, e1, e2, _⟩ := findD_some hy
    rcases List.mem_append.1 ht with ht | ht
    · exact ⟨t, ht, e1.symm⟩
    · obtain ⟨z, hz, rfl⟩ := List.mem_map.1 ht
      have hz' : z ∈ wholesL a := by
        obtain ⟨r, hr⟩ := hp
        rw [← hr]
        simp [hz]
      have e3 : secZ x = secZ z := e2
      have : x = z := by rw [← (whole_pair hx).2, ← (whole_pair hz').2, e3]
      subst this
      obtain ⟨r, hr⟩ := hp
      have hnd := wholes_nodup a
      rw [← hr, List.append_assoc, List.nodup_append] at hnd
      exact (hnd.2.2 x hz x (by simp) rfl).elim
theorem compose_no (M : Nat) (a b : Int) (w : World) (hs : isSec b = false) :
    Calls Tryd.prog 71 #[.map (some M), .int .i64 a, .int .i64 b] w fun e w' => e = .returned (.int .i64 (pairP a b)) ∧ Below w.heap.size w w' := by
  rw [pair_sec hs]
  have HI := hide (fun W => isSecI b W)
  rw [hs] at HI
  clear hs
  go_enter Tryd.func71, Tryd.ntmps71
  go_wp2_with (go_at_call 75; refine ((unhide HI) _).mono ?_; rintro e w1 ⟨rfl, rfl⟩)
  go_ret
  exact ⟨rfl, one_below _ _⟩
set_option maxRecDepth 100000 in
set_option maxHeartbeats 4000000 in
theorem compose_in (M : Nat) (a b : Int) (w : World) (D : List (Int × Int × Int)) (hs : isSec b = true) (hM : BookAt w M D) (hG : Good D) :
    CallsIn Fence.wide 5 Tryd.prog 71 #[.map (some M), .int .i64 a, .int .i64 b] w fun e w' => e = .returned (.int .i64 (pairP a b)) ∧ ∃ D', BookAt w' M D' ∧ Good D' ∧ w.grownBy w' (some M) := by
  have hn : 1 ≤ 5 := by omega
  have hMl := hM.lt
  have IS := (callsIn_wide (n := 4)).2 (isSecI b (w.alloc (.cells #[.map (some M)] 76)))
  rw [hs] at IS
  have WH := (callsIn_wide (n := 4)).2 (wholes_any a (w.alloc (.cells #[.map (some M)] 76)))
  have sz : (w.alloc (.cells #[.map (some M)] 76)).heap.size = w.heap.size + 1 := by simp
  rw [sz] at WH
  have HS := wholes_stops 4 a (w.heap.size + 1) ((w.alloc (.cells #[.map (some M)] 76)).alloc (.cells #[.int .i64 a] 2)) (by simp) (by rw [← sz]; exact (Boxed.new _ 2 _).cell)
  have BK0 : BkI w ((w.alloc (.cells #[.map (some M)] 76)).alloc (.cells #[.int .i64 a] 2)) M D :=
    ⟨hM.at ((alloc_block _ _ (by simp; omega)).trans (alloc_block _ _ hMl)), (Boxed.new w 76 _).alloc _, (grown_of_below (two_below w _ _)).but _⟩
  have sz2 : ((w.alloc (.cells #[.map (some M)] 76)).alloc (.cells #[.int .i64 a] 2)).heap.size = w.heap.size + 2 := by simp
  clear hs hM
  generalize hw0 : (w.alloc (.cells #[.map (some M)] 76)).alloc (.cells #[.int .i64 a] 2) = w0 at *
  have hI0 : ∀ (s : List Int) (W W' : World) (row : Option Nat), (∃ D', BkI w W M D' ∧ (s <+: wholesL a → (HasA a D → s = []) ∧ D' = D ++ entA a s)) → W.grownBy W' row → (∀ r, row = some r → w0.heap.size ≤ r ∧ ∃ o : Obj, W.heap[r]? = some o ∧ o.isCells = false) → (∃ D', BkI w W' M D' ∧ (s <+: wholesL a → (HasA a D → s = []) ∧ D' = D ++ entA a s)) :=
    fun s W W' row hs hg hr => by
      obtain ⟨D', hb, hd⟩ := hs
      exact ⟨D', hb.step hMl hg (fun r e => by have := (hr r e).1; omega), hd⟩
  have hX0 : ∀ (c : Code) (s : List Int) (W W' : World) (row : Option Nat), (c = .exit 0 ∧ ∃ D', BkI w W M D' ∧ (s <+: wholesL a → HasA a D ∧ D' = D)) → W.grownBy W' row → (∀ r, row = some r → w0.heap.size ≤ r ∧ ∃ o : Obj, W.heap[r]? = some o ∧ o.isCells = false) → (c = .exit 0 ∧ ∃ D', BkI w W' M D' ∧ (s <+: wholesL a → HasA a D ∧ D' = D)) :=
    fun c s W W' row hs hg hr => by
      obtain ⟨hc, D', hb, hd⟩ := hs
      exact ⟨hc, D', hb.step hMl hg (fun r e => by have := (hr r e).1; omega), hd⟩
  refine callsIn_of_wp_marks Tryd.func71 rfl trivial ?_ rfl
  simp only [Tryd.ntmps71, List.size_toArray, List.length_cons, List.length_nil, Nat.reduceAdd, Nat.reduceSub, Array.replicate_succ, Array.replicate_zero, List.push_toArray, List.append_toArray, List.nil_append, List.cons_append]
  gi_wp2_with (first
    | (refine ⟨trivial, ?_⟩; gi_at_call 75; refine IS.mono ?_; clear IS; rintro e W1 ⟨rfl, rfl⟩)
    | (refine ⟨trivial, ?_⟩; gi_at_call 76; refine WH.mono ?_; clear WH; rintro e W1 ⟨rfl, hW1⟩; replace hW1 := hW1.symm; subst hW1))
  refine wpIn_rangeFunc_ownG rfl hn (gf := 83) (lb := #[.pointer (some ⟨w.heap.size + 1, 0, none⟩)]) rfl trivial (enters_of Tryd.func83 (by kernel_rfl) rfl)
    HS KeepP.trans keepP_b (Below.refl _ _) (fun _ => rfl)
    (fun s W => ∃ D', BkI w W M D' ∧ (s <+: wholesL a → (HasA a D → s = []) ∧ D' = D ++ entA a s))
    (fun c s W => c = .exit 0 ∧ ∃ D', BkI w W M D' ∧ (s <+: wholesL a → HasA a D ∧ D' = D))
    hI0 hX0
    ⟨D, BK0, fun _ => ⟨fun _ => rfl, by simp [entA]⟩⟩
    (fun x => { tmps := #[.map (some M), .int .i64 a, .int .i64 b, .pointer (some ⟨w.heap.size, 0, none⟩), undef, undef, .int .i64 0, .int .i64 x, undef, undef, undef, undef, undef, .int .i64 b, .bool true, .bool false, .int .i64 a, .func (.func 83) #[] #[.pointer (some ⟨w.heap.size + 1, 0, none⟩)], .int .i64 x, undef, undef, undef, undef, undef, undef, undef, undef, undef, undef, undef, undef, undef, undef, undef, undef, undef, undef, undef, undef, undef, undef, undef], defers := [] }) ?assign ?body ?done ?stop
  case assign =>
    intro l x W K hK
    gi_wp2
    exact hK
  case body =>
    rintro l pre x W ⟨D', hI, hD⟩ hlt
    obtain ⟨c, hc⟩ : ∃ c, (pairZ false x).1 = c := ⟨_, rfl⟩
    obtain ⟨d, hd⟩ : ∃ d, (pairZ false x).2 = d := ⟨_, rfl⟩
    have hcd : pairZ false x = (c, d) := by rw [← hc, ← hd]
    have PI := (callsIn_wide (n := 2)).2 (partsI 2 x false W (by simp))
    rw [hcd] at PI
    have hpre : ∀ {y : Int}, pre ++ [y] <+: wholesL a → pre <+: wholesL a := fun h => (List.prefix_append _ _).trans h
    have hsz := hI.grown.size
    cases hf : findD c d D' 0 with
    | some y =>
      have PJ := PI.mono (R' := fun e W1 => e = .returned (.agg #[.int .i64 c, .int .i64 d]) ∧ BkI w (W1.alloc (.cells #[.int .i64 c, .int .i64 d] 90)) M D' ∧ KeepsFrom w0.heap.size W (W1.alloc (.cells #[.int .i64 c, .int .i64 d] 90)) ∧ (W1.alloc (.cells #[.int .i64 c, .int .i64 d] 90)).cell? ⟨w.heap.size, 0, none⟩ = some (.map (some M)) ∧ (Instr.lookup 76 (.map (some M)) (.agg #[.int .i64 c, .int .i64 d]) true).run Tryd.prog (W1.alloc (.cells #[.int .i64 c, .int .i64 d] 90)) = .ok (.tuple #[y.2, .bool true]) (W1.alloc (.cells #[.int .i64 c, .int .i64 d] 90)))
        (fun e W1 h => by
          have hb1 := hI.below hMl h.2
          have hb2 := hb1.below hMl (one_below W1 (.cells #[.int .i64 c, .int .i64 d] 90))
          refine ⟨h.1, hb2, (KeepsFrom.of_grownBy (grown_of_below h.2) (fun j e => by cases e)).trans ((KeepsOthers.alloc _ _).from _), hb2.box.cell, ?_⟩
          have := lookup_run hb2.book c d
          rw [hf] at this
          exact this)
      clear PI
      gi_wp2_with (refine ⟨trivial, ?_⟩; gi_at_call 73; refine (CallsIn.inRound l PJ).mono ?_; clear PJ; rintro e W1 ⟨rfl, hb2, hkf, hbx, hlk⟩)
      refine ⟨hkf, rfl, D', hb2, fun hp => ?_⟩
      have hx : x ∈ wholesL a := by
        obtain ⟨r, hr⟩ := hp
        rw [← hr]
        simp
      obtain ⟨hd1, hd2⟩ := hD (hpre hp)
      have hcx := (whole_pair hx).1
      rw [hcd] at hcx
      injection hcx with e1 e2
      rw [e1, e2, hd2] at hf
      have hA := (good_find hG hp).2 (by rw [hf]; rfl)
      refine ⟨hA, ?_⟩
      rw [hd2, hd1 hA]
      simp [entA]
    | none =>
      have PJ := PI.mono (R' := fun e W1 => e = .returned (.agg #[.int .i64 c, .int .i64 d]) ∧ (∃ o, (Instr.mapUpdate 76 (.map (some M)) (.agg #[.int .i64 c, .int .i64 d]) (.int .i64 x)).run Tryd.prog (W1.alloc (.cells #[.int .i64 c, .int .i64 d] 90)) = .ok () ((W1.alloc (.cells #[.int .i64 c, .int .i64 d] 90)).putObj M o) ∧ BkI w ((W1.alloc (.cells #[.int .i64 c, .int .i64 d] 90)).putObj M o) M (D' ++ [(c, d, x)]) ∧ KeepsFrom w0.heap.size W ((W1.alloc (.cells #[.int .i64 c, .int .i64 d] 90)).putObj M o) ∧ KeepP W ((W1.alloc (.cells #[.int .i64 c, .int .i64 d] 90)).putObj M o)) ∧ (W1.alloc (.cells #[.int .i64 c, .int .i64 d] 90)).cell? ⟨w.heap.size, 0, none⟩ = some (.map (some M)) ∧ (Instr.lookup 76 (.map (some M)) (.agg #[.int .i64 c, .int .i64 d]) true).run Tryd.prog (W1.alloc (.cells #[.int .i64 c, .int .i64 d] 90)) = .ok (.tuple #[.int .i64 0, .bool false]) (W1.alloc (.cells #[.int .i64 c, .int .i64 d] 90)))
        (fun e W1 h => by
          have hb1 := hI.below hMl h.2
          have hb2 := hb1.below hMl (one_below W1 (.cells #[.int .i64 c, .int .i64 d] 90))
          obtain ⟨o, hu, hbk⟩ := update_run hb2.book c d x hf
          refine ⟨h.1, ⟨o, hu, hb2.put hMl hbk, ((KeepsFrom.of_grownBy (grown_of_below h.2) (fun j e => by cases e)).trans ((KeepsOthers.alloc _ _).from _)).trans (KeepsFrom.of_grownBy (grownBy_putObj' _ M o) (fun j e => by cases e; omega)), (KeepP.of_below h.2).trans ((KeepP.alloc _ _).trans (keepP_put hb2.book))⟩, hb2.box.cell, ?_⟩
          have := lookup_run hb2.book c d
          rw [hf] at this
          exact this)
      clear PI
      gi_wp2_with (refine ⟨trivial, ?_⟩; gi_at_call 73; refine (CallsIn.inRound l PJ).mono ?_; clear PJ; rintro e W1 ⟨rfl, ⟨o, hu, hb2, hkf, hkp⟩, hbx, hlk⟩)
      refine ⟨hkf, hkp, _, hb2, fun hp => ?_⟩
      have hx : x ∈ wholesL a := by
        obtain ⟨r, hr⟩ := hp
        rw [← hr]
        simp
      obtain ⟨hd1, hd2⟩ := hD (hpre hp)
      have hcx := (whole_pair hx).1
      rw [hcd] at hcx
      injection hcx with e1 e2
      rw [e1, e2, hd2] at hf
      have hnA := (good_find hG hp).1 hf
      refine ⟨fun hA => (hnA hA).elim, ?_⟩
      rw [hd2, e1, e2, entA_snoc, List.append_assoc]
  case done =>
    rintro E ys W hE rfl ⟨D', hI, hD⟩ hK
    obtain ⟨_, hd2⟩ := hD (List.prefix_refl _)
    subst hd2
    have hG' := good_more hG a
    have hbx := hI.box.cell
    have hlk := lookup_run hI.book a b
    have hfg := find_good hG' a b (by
      by_cases hw : wholesL a = []
      · exact .inr hw
      · obtain ⟨x, hx⟩ := List.exists_mem_of_ne_nil _ hw
        exact .inl ⟨(a, secZ x, x), List.mem_append.2 (.inr (List.mem_map.2 ⟨x, hx, rfl⟩)), rfl⟩)
    have hend := hI.step (row := some E) hMl (grownBy_putObj' W E (.deferred none)) (fun r e => by cases e; omega)
    by_cases h0 : 0 ≤ pairP a b
    · obtain ⟨j, hj⟩ := hfg.1 h0
      rw [hj] at hlk
      simp only [valD] at hlk
      gi_wp2
      refine ⟨by simp, .inl ⟨_, _, rfl, run_takeDeferred hK, ?_⟩⟩
      exact ⟨_, results_tmp rfl _ _ _, rfl, _, hend.book, hG', hend.grown⟩
    · rw [hfg.2 h0] at hlk
      simp only [valD] at hlk
      have HN := hide (pairP_neg h0)
      gi_wp2
      refine ⟨by simp, .inl ⟨_, _, rfl, run_takeDeferred hK, ?_⟩⟩
      refine ⟨_, results_tmp rfl _ _ _, ?_, _, hend.book, hG', hend.grown⟩
      exact ret_int (unhide HN).symm
  case stop =>
    rintro E c pre W hE hp ⟨rfl, D', hI, hD⟩ hK
    obtain ⟨hA, hd2⟩ := hD hp
    subst hd2
    have hbx := hI.box.cell
    have hlk := lookup_run hI.book a b
    have hfg := find_good hG a b (.inl hA)
    have hend := hI.step (row := some E) hMl (grownBy_putObj' W E (.deferred none)) (fun r e => by cases e; omega)
    by_cases h0 : 0 ≤ pairP a b
    · obtain ⟨j, hj⟩ := hfg.1 h0
      rw [hj] at hlk
      simp only [valD] at hlk
      gi_wp2
      refine ⟨by simp, .inl ⟨_, _, rfl, run_takeDeferred hK, ?_⟩⟩
      exact ⟨_, results_tmp rfl _ _ _, rfl, _, hend.book, hG, hend.grown⟩
    · rw [hfg.2 h0] at hlk
      simp only [valD] at hlk
      have HN := hide (pairP_neg h0)
      gi_wp2
      refine ⟨by simp, .inl ⟨_, _, rfl, run_takeDeferred hK, ?_⟩⟩
      refine ⟨_, results_tmp rfl _ _ _, ?_, _, hend.book, hG, hend.grown⟩
      exact ret_int (unhide HN).symm
/-- Composing: the answer, and the book goes on telling the truth. -/
theorem compose_any (M : Nat) (a b : Int) (w : World) (D : List (Int × Int × Int)) (hM : BookAt w M D) (hG : Good D) :
    Calls Tryd.prog 71 #[.map (some M), .int .i64 a, .int .i64 b] w fun e w' => e = .returned (.int .i64 (pairP a b)) ∧ ∃ D', BookAt w' M D' ∧ Good D' ∧ w.grownBy w' (some M) := by
  cases hs : isSec b with
  | true => exact callsIn_wide.1 (compose_in M a b w D hs hM hG)
  | false =>
    refine (compose_no M a b w hs).mono ?_
    rintro e w' ⟨rfl, hb⟩
    exact ⟨rfl, D, hM.at (hb.block M hM.lt), hG, (grown_of_below hb).but _⟩
end Go.Proofs.YtecbbifepbgmlaaDoor
/- Compose of the specification, and the law. -/
namespace Go.Proofs.YtecbbifepbgmlaaDoor
open Go.RowKit
/-- A test of '&&', as a Bool. -/
theorem and_f {p q : Prop} [Decidable p] [Decidable q] (h : ¬ (p ∧ q)) : (decide p && decide q) = false := by
  by_cases hp : p
  · have : ¬ q := fun hq => h ⟨hp, hq⟩
    simp [this]
  · simp [hp]
end Go.Proofs.YtecbbifepbgmlaaDoor
/- Compose of the specification: the pairs; the law. -/
namespace Go.Proofs.YtecbbifepbgmlaaDoor
open Go.RowKit
end Go.Proofs.YtecbbifepbgmlaaDoor
