/- A label read back, as the program reads it. -/
import Derived.Test.YthjjojkabbepdaaDoorLabU
namespace Go.Proofs.YthjjojkabbepdaaDoor.Lab
open Go.RowKit
set_option linter.unusedVariables false
theorem enc_asc {p : Int} (h0 : 0 ≤ p) (h1 : p < 128) : Lib.encodeRuneZ p = [p] := Lib.encodeRuneZ_one h0 (by omega)
theorem text_asc : ∀ (l : List Int), (∀ x ∈ l, 0 ≤ x ∧ x < 128) → textL l = l
  | [], _ => rfl
  | x :: l, h => by
    have e : textL (x :: l) = Lib.encodeRuneZ x ++ textL l := by simp [textL]
    rw [e, enc_asc (h x (by simp)).1 (h x (by simp)).2, text_asc l (fun y hy => h y (by simp [hy]))]
    rfl
theorem pl_bd {L : List Int} (hP : ∀ x ∈ L, isPt x = true) : ∀ x ∈ pl L, 0 ≤ x ∧ x < 128 := by
  intro x hx
  unfold pl plK at hx
  rw [List.take_length] at hx
  have h := List.mem_filter.1 hx
  have := (isPt_iff x).1 (hP x h.1)
  have h2 : x < 128 := by simpa using h.2
  omega
theorem pts_asc {l : List Int} (h : ∀ x ∈ l, 0 ≤ x ∧ x < 128) : pts (strOfNums l) = l := by
  have := pts_text l (fun x hx => (isPt_iff x).2 (by have := h x hx; omega))
  rw [text_asc l h] at this
  exact this
set_option maxRecDepth 100000 in
set_option maxHeartbeats 4000000 in
theorem readI (L : List Int) (w : World) (hL : L.length ≤ 1000) (hP : ∀ x ∈ L, isPt x = true) (hlen : (lab L).length ≤ 1000) :
    Calls Tryd.prog 23 #[.string (strOfNums (lab L))] w fun e w' => e = .returned (.tuple #[.string (strOfNums (textL L)), .nilIface]) ∧ Below w.heap.size w w' := by
  have hPb : ∀ x ∈ L, x ≤ 1114111 := fun x hx => by have := (isPt_iff x).1 (hP x hx); omega
  obtain ⟨Q, h1, h2, h3⟩ := lab_read isPt hL hPb hP
  have hpb := pl_bd hP
  have hod := outs_bd Q (D0 L) h2
  have hX : (st0 L).out = [] ∨ ∃ P, (st0 L).out = P ++ [45] := by
    show (pl L ++ if pl L = [] then [] else [45]) = [] ∨ ∃ P, (pl L ++ if pl L = [] then [] else [45]) = P ++ [45]
    by_cases c : pl L = []
    · left; rw [c]; rfl
    · right; exact ⟨pl L, by rw [if_neg c]⟩
  have hXl : ((st0 L).out.length = 0 ∧ (pl L).length = 0) ∨ (st0 L).out.length = (pl L).length + 1 := by
    show ((pl L ++ if pl L = [] then [] else [45]).length = 0 ∧ (pl L).length = 0) ∨ (pl L ++ if pl L = [] then [] else [45]).length = (pl L).length + 1
    by_cases c : pl L = []
    · left; rw [c]; exact ⟨rfl, rfl⟩
    · right; rw [if_neg c, List.length_append]; rfl
  have hXb : ∀ x ∈ (st0 L).out ++ outs (D0 L) Q, 0 ≤ x ∧ x < 256 := by
    intro x hx
    rcases List.mem_append.1 hx with hx | hx
    · have hx' : x ∈ pl L ++ if pl L = [] then [] else [45] := hx
      rcases List.mem_append.1 hx' with hx | hx
      · have := hpb x hx; omega
      · split at hx
        · simp at hx
        · have : x = 45 := by simpa using hx
          omega
    · have := hod x hx; omega
  have hle : (st0 L).out.length + (outs (D0 L) Q).length ≤ 1000 := by rw [h1, List.length_append] at hlen; exact hlen
  have hfront : (strOfNums (lab L)).extract 0 (pl L).length = strOfNums (pl L) := by
    rw [h1]
    have e : (st0 L).out ++ outs (D0 L) Q = pl L ++ ((if pl L = [] then [] else [45]) ++ outs (D0 L) Q) := by
      show (pl L ++ if pl L = [] then [] else [45]) ++ outs (D0 L) Q = _
      rw [List.append_assoc]
    rw [e]
    exact str_front _ _ _ rfl
  have hback : (strOfNums (lab L)).extract (st0 L).out.length (strOfNums (lab L)).size = strOfNums (outs (D0 L) Q) := by
    rw [h1]
    exact str_cut _ _ _ _ rfl (by rw [strOfNums_size])
  have hsz : (strOfNums (lab L)).size = (st0 L).out.length + (outs (D0 L) Q).length := by rw [h1, strOfNums_size, List.length_append]
  have CL := hide (fun W => lastI (st0 L).out (outs (D0 L) Q) W hX (fun x hx => (hod x hx).2.2) hXb (by omega))
  rw [← h1] at CL
  have CP := hide (fun W => implPointsOf (strOfNums (pl L)) W (by rw [strOfNums_size]; omega))
  have hpo : ptsOut (strOfNums (pl L)) = pl L := by
    unfold ptsOut
    rw [if_neg (by rw [strOfNums_size]; omega), pts_asc hpb]
  rw [hpo] at CP
  have CU := hide (fun B v W (ho : Iy B W v (pl L)) (hb : B ≤ W.heap.size) => putI B v (pl L) Q W ho hb h2 (by show (outs (D0 L) Q).length ≤ 10000; omega))
  have e3 : (fin ⟨pl L, 128, 0, 72, false⟩ Q).F = L := h3
  rw [e3] at CU
  have CO := hide (fun v W (h : IntsAt W v L) => labelI v L W h hL (fun x hx => by have := (isPt_iff x).1 (hP x hx); omega))
  have CW := hide (fun v W (h : IntsAt W v L) => implWritten v L W h (by omega))
  have hle2 : (strOfNums (lab L)).size ≤ 1000 := by rw [strOfNums_size]; exact hlen
  have hD0 : outs ⟨pl L, 128, 0, 72, false⟩ Q = outs (D0 L) Q := rfl
  rw [hD0] at CU
  clear hXb hod hpb h1 h2 h3 hX hpo e3 hPb hP hD0
  generalize strOfNums (lab L) = S at *
  generalize strOfNums (textL L) = TX at *
  generalize strOfNums (outs (D0 L) Q) = S2 at *
  generalize hpl : strOfNums (pl L) = S1 at *
  generalize (outs (D0 L) Q).length = ol at *
  generalize (st0 L).out.length = xl at *
  generalize hpll : (pl L).length = pn at *
  have hlen' : ¬ (1000 : Int) < (S.size : Int) := by omega
  have HW0 := hide (Below.refl w.heap.size w)
  obtain ⟨c, hc⟩ : ∃ c : Int, (xl : Int) - 1 = c := ⟨_, rfl⟩
  rw [hc] at CL
  have hmx : max c 0 = (pn : Int) := by omega
  have hw1 : IntKind.i64.wrap (c + 1) = c + 1 := by rw [IntKind.wrap_i64]; omega
  have hb1 : (0 : Int) ≤ c + 1 := by omega
  have htn : (c + 1).toNat = xl := by omega
  have hb3 : c + 1 ≤ (S.size : Int) := by omega
  have hb4 : (pn : Int) ≤ (S.size : Int) := by omega
  clear hsz hle hXl hc
  go_enter Tryd.func23, Tryd.ntmps23
  go_wp2_with (go_at_call 42; refine ((unhide CL) _).mono ?_; rintro e w' ⟨rfl, hw⟩; obtain rfl := hw.symm; clear hw)
  go_region_with (first
    | (go_at_call 18; refine ((unhide CP) _).mono ?_; rintro e w1 ⟨v1, rfl, o1, b1⟩; have O1 := hide (show Iy w.heap.size w1 v1 (pl L) from by unfold Iy; rw [hpll]; exact o1); have B1 := hide ((bdrew (Below.refl w.heap.size w) 1).trans b1); clear b1 o1)
    | (go_at_call 43; refine ((unhide CU) _ _ _ (unhide O1) (unhide B1).size).mono ?_; rintro e w2 ⟨v2, rfl, o2, b2⟩; have O2 := hide o2; have B2 := hide ((unhide B1).trans b2); clear b2 o2))
  all_goals
    have IA : Hid (∀ W, Below w2.heap.size w2 W → IntsAt W v2 L) := hide (fun W hW => IntsAt.below (IntsAt.owned (unhide O2)) hW)
    obtain ⟨a2, c2, rfl⟩ := (unhide O2).form
    clear hfront O1 B1 CP CU CL O2
    try clear hback
    simp only [List.getElem_toArray, List.getElem_cons_succ, List.getElem_cons_zero, Act.put, List.setIfInBounds_toArray, List.set_cons_succ, List.set_cons_zero]
    go_wp2_with (first
      | (go_at_call 17; refine ((unhide CO) _ _ ((unhide IA) w2 (Below.refl _ _))).mono ?_; rintro e w3 ⟨rfl, b3⟩; have B3 := hide b3; clear b3)
      | (go_at_call 44; refine ((unhide CW) _ _ ((unhide IA) w3 (unhide B3))).mono ?_; rintro e w4 ⟨rfl, b4⟩; have B4 := hide ((unhide B3).trans (b4.mono (unhide B3).size)); clear b4))
    go_ret2
    exact ⟨rfl, (unhide B2).trans ((unhide B4).mono (unhide B2).size)⟩
end Go.Proofs.YthjjojkabbepdaaDoor.Lab
