/- A close and how it goes on, as the program tells it. -/
import Derived.Test.YtdellmjafephiaaDoorSenP
import Derived.Test.YtdellmjafephiaaDoorChrC
import Derived.Test.YtdellmjafephiaaDoorStpC
import Derived.Deep.Cut
namespace Go.Proofs.YtdellmjafephiaaDoor
namespace Sen
open Go.RowKit
theorem be1 (w : World) (a : Obj) : Below w.heap.size w (w.alloc a) := (Below.refl _ _).alloc (Nat.le_refl _) _
theorem be2 (w : World) (a b : Obj) : Below w.heap.size w ((w.alloc a).alloc b) := (be1 w a).alloc (by simp) _
theorem be3 (w : World) (a b c : Obj) : Below w.heap.size w (((w.alloc a).alloc b).alloc c) := (be2 w a b).alloc (by simp; omega) _
theorem bdr0 {w w1 : World} (h : Below w.heap.size w w1) : Below w.heap.size w w1.drew := h.trans ⟨rfl, rfl, rfl, Nat.le_refl _, fun _ _ => rfl⟩
set_option maxRecDepth 100000 in
theorem isSpace_any (p : Int) (w : World) (ht : TabAt w) : Calls Tryd.prog 128 #[.int .i64 p] w fun e w' => e = .returned (.bool (Chr.cat p == 2)) ∧ ∃ o, w' = w.alloc o := by
  have H := hide (Chr.cat_any p w ht)
  clear ht
  generalize Chr.cat p = c at *
  go_enter Tryd.func128, Tryd.ntmps128
  go_wp2_with (go_at_call 139; refine (unhide H).mono ?_; rintro e w' ⟨rfl, o, rfl⟩)
  go_ret
  exact ⟨rfl, _, rfl⟩
set_option maxRecDepth 100000 in
set_option maxHeartbeats 1000000 in
theorem crow_i (p : Int) (w : World) (ht : TabAt w) : Calls Tryd.prog 138 #[.int .i64 p] w fun e w' => e = .returned (.int .i64 (crw p : Int)) ∧ (w' = w ∨ ∃ o, w' = w.alloc o) := by
  have H := hide (isSpace_any p w ht)
  clear ht
  by_cases c1 : p = 46 ∨ p = 33 ∨ p = 63
  · have HR : Hid (crw p = 1) := hide (if_pos c1)
    rcases c1 with rfl | rfl | rfl
    all_goals
      go_enter Tryd.func138, Tryd.ntmps138
      go_wp2
      go_ret
      exact ⟨by rw [unhide HR]; rfl, .inl rfl⟩
  · by_cases c2 : p = 41 ∨ p = 93 ∨ p = 125 ∨ p = 34 ∨ p = 39
    · have HR : Hid (crw p = 2) := hide (by unfold crw; rw [if_neg c1, if_pos c2])
      rcases c2 with rfl | rfl | rfl | rfl | rfl
      all_goals
        go_enter Tryd.func138, Tryd.ntmps138
        go_wp2
        go_ret
        exact ⟨by rw [unhide HR]; rfl, .inl rfl⟩
    · have HR : Hid (crw p = if Chr.cat p = 2 then 3 else 0) := hide (by unfold crw; rw [if_neg c1, if_neg c2])
      have n1 : (p == 46) = false := by simp; omega
      have n2 : (p == 33) = false := by simp; omega
      have n3 : (p == 63) = false := by simp; omega
      have n4 : (p == 41) = false := by simp; omega
      have n5 : (p == 93) = false := by simp; omega
      have n6 : (p == 125) = false := by simp; omega
      have n7 : (p == 34) = false := by simp; omega
      have n8 : (p == 39) = false := by simp; omega
      clear c1 c2
      cases hc : (Chr.cat p == 2)
      · rw [hc] at H
        rw [if_neg (by simpa using hc)] at HR
        clear hc
        go_enter Tryd.func138, Tryd.ntmps138
        go_wp2_with (go_at_call 128; refine (unhide H).mono ?_; rintro e w' ⟨rfl, o, rfl⟩)
        go_ret
        exact ⟨by rw [unhide HR]; rfl, .inr ⟨_, rfl⟩⟩
      · rw [hc] at H
        rw [if_pos (by simpa using hc)] at HR
        clear hc
        go_enter Tryd.func138, Tryd.ntmps138
        go_wp2_with (go_at_call 128; refine (unhide H).mono ?_; rintro e w' ⟨rfl, o, rfl⟩)
        go_ret
        exact ⟨by rw [unhide HR]; rfl, .inr ⟨_, rfl⟩⟩
set_option maxRecDepth 100000 in
theorem over_i (a b : Int) (w : World) : Calls Tryd.prog 101 #[.int .i64 a, .int .i64 b] w fun e w' => e = .returned (.bool (lov a b)) ∧ w' = w := by
  have HR : Hid (lov a b = (a == 10 || (a == 13 && b != 10))) := hide rfl
  generalize lov a b = D at *
  cases h1 : (a == 10) <;> cases h2 : (a == 13)
  all_goals
    rw [h1, h2] at HR
    go_enter Tryd.func101, Tryd.ntmps101
    go_wp2
    go_ret
    exact ⟨by rw [unhide HR]; simp, rfl⟩
def clV (r : Nat × Bool) : Value := .agg #[.int .i64 (r.1 : Int), .bool r.2]
set_option maxRecDepth 100000 in
set_option maxHeartbeats 4000000 in
theorem moved_i (n : Nat) (d : Bool) (p : Int) (w : World) (ht : TabAt w) (hn : n ≤ 3) : Calls Tryd.prog 103 #[.agg #[.int .i64 (n : Int), .bool d], .int .i64 p] w fun e w' => e = .returned (clV (stp (n, d) p)) ∧ Below w.heap.size w w' := by
  have HT := hide ht
  have C := hide (fun W h => crow_i p W h)
  have HR : Hid (stp (n, d) p = if crw p = 1 then (1, p == 46 && (n != 1 || d)) else if n = 0 ∨ crw p < n then (0, false) else (crw p, d)) := hide rfl
  have hc3 := crw_le p
  clear ht
  generalize stp (n, d) p = R at *
  generalize crw p = c at *
  by_cases c1 : c = 1
  · subst c1
    rw [if_pos rfl] at HR
    cases h46 : (p == 46)
    · rw [h46] at HR
      go_enter Tryd.func103, Tryd.ntmps103
      go_wp2_with (go_at_call 138; refine ((unhide C) _ ((unhide HT).below (be2 _ _ _))).mono ?_; rintro e w' ⟨rfl, rfl | ⟨o, rfl⟩⟩)
      all_goals
        exact bodyPost_ret (v := .agg #[.int .i64 1, .bool false]) (by simp [results, Tryd.results103, go_sem]) rfl ⟨by rw [unhide HR]; rfl, by first | exact be2 _ _ _ | exact be3 _ _ _ _⟩
    · rw [h46] at HR
      by_cases n1 : n = 1
      · subst n1
        have HR2 : Hid (R = (1, d)) := hide (by rw [unhide HR]; rfl)
        clear HR
        go_enter Tryd.func103, Tryd.ntmps103
        go_wp2_with (go_at_call 138; refine ((unhide C) _ ((unhide HT).below (be2 _ _ _))).mono ?_; rintro e w' ⟨rfl, rfl | ⟨o, rfl⟩⟩)
        all_goals
          exact bodyPost_ret (v := .agg #[.int .i64 1, .bool d]) (by simp [results, Tryd.results103, go_sem]) rfl ⟨by rw [unhide HR2]; rfl, by first | exact be2 _ _ _ | exact be3 _ _ _ _⟩
      · have n1' : ((n : Int) != 1) = true := by simp; omega
        have HR2 : Hid (R = (1, true)) := hide (by rw [unhide HR]; simp [n1])
        clear HR n1
        go_enter Tryd.func103, Tryd.ntmps103
        go_wp2_with (go_at_call 138; refine ((unhide C) _ ((unhide HT).below (be2 _ _ _))).mono ?_; rintro e w' ⟨rfl, rfl | ⟨o, rfl⟩⟩)
        all_goals
          exact bodyPost_ret (v := .agg #[.int .i64 1, .bool true]) (by simp [results, Tryd.results103, go_sem]) rfl ⟨by rw [unhide HR2]; rfl, by first | exact be2 _ _ _ | exact be3 _ _ _ _⟩
  · rw [if_neg c1] at HR
    have c1' : ((c : Int) == 1) = false := by simp; omega
    clear c1
    by_cases n0 : n = 0
    · subst n0
      rw [if_pos (.inl rfl)] at HR
      go_enter Tryd.func103, Tryd.ntmps103
      go_wp2_with (go_at_call 138; refine ((unhide C) _ ((unhide HT).below (be2 _ _ _))).mono ?_; rintro e w' ⟨rfl, rfl | ⟨o, rfl⟩⟩)
      all_goals
        exact bodyPost_ret (v := .agg #[.int .i64 0, .bool false]) (by simp [results, Tryd.results103, go_sem]) rfl ⟨by rw [unhide HR]; rfl, by first | exact be2 _ _ _ | exact be3 _ _ _ _⟩
    · have n0' : ((n : Int) == 0) = false := by simp; omega
      by_cases c2 : c < n
      · rw [if_pos (.inr c2)] at HR
        have c2' : (c : Int) < (n : Int) := by omega
        clear n0 c2
        go_enter Tryd.func103, Tryd.ntmps103
        go_wp2_with (go_at_call 138; refine ((unhide C) _ ((unhide HT).below (be2 _ _ _))).mono ?_; rintro e w' ⟨rfl, rfl | ⟨o, rfl⟩⟩)
        all_goals
          exact bodyPost_ret (v := .agg #[.int .i64 0, .bool false]) (by simp [results, Tryd.results103, go_sem]) rfl ⟨by rw [unhide HR]; rfl, by first | exact be2 _ _ _ | exact be3 _ _ _ _⟩
      · rw [if_neg (by omega)] at HR
        have c2' : ¬ (c : Int) < (n : Int) := by omega
        clear n0 c2
        go_enter Tryd.func103, Tryd.ntmps103
        go_wp2_with (go_at_call 138; refine ((unhide C) _ ((unhide HT).below (be2 _ _ _))).mono ?_; rintro e w' ⟨rfl, rfl | ⟨o, rfl⟩⟩)
        all_goals
          exact bodyPost_ret (v := .agg #[.int .i64 (c : Int), .bool d]) (by simp [results, Tryd.results103, go_sem]) rfl ⟨by rw [unhide HR]; rfl, by first | exact be2 _ _ _ | exact be3 _ _ _ _⟩
theorem crow_b (p : Int) (w : World) (ht : TabAt w) : Calls Tryd.prog 138 #[.int .i64 p] w fun e w' => e = .returned (.int .i64 (crw p : Int)) ∧ Below w.heap.size w w' :=
  (crow_i p w ht).mono fun e w' h => ⟨h.1, by rcases h.2 with rfl | ⟨o, rfl⟩; exact Below.refl _ _; exact be1 _ _⟩
theorem cat_b (p : Int) (w : World) (ht : TabAt w) : Calls Tryd.prog 139 #[.int .i64 p] w fun e w' => e = .returned (.int .i64 (Chr.cat p)) ∧ Below w.heap.size w w' :=
  (Chr.cat_any p w ht).mono fun e w' h => ⟨h.1, by obtain ⟨o, rfl⟩ := h.2; exact be1 _ _⟩
theorem bl1d {w : World} {a : Obj} : Below w.heap.size w (w.alloc a).drew := bdr0 (be1 w a)
theorem jn {w w1 w2 : World} (h : Below w.heap.size w w1) (h2 : Below w1.heap.size w1 w2) : Below w.heap.size w w2 := h.trans (h2.mono h.size)
set_option maxRecDepth 100000 in
set_option maxHeartbeats 4000000 in
theorem cuts_i (n : Nat) (d : Bool) (p : Int) (w : World) (ht : TabAt w) : Calls Tryd.prog 102 #[.agg #[.int .i64 (n : Int), .bool d], .int .i64 p] w fun e w' => e = .returned (.bool (cah (n, d) p)) ∧ Below w.heap.size w w' := by
  have HT := hide ht
  have C := hide (fun W h => crow_b p W h)
  have CC := hide (fun W h => cat_b p W h)
  have HR : Hid (cah (n, d) p = if n ≤ crw p then false else if Chr.cat p = 5 then !d else if Chr.cat p = 4 ∨ Chr.cat p = 6 ∨ Chr.cat p = 7 ∨ Chr.cat p = 8 then !d || n == 3 else true) := hide rfl
  clear ht
  generalize cah (n, d) p = R at *
  generalize crw p = c at *
  generalize Chr.cat p = k at *
  by_cases c1 : n ≤ c
  · rw [if_pos c1] at HR
    have c1' : (n : Int) ≤ (c : Int) := by omega
    clear c1
    go_enter Tryd.func102, Tryd.ntmps102
    go_upto_region 1 with fail
    go_region_law (refine step_call rfl 138 #[.tmp 5] #[2] rfl #[.int .i64 p] (by simp [Act.eval, Act.put]) (by kernel_rfl) (((unhide C) _ ((unhide HT).below bl1d)).mono ?_); rintro e w2 ⟨rfl, hb2⟩; have B2 : Hid (Below w.heap.size w w2) := hide (jn bl1d hb2); have q0 : w2.cell? ⟨w.heap.size, 0, none⟩ = some (.int .i64 (n : Int)) := (hb2.cell (p := ⟨w.heap.size, 0, none⟩) (by simp)).trans (by simp); have q1 : w2.cell? ⟨w.heap.size, 1, none⟩ = some (.bool d) := (hb2.cell (p := ⟨w.heap.size, 1, none⟩) (by simp)).trans (by simp); have z2 : w.heap.size < w2.heap.size := Nat.lt_of_lt_of_le (by simp) hb2.size; clear hb2; refine ⟨_, rfl, ?_⟩)
    all_goals
      go_wp2
      go_ret
      exact ⟨by rw [unhide HR]; rfl, unhide B2⟩
  · rw [if_neg c1] at HR
    have c1' : ¬ (n : Int) ≤ (c : Int) := by omega
    clear c1
    by_cases k5 : k = 5
    · subst k5
      rw [if_pos rfl] at HR
      go_enter Tryd.func102, Tryd.ntmps102
      go_upto_region 1 with fail
      go_region_law (refine step_call rfl 138 #[.tmp 5] #[2] rfl #[.int .i64 p] (by simp [Act.eval, Act.put]) (by kernel_rfl) (((unhide C) _ ((unhide HT).below bl1d)).mono ?_); rintro e w2 ⟨rfl, hb2⟩; have B2 : Hid (Below w.heap.size w w2) := hide (jn bl1d hb2); have q0 : w2.cell? ⟨w.heap.size, 0, none⟩ = some (.int .i64 (n : Int)) := (hb2.cell (p := ⟨w.heap.size, 0, none⟩) (by simp)).trans (by simp); have q1 : w2.cell? ⟨w.heap.size, 1, none⟩ = some (.bool d) := (hb2.cell (p := ⟨w.heap.size, 1, none⟩) (by simp)).trans (by simp); have z2 : w.heap.size < w2.heap.size := Nat.lt_of_lt_of_le (by simp) hb2.size; clear hb2; refine ⟨_, rfl, ?_⟩)
      all_goals
        go_wp2_with (go_at_call 139; refine ((unhide CC) _ ((unhide HT).below (unhide B2))).mono ?_; rintro e w3 ⟨rfl, hb3⟩; have B3 := hide (jn (unhide B2) hb3); have r0 := (hb3.cell (p := ⟨w.heap.size, 0, none⟩) z2).trans q0; have r1 := (hb3.cell (p := ⟨w.heap.size, 1, none⟩) z2).trans q1; clear hb3)
        go_ret
        exact ⟨by rw [unhide HR]; rfl, unhide B3⟩
    · rw [if_neg k5] at HR
      have k5' : (k == 5) = false := by simp [k5]
      by_cases kk : k = 4 ∨ k = 6 ∨ k = 7 ∨ k = 8
      · rw [if_pos kk] at HR
        clear k5 k5'
        cases d with
        | false =>
          have HR2 : Hid (R = true) := hide (by rw [unhide HR]; rfl)
          clear HR
          rcases kk with rfl | rfl | rfl | rfl
          all_goals
            go_enter Tryd.func102, Tryd.ntmps102
            go_upto_region 1 with fail
            go_region_law (refine step_call rfl 138 #[.tmp 5] #[2] rfl #[.int .i64 p] (by simp [Act.eval, Act.put]) (by kernel_rfl) (((unhide C) _ ((unhide HT).below bl1d)).mono ?_); rintro e w2 ⟨rfl, hb2⟩; have B2 : Hid (Below w.heap.size w w2) := hide (jn bl1d hb2); have q0 : w2.cell? ⟨w.heap.size, 0, none⟩ = some (.int .i64 (n : Int)) := (hb2.cell (p := ⟨w.heap.size, 0, none⟩) (by simp)).trans (by simp); have q1 : w2.cell? ⟨w.heap.size, 1, none⟩ = some (.bool false) := (hb2.cell (p := ⟨w.heap.size, 1, none⟩) (by simp)).trans (by simp); have z2 : w.heap.size < w2.heap.size := Nat.lt_of_lt_of_le (by simp) hb2.size; clear hb2; refine ⟨_, rfl, ?_⟩)
            all_goals
              go_wp2_with (go_at_call 139; refine ((unhide CC) _ ((unhide HT).below (unhide B2))).mono ?_; rintro e w3 ⟨rfl, hb3⟩; have B3 := hide (jn (unhide B2) hb3); have r0 := (hb3.cell (p := ⟨w.heap.size, 0, none⟩) z2).trans q0; have r1 := (hb3.cell (p := ⟨w.heap.size, 1, none⟩) z2).trans q1; clear hb3)
              go_ret
              exact ⟨by rw [unhide HR2]; rfl, unhide B3⟩
        | true =>
          have HR2 : Hid (R = ((n : Int) == 3)) := hide (by rw [unhide HR, Bool.not_true, Bool.false_or, Bool.eq_iff_iff]; simp; omega)
          clear HR
          rcases kk with rfl | rfl | rfl | rfl
          all_goals
            go_enter Tryd.func102, Tryd.ntmps102
            go_upto_region 1 with fail
            go_region_law (refine step_call rfl 138 #[.tmp 5] #[2] rfl #[.int .i64 p] (by simp [Act.eval, Act.put]) (by kernel_rfl) (((unhide C) _ ((unhide HT).below bl1d)).mono ?_); rintro e w2 ⟨rfl, hb2⟩; have B2 : Hid (Below w.heap.size w w2) := hide (jn bl1d hb2); have q0 : w2.cell? ⟨w.heap.size, 0, none⟩ = some (.int .i64 (n : Int)) := (hb2.cell (p := ⟨w.heap.size, 0, none⟩) (by simp)).trans (by simp); have q1 : w2.cell? ⟨w.heap.size, 1, none⟩ = some (.bool true) := (hb2.cell (p := ⟨w.heap.size, 1, none⟩) (by simp)).trans (by simp); have z2 : w.heap.size < w2.heap.size := Nat.lt_of_lt_of_le (by simp) hb2.size; clear hb2; refine ⟨_, rfl, ?_⟩)
            all_goals
              go_wp2_with (go_at_call 139; refine ((unhide CC) _ ((unhide HT).below (unhide B2))).mono ?_; rintro e w3 ⟨rfl, hb3⟩; have B3 := hide (jn (unhide B2) hb3); have r0 := (hb3.cell (p := ⟨w.heap.size, 0, none⟩) z2).trans q0; have r1 := (hb3.cell (p := ⟨w.heap.size, 1, none⟩) z2).trans q1; clear hb3)
              go_ret
              exact ⟨by rw [unhide HR2]; rfl, unhide B3⟩
      · rw [if_neg kk] at HR
        have k4' : (k == 4) = false := by simp; omega
        have k6' : (k == 6) = false := by simp; omega
        have k7' : (k == 7) = false := by simp; omega
        have k8' : (k == 8) = false := by simp; omega
        clear kk k5
        go_enter Tryd.func102, Tryd.ntmps102
        go_upto_region 1 with fail
        go_region_law (refine step_call rfl 138 #[.tmp 5] #[2] rfl #[.int .i64 p] (by simp [Act.eval, Act.put]) (by kernel_rfl) (((unhide C) _ ((unhide HT).below bl1d)).mono ?_); rintro e w2 ⟨rfl, hb2⟩; have B2 : Hid (Below w.heap.size w w2) := hide (jn bl1d hb2); have q0 : w2.cell? ⟨w.heap.size, 0, none⟩ = some (.int .i64 (n : Int)) := (hb2.cell (p := ⟨w.heap.size, 0, none⟩) (by simp)).trans (by simp); have q1 : w2.cell? ⟨w.heap.size, 1, none⟩ = some (.bool d) := (hb2.cell (p := ⟨w.heap.size, 1, none⟩) (by simp)).trans (by simp); have z2 : w.heap.size < w2.heap.size := Nat.lt_of_lt_of_le (by simp) hb2.size; clear hb2; refine ⟨_, rfl, ?_⟩)
        all_goals
          go_wp2_with (go_at_call 139; refine ((unhide CC) _ ((unhide HT).below (unhide B2))).mono ?_; rintro e w3 ⟨rfl, hb3⟩; have B3 := hide (jn (unhide B2) hb3); clear hb3)
          go_ret
          exact ⟨by rw [unhide HR]; rfl, unhide B3⟩
end Sen
end Go.Proofs.YtdellmjafephiaaDoor
