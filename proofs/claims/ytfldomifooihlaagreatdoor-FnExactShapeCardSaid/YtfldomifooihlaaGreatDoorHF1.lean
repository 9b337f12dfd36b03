/- Several texts in one. -/
import Derived.Test.YtfldomifooihlaaGreatDoorHA
import Derived.Deep.RegionWith
/- Ids that can be, as the program and as the specification tell it. -/
namespace Go.Proofs.YtfldomifooihlaaGreatDoor.Frl
open Go.RowKit
set_option linter.unusedVariables false
/-- Ids that can be, at most so many. -/
def okI (L : List Int) (most : Nat) : Bool := decide (L.length ≤ most) && L.all fun x => decide (0 ≤ x) && decide (x ≤ 1000000)
theorem nth_mem {L : List Int} {k : Nat} (h : k < L.length) : nth L k ∈ L := by
  have e : nth L k = L[k] := by simp [nth, List.getD, h]
  rw [e]; exact List.getElem_mem h
theorem okI_bad {L : List Int} {most k : Nat} (h : k < L.length) (hb : nth L k < 0 ∨ 1000000 < nth L k) : okI L most = false := by
  unfold okI
  have : (L.all fun x => decide (0 ≤ x) && decide (x ≤ 1000000)) = false := by
    rw [List.all_eq_false]
    refine ⟨nth L k, nth_mem h, ?_⟩
    simp
    omega
  rw [this, Bool.and_false]
theorem okI_long {L : List Int} {most : Nat} (h : most < L.length) : okI L most = false := by
  unfold okI
  rw [decide_eq_false (by omega), Bool.false_and]
theorem okI_good {L : List Int} {most : Nat} (h : L.length ≤ most) (hg : ∀ j, j < L.length → ¬ (nth L j < 0) ∧ ¬ (1000000 < nth L j)) : okI L most = true := by
  unfold okI
  rw [decide_eq_true h, Bool.true_and, List.all_eq_true]
  intro x hx
  obtain ⟨i, hi, rfl⟩ := List.getElem_of_mem hx
  have e : nth L i = L[i] := by simp [nth, List.getD, hi]
  have := hg i hi
  rw [e] at this
  simp
  omega
theorem ret_bool {x y : Bool} (h : x = y) : (Ending.returned (.bool x) : Ending) = .returned (.bool y) := by rw [h]
set_option maxRecDepth 100000 in
theorem within_any (p a b : Int) (w : World) : Calls Tryz.prog 50 #[.int .i64 p, .int .i64 a, .int .i64 b] w fun e w' => e = .returned (.bool (decide (a ≤ p) && decide (p ≤ b))) ∧ w' = w := by
  by_cases h1 : a ≤ p
  · by_cases h2 : p ≤ b
    · go_enter Tryz.func50, Tryz.ntmps50
      go_wp2
      go_ret
      exact ⟨ret_bool (x := true) (by simp [h1, h2]), rfl⟩
    · go_enter Tryz.func50, Tryz.ntmps50
      go_wp2
      go_ret
      exact ⟨ret_bool (x := false) (by simp [h2]), rfl⟩
  · go_enter Tryz.func50, Tryz.ntmps50
    go_wp2
    go_ret
    exact ⟨ret_bool (x := false) (by simp; omega), rfl⟩
set_option maxHeartbeats 1000000 in
theorem l10Ids_any (v : Value) (L : List Int) (most : Nat) (w : World) (h : IntsAt w v L) (hl : L.length ≤ 1048576) (hm : most ≤ 100) :
    Calls Tryz.prog 70 #[v, .int .i64 most] w fun e w' => e = .returned (.bool (okI L most)) ∧ w' = w := by
  obtain ⟨a, cap, rfl, h⟩ := h
  have HC : Hid (∀ k, k < L.length → ∃ b off, a = some ⟨b, off, none⟩ ∧ w.cell? ⟨b, off + k, none⟩ = some (.int .i64 (nth L k))) := hide (fun k hk => by
    rcases h with rfl | ⟨b, off, rfl, hb, hc⟩
    · simp at hk
    · exact ⟨b, off, rfl, hc k hk⟩)
  clear h
  go_enter Tryz.func70, Tryz.ntmps70
  go_wp2
  go_loopw [5] (fun i wr => ∃ k : Nat, k ≤ L.length ∧ i = .int .i64 k ∧ Hid (∀ j, j < k → ¬ (nth L j < 0) ∧ ¬ (1000000 < nth L j)) ∧ wr = w) (fun i _ => L.length - (intOf i).toNat)
  case atStart => exact ⟨0, Nat.zero_le _, rfl, hide (fun j hj => by omega), rfl⟩
  case round =>
    obtain ⟨k, hk, rfl, HG, rfl⟩ := hrel
    by_cases hlt : k < L.length
    · obtain ⟨b, off, rfl, c1⟩ := unhide HC k hlt
      have hlt' : (k : Int) < (L.length : Int) := by omega
      by_cases t1 : nth L k < 0
      · have R := hide (okI_bad (most := most) hlt (.inl t1))
        go_wp2
        go_ret
        rw [unhide R]
        exact ⟨rfl, rfl⟩
      · by_cases t2 : 1000000 < nth L k
        · have R := hide (okI_bad (most := most) hlt (.inr t2))
          go_wp2
          go_ret
          rw [unhide R]
          exact ⟨rfl, rfl⟩
        · have HG' : Hid (∀ j, j < k + 1 → ¬ (nth L j < 0) ∧ ¬ (1000000 < nth L j)) := hide (fun j hj => by
            by_cases e : j = k
            · subst e; exact ⟨t1, t2⟩
            · exact unhide HG j (by omega))
          go_wp2
          go_roundw
          case rel => exact ⟨k + 1, by omega, by go_num, HG', trivial⟩
          case measure => simp [intOf]; omega
    · obtain rfl : k = L.length := by omega
      by_cases hs : L.length ≤ most
      · have R := hide (okI_good hs (unhide HG))
        have hs' : (L.length : Int) ≤ (most : Int) := by omega
        go_wp2
        go_ret
        rw [unhide R]
        exact ⟨rfl, rfl⟩
      · have R := hide (okI_long (L := L) (most := most) (by omega))
        have hs' : ¬ (L.length : Int) ≤ (most : Int) := by omega
        go_wp2
        go_ret
        rw [unhide R]
        exact ⟨rfl, rfl⟩
set_option maxHeartbeats 1000000 in
theorem areIds_any (v : Value) (L : List Int) (most : Nat) (w : World) (h : IntsAt w v L) (hl : L.length ≤ 1048576) (hm : most ≤ 100) :
    Calls Tryz.prog 105 #[v, .int .i64 most] w fun e w' => e = .returned (.bool (okI L most)) ∧ w' = w := by
  obtain ⟨a, cap, rfl, h⟩ := h
  have HC : Hid (∀ k, k < L.length → ∃ b off, a = some ⟨b, off, none⟩ ∧ w.cell? ⟨b, off + k, none⟩ = some (.int .i64 (nth L k))) := hide (fun k hk => by
    rcases h with rfl | ⟨b, off, rfl, hb, hc⟩
    · simp at hk
    · exact ⟨b, off, rfl, hc k hk⟩)
  clear h
  by_cases hs : most < L.length
  · have R := hide (okI_long hs)
    have hs' : (most : Int) < (L.length : Int) := by omega
    go_enter Tryz.func105, Tryz.ntmps105
    go_wp2
    go_ret
    rw [unhide R]
    exact ⟨rfl, rfl⟩
  have hs' : ¬ (most : Int) < (L.length : Int) := by omega
  go_enter Tryz.func105, Tryz.ntmps105
  go_wp2
  go_loopw [13] (fun i wr => ∃ k : Nat, k ≤ L.length ∧ i = .int .i64 k ∧ Hid (∀ j, j < k → ¬ (nth L j < 0) ∧ ¬ (1000000 < nth L j)) ∧ wr = w) (fun i _ => L.length - (intOf i).toNat)
  case atStart => exact ⟨0, Nat.zero_le _, rfl, hide (fun j hj => by omega), rfl⟩
  case round =>
    obtain ⟨k, hk, rfl, HG, rfl⟩ := hrel
    by_cases hlt : k < L.length
    · obtain ⟨b, off, rfl, c1⟩ := unhide HC k hlt
      have hlt' : (k : Int) < (L.length : Int) := by omega
      have CW := hide (fun W => within_any (nth L k) 0 1000000 W)
      cases y : (decide (0 ≤ nth L k) && decide (nth L k ≤ 1000000))
      · have R := hide (okI_bad (L := L) (most := most) hlt (by simp at y; omega))
        rw [y] at CW
        go_wp2_with (go_at_call 50; refine ((unhide CW) _).mono ?_; rintro e w2 ⟨rfl, e2⟩; have e3 := e2.symm; subst e3)
        go_ret
        rw [unhide R]
        exact ⟨rfl, rfl⟩
      · have yy : 0 ≤ nth L k ∧ nth L k ≤ 1000000 := by simpa using y
        have HG' : Hid (∀ j, j < k + 1 → ¬ (nth L j < 0) ∧ ¬ (1000000 < nth L j)) := hide (fun j hj => by
          by_cases e : j = k
          · subst e; omega
          · exact unhide HG j (by omega))
        rw [y] at CW
        go_wp2_with (go_at_call 50; refine ((unhide CW) _).mono ?_; rintro e w2 ⟨rfl, e2⟩; have e3 := e2.symm; subst e3)
        go_roundw
        case rel => exact ⟨k + 1, by omega, by go_num, hide (fun j hj => by have := unhide HG' j hj; omega), trivial⟩
        case measure => simp [intOf]; omega
    · obtain rfl : k = L.length := by omega
      have R := hide (okI_good (most := most) (by omega) (unhide HG))
      go_wp2
      go_ret
      rw [unhide R]
      exact ⟨rfl, rfl⟩
end Go.Proofs.YtfldomifooihlaaGreatDoor.Frl
/- Rows of rules: four rows of numbers each; how large they are. -/
namespace Go.Proofs.YtfldomifooihlaaGreatDoor.Frl
open Go.RowKit
set_option linter.unusedVariables false
def qn (Q : List (List Int)) (k : Nat) : List Int := Q.getD k []
/-- A slice value that holds n rules; Q: their rows of numbers, four each. -/
def RuI (w : World) (v : Value) (n : Nat) (Q : List (List Int)) : Prop :=
  Q.length = n * 4 ∧ ∃ a cap, v = .slice a n cap ∧ (n = 0 ∨ ∃ b off, a = some ⟨b, off, none⟩ ∧ b < w.heap.size ∧ ∀ k, k < n * 4 → ∃ u, w.cell? ⟨b, off + k, none⟩ = some u ∧ IntsAt w u (qn Q k))
theorem RuI.below {w w' : World} {v : Value} {n : Nat} {Q : List (List Int)} (h : RuI w v n Q) (hb : Below w.heap.size w w') : RuI w' v n Q := by
  obtain ⟨hl, a, cap, rfl, h⟩ := h
  refine ⟨hl, a, cap, rfl, ?_⟩
  rcases h with h | ⟨b, off, rfl, hbs, hc⟩
  · exact .inl h
  · refine .inr ⟨b, off, rfl, Nat.lt_of_lt_of_le hbs hb.size, fun k hk => ?_⟩
    obtain ⟨u, c, hu⟩ := hc k hk
    exact ⟨u, (hb.cell (p := ⟨b, off + k, none⟩) hbs).trans c, hu.below hb⟩
/-- The four rows of one rule, as they are read. -/
def Four (w : World) (b at0 : Nat) (u0 u1 u2 u3 : Value) (Q : List (List Int)) (i : Nat) : Prop :=
  (w.cell? ⟨b, at0 + i * 4, none⟩ = some u0 ∧ w.cell? ⟨b, at0 + i * 4 + 1, none⟩ = some u1 ∧ w.cell? ⟨b, at0 + i * 4 + 2, none⟩ = some u2 ∧ w.cell? ⟨b, at0 + i * 4 + 3, none⟩ = some u3) ∧
  IntsAt w u0 (qn Q (i * 4)) ∧ IntsAt w u1 (qn Q (i * 4 + 1)) ∧ IntsAt w u2 (qn Q (i * 4 + 2)) ∧ IntsAt w u3 (qn Q (i * 4 + 3))
theorem RuI.form {w : World} {v : Value} {n : Nat} {Q : List (List Int)} (h : RuI w v n Q) : ∃ a cap, v = .slice a n cap ∧ ∀ i, i < n → ∃ b off, a = some ⟨b, off, none⟩ ∧ b < w.heap.size ∧ ∃ u0 u1 u2 u3, Four w b off u0 u1 u2 u3 Q i := by
  obtain ⟨hl, a, cap, rfl, h⟩ := h
  refine ⟨a, cap, rfl, fun i hi => ?_⟩
  rcases h with h | ⟨b, off, rfl, hbs, hc⟩
  · omega
  · obtain ⟨u0, c0, i0⟩ := hc (i * 4) (by omega)
    obtain ⟨u1, c1, i1⟩ := hc (i * 4 + 1) (by omega)
    obtain ⟨u2, c2, i2⟩ := hc (i * 4 + 2) (by omega)
    obtain ⟨u3, c3, i3⟩ := hc (i * 4 + 3) (by omega)
    exact ⟨b, off, rfl, hbs, u0, u1, u2, u3, ⟨c0, c1, c2, c3⟩, i0, i1, i2, i3⟩
theorem ints_form {w : World} {v : Value} {l : List Int} (h : IntsAt w v l) : ∃ a c, v = .slice a l.length c := by
  obtain ⟨a, c, e, _⟩ := h
  exact ⟨a, c, e⟩
set_option maxHeartbeats 1000000 in
theorem szN (a : Option Addr) (n c : Nat) (m : Int) (hm : 0 ≤ m ∧ m ≤ 1048576) (w : World) (hn : n ≤ 9223372036854775807) :
    Calls Tryz.prog 68 #[.slice a n c, .int .i64 m] w fun e w' => e = .returned (.int .i64 (if m - (n : Int) < 0 then -1 else m - (n : Int))) ∧ w' = w := by
  by_cases h : m - (n : Int) < 0
  · rw [if_pos h]
    go_enter Tryz.func68, Tryz.ntmps68
    go_wp2
    go_ret
    exact ⟨rfl, rfl⟩
  · rw [if_neg h]
    go_enter Tryz.func68, Tryz.ntmps68
    go_wp2
    go_ret
    exact ⟨rfl, rfl⟩
def lf (m : Int) (s : Nat) : Int := if m - (s : Int) < 0 then -1 else m - (s : Int)
theorem lf_neg {m : Int} {s : Nat} (h : m - (s : Int) < 0) : lf m s = -1 := if_pos h
theorem lf_pos {m : Int} {s : Nat} (h : ¬ m - (s : Int) < 0) : lf m s = m - (s : Int) := if_neg h
set_option maxRecDepth 100000 in
set_option maxHeartbeats 4000000 in
theorem szRule_any (a0 a1 a2 a3 : Option Addr) (n0 n1 n2 n3 c0 c1 c2 c3 : Nat) (m : Int) (w : World) (hm : 0 ≤ m ∧ m ≤ 1048576) (h0 : n0 ≤ 9223372036854775807) (h1 : n1 ≤ 9223372036854775807) (h2 : n2 ≤ 9223372036854775807) (h3 : n3 ≤ 9223372036854775807) :
    Calls Tryz.prog 38 #[.agg #[.slice a0 n0 c0, .slice a1 n1 c1, .slice a2 n2 c2, .slice a3 n3 c3], .int .i64 m] w fun e w' => e = .returned (.int .i64 (lf m (n0 + n1 + n2 + n3))) ∧ Below w.heap.size w w' := by
  have B1 := hide ((Below.refl w.heap.size w).alloc (Nat.le_refl _) (.cells #[.slice a0 n0 c0, .slice a1 n1 c1, .slice a2 n2 c2, .slice a3 n3 c3] 71))
  have C0 := hide (fun W => szN a0 n0 c0 m hm W h0)
  by_cases t0 : m - (n0 : Int) < 0
  · have HE := hide (lf_neg (m := m) (s := n0 + n1 + n2 + n3) (by omega))
    rw [if_pos t0] at C0
    generalize lf m (n0 + n1 + n2 + n3) = R at *
    go_enter Tryz.func38, Tryz.ntmps38
    go_wp2_with fail
    refine ((unhide C0) _).mono ?_
    rintro e w1 ⟨rfl, e1⟩
    have e2 := e1.symm
    subst e2
    clear e1
    go_wp2
    go_ret
    exact ⟨by rw [unhide HE]; rfl, unhide B1⟩
  rw [if_neg t0] at C0
  have C1 := hide (fun W => szN a1 n1 c1 (m - (n0 : Int)) (by omega) W h1)
  by_cases t1 : m - (n0 : Int) - (n1 : Int) < 0
  · have HE := hide (lf_neg (m := m) (s := n0 + n1 + n2 + n3) (by omega))
    rw [if_pos t1] at C1
    generalize lf m (n0 + n1 + n2 + n3) = R at *
    go_enter Tryz.func38, Tryz.ntmps38
    go_wp2_with fail
    refine ((unhide C0) _).mono ?_
    rintro e w1 ⟨rfl, e1⟩
    have e2 := e1.symm
    subst e2
    clear e1
    go_wp2_with fail
    refine ((unhide C1) _).mono ?_
    rintro e w1 ⟨rfl, e1⟩
    have e2 := e1.symm
    subst e2
    clear e1
    go_wp2
    go_ret
    exact ⟨by rw [unhide HE]; rfl, unhide B1⟩
  rw [if_neg t1] at C1
  have C2 := hide (fun W => szN a2 n2 c2 (m - (n0 : Int) - (n1 : Int)) (by omega) W h2)
  by_cases t2 : m - (n0 : Int) - (n1 : Int) - (n2 : Int) < 0
  · have HE := hide (lf_neg (m := m) (s := n0 + n1 + n2 + n3) (by omega))
    rw [if_pos t2] at C2
    generalize lf m (n0 + n1 + n2 + n3) = R at *
    go_enter Tryz.func38, Tryz.ntmps38
    go_wp2_with fail
    refine ((unhide C0) _).mono ?_
    rintro e w1 ⟨rfl, e1⟩
    have e2 := e1.symm
    subst e2
    clear e1
    go_wp2_with fail
    refine ((unhide C1) _).mono ?_
    rintro e w1 ⟨rfl, e1⟩
    have e2 := e1.symm
    subst e2
    clear e1
    go_wp2_with fail
    refine ((unhide C2) _).mono ?_
    rintro e w1 ⟨rfl, e1⟩
    have e2 := e1.symm
    subst e2
    clear e1
    go_wp2
    go_ret
    exact ⟨by rw [unhide HE]; rfl, unhide B1⟩
  rw [if_neg t2] at C2
  have C3 := hide (fun W => szN a3 n3 c3 (m - (n0 : Int) - (n1 : Int) - (n2 : Int)) (by omega) W h3)
  obtain ⟨R, hR⟩ : ∃ R, (if m - (n0 : Int) - (n1 : Int) - (n2 : Int) - (n3 : Int) < 0 then (-1 : Int) else m - (n0 : Int) - (n1 : Int) - (n2 : Int) - (n3 : Int)) = R := ⟨_, rfl⟩
  have HE : Hid (lf m (n0 + n1 + n2 + n3) = R) := hide (by
    rw [← hR]
    by_cases t3 : m - (n0 : Int) - (n1 : Int) - (n2 : Int) - (n3 : Int) < 0
    · rw [if_pos t3, lf_neg (by omega)]
    · rw [if_neg t3, lf_pos (by omega)]; omega)
  have hR1 : R = -1 ∨ 0 ≤ R := by
    by_cases t3 : m - (n0 : Int) - (n1 : Int) - (n2 : Int) - (n3 : Int) < 0
    · rw [if_pos t3] at hR; omega
    · rw [if_neg t3] at hR; omega
  rw [hR] at C3
  rw [unhide HE]
  clear hR HE
  rcases hR1 with rfl | hR1
  all_goals
    go_enter Tryz.func38, Tryz.ntmps38
    go_wp2_with fail
    refine ((unhide C0) _).mono ?_
    rintro e w1 ⟨rfl, e1⟩
    have e2 := e1.symm
    subst e2
    clear e1
    go_wp2_with fail
    refine ((unhide C1) _).mono ?_
    rintro e w1 ⟨rfl, e1⟩
    have e2 := e1.symm
    subst e2
    clear e1
    go_wp2_with fail
    refine ((unhide C2) _).mono ?_
    rintro e w1 ⟨rfl, e1⟩
    have e2 := e1.symm
    subst e2
    clear e1
    go_wp2_with fail
    refine ((unhide C3) _).mono ?_
    rintro e w1 ⟨rfl, e1⟩
    have e2 := e1.symm
    subst e2
    clear e1
    go_wp2
    go_ret
    exact ⟨rfl, unhide B1⟩
/-- How many numbers the first k rules have. -/
def sz4 (Q : List (List Int)) (i : Nat) : Nat := (qn Q (i * 4)).length + (qn Q (i * 4 + 1)).length + (qn Q (i * 4 + 2)).length + (qn Q (i * 4 + 3)).length
def szk (Q : List (List Int)) : Nat → Nat
  | 0 => 0
  | k + 1 => szk Q k + sz4 Q k
theorem szk_mono (Q : List (List Int)) (i k : Nat) (h : i ≤ k) : szk Q i ≤ szk Q k := by
  induction k with
  | zero => obtain rfl : i = 0 := by omega
            exact Nat.le_refl _
  | succ k ih =>
    by_cases e : i = k + 1
    · subst e; exact Nat.le_refl _
    · have := ih (by omega)
      have e2 : szk Q (k + 1) = szk Q k + sz4 Q k := rfl
      omega
theorem szk_up (Q : List (List Int)) (i k : Nat) (h : i < k) : sz4 Q i ≤ szk Q k := by
  have := szk_mono Q (i + 1) k (by omega)
  have e2 : szk Q (i + 1) = szk Q i + sz4 Q i := rfl
  omega
def AllB (Q : List (List Int)) (m : Nat) : Prop := ∀ k, (qn Q k).length ≤ m
set_option maxRecDepth 100000 in
set_option maxHeartbeats 4000000 in
theorem szRules_any (m0 : Int) (hm0 : 0 ≤ m0 ∧ m0 ≤ 1048576) (v : Value) (n : Nat) (Q : List (List Int)) (w : World) (hv : RuI w v n Q) (hn : n ≤ 9223372036854775807) (hsz : AllB Q 9223372036854775807) :
    Calls Tryz.prog 14 #[v, .int .i64 m0] w fun e w' => e = .returned (.int .i64 (lf m0 (n + szk Q n))) ∧ Below w.heap.size w w' := by
  obtain ⟨a, cap, rfl, hf⟩ := hv.form
  have HV := hide hf
  have HZ := hide hsz
  clear hv hsz hf
  by_cases h0 : (m0 : Int) - (n : Int) < 0
  · have HE := hide (lf_neg (m := m0) (s := n + szk Q n) (by omega))
    generalize lf m0 (n + szk Q n) = R at *
    go_enter Tryz.func14, Tryz.ntmps14
    go_wp2
    go_ret
    exact ⟨by rw [unhide HE]; rfl, Below.refl _ _⟩
  · have HN := hide (fun h => lf_neg (m := m0) (s := n + szk Q n) h)
    have HP := hide (fun h => lf_pos (m := m0) (s := n + szk Q n) h)
    have HM := hide (fun i h => szk_mono Q i n h)
    have HU := hide (fun k => (show szk Q (k + 1) = szk Q k + sz4 Q k from rfl))
    generalize lf m0 (n + szk Q n) = R at *
    go_enter Tryz.func14, Tryz.ntmps14
    go_wp2
    go_loopw [1, 5] (fun lv iv wr => ∃ k : Nat, k ≤ n ∧ iv = .int .i64 k ∧ lv = .int .i64 (m0 - (n : Int) - (szk Q k : Int)) ∧ (szk Q k : Int) ≤ m0 - (n : Int) ∧ Hid (Below w.heap.size w wr)) (fun _ iv _ => n - (intOf iv).toNat)
    case atStart => exact ⟨0, Nat.zero_le _, rfl, by simp [szk], by simp [szk]; omega, hide (Below.refl _ _)⟩
    case round =>
      obtain ⟨k, hk, rfl, rfl, hle, HB⟩ := hrel
      by_cases hlt : k < n
      · have hlt' : (k : Int) < (n : Int) := by omega
        obtain ⟨b, off, rfl, hbs, u0, u1, u2, u3, ⟨x0, x1, x2, x3⟩, i0, i1, i2, i3⟩ := (unhide HV) k hlt
        have d0 := ((unhide HB).cell (p := ⟨b, off + k * 4, none⟩) hbs).trans x0
        have d1 := ((unhide HB).cell (p := ⟨b, off + k * 4 + 1, none⟩) hbs).trans x1
        have d2 := ((unhide HB).cell (p := ⟨b, off + k * 4 + 2, none⟩) hbs).trans x2
        have d3 := ((unhide HB).cell (p := ⟨b, off + k * 4 + 3, none⟩) hbs).trans x3
        obtain ⟨a0, c0, rfl⟩ := ints_form i0
        obtain ⟨a1, c1, rfl⟩ := ints_form i1
        obtain ⟨a2, c2, rfl⟩ := ints_form i2
        obtain ⟨a3, c3, rfl⟩ := ints_form i3
        have C := hide (fun W => szRule_any a0 a1 a2 a3 (qn Q (k * 4)).length (qn Q (k * 4 + 1)).length (qn Q (k * 4 + 2)).length (qn Q (k * 4 + 3)).length c0 c1 c2 c3 (m0 - (n : Int) - (szk Q k : Int)) W (by omega) ((unhide HZ) _) ((unhide HZ) _) ((unhide HZ) _) ((unhide HZ) _))
        have hs := (unhide HU) k
        unfold sz4 at hs
        have hm := (unhide HM) (k + 1) (by omega)
        have hBs := (unhide HB).size
        clear x0 x1 x2 x3 i0 i1 i2 i3
        generalize (qn Q (k * 4)).length = l0 at *
        generalize (qn Q (k * 4 + 1)).length = l1 at *
        generalize (qn Q (k * 4 + 2)).length = l2 at *
        generalize (qn Q (k * 4 + 3)).length = l3 at *
        by_cases hq : m0 - (n : Int) - (szk Q k : Int) - ((l0 + l1 + l2 + l3 : Nat) : Int) < 0
        · rw [lf_neg hq] at C
          have HE2 : Hid (R = -1) := hide ((unhide HN) (by omega))
          go_wp2_with (go_at_call 38; refine ((unhide C) _).mono ?_; rintro e w1 ⟨rfl, hb1⟩; have B1 := hide ((unhide HB).trans (hb1.mono hBs)); clear hb1)
          go_ret
          exact ⟨by rw [unhide HE2]; rfl, unhide B1⟩
        · rw [lf_pos hq] at C
          have es : (m0 : Int) - (n : Int) - (szk Q k : Int) - ((l0 + l1 + l2 + l3 : Nat) : Int) = m0 - (n : Int) - (szk Q (k + 1) : Int) := by omega
          rw [es] at C hq
          have hle2 : (szk Q (k + 1) : Int) ≤ m0 - (n : Int) := by omega
          clear es hs hm
          go_wp2_with (go_at_call 38; refine ((unhide C) _).mono ?_; rintro e w1 ⟨rfl, hb1⟩; have B1 := hide ((unhide HB).trans (hb1.mono hBs)); clear hb1)
          go_roundw
          case rel => exact ⟨k + 1, by omega, by go_num, rfl, hle2, B1⟩
          case measure => simp [intOf]; omega
      · obtain rfl : k = n := by omega
        have HE2 : Hid (R = m0 - (k : Int) - (szk Q k : Int)) := hide (by rw [(unhide HP) (by omega)]; omega)
        go_wp2
        go_ret
        exact ⟨by rw [unhide HE2]; rfl, unhide HB⟩
theorem fits_all {n : Nat} {Q : List (List Int)} (hl : Q.length = n * 4) (h : ¬ lf 1048576 (n + szk Q n) < 0) : n ≤ 1048576 ∧ AllB Q 1048576 ∧ ((n + szk Q n : Nat) : Int) ≤ 1048576 := by
  by_cases c : (1048576 : Int) - ((n + szk Q n : Nat) : Int) < 0
  · rw [lf_neg c] at h; omega
  · refine ⟨by omega, fun k => ?_, by omega⟩
    by_cases hk : k < n * 4
    · have h1 := szk_up Q (k / 4) n (by omega)
      unfold sz4 at h1
      have h2 : k = k / 4 * 4 ∨ k = k / 4 * 4 + 1 ∨ k = k / 4 * 4 + 2 ∨ k = k / 4 * 4 + 3 := by omega
      rcases h2 with e | e | e | e <;> rw [e] <;> omega
    · have : qn Q k = [] := by unfold qn; rw [List.getD_eq_getElem?_getD, List.getElem?_eq_none (by omega)]; rfl
      rw [this]; simp
end Go.Proofs.YtfldomifooihlaaGreatDoor.Frl
/- A copy of a rule, and of a row of rules. -/
namespace Go.Proofs.YtfldomifooihlaaGreatDoor.Frl
open Go.RowKit
set_option linter.unusedVariables false
/-- A row of numbers of one's own, in the block q. -/
def Ow (w : World) (B q : Nat) (L : List Int) : Prop := w.ownsRow B 2 1 (.slice (some ⟨q, 0, none⟩) L.length L.length) L.length (L.map (Value.int .i64))
theorem own_at {w w' : World} {B : Nat} {e : TypeId} {s : Nat} {v : Value} {n : Nat} {xs : List Value} (h : w.ownsRow B e s v n xs) (hs : ∀ k, v.ownBlock = some k → w'.heap[k]? = w.heap[k]?) : w'.ownsRow B e s v n xs := by
  refine ⟨h.1, ?_⟩
  rcases h.2 with h' | ⟨g, cap, cur, hv, hg, hh, r⟩
  · exact .inl h'
  · exact .inr ⟨g, cap, cur, hv, hg, (hs g (by rw [hv]; rfl)).trans hh, r⟩
theorem Ow.at {w w' : World} {B q : Nat} {L : List Int} (h : Ow w B q L) (hs : w'.heap[q]? = w.heap[q]?) : Ow w' B q L := own_at h (fun k hk => by cases hk; exact hs)
theorem Ow.below {w w' : World} {B q : Nat} {L : List Int} (h : Ow w B q L) (hb : Below w.heap.size w w') : Ow w' B q L := ownsRow_below h hb
theorem Ow.put {w : World} {B q g j : Nat} {L : List Int} {x : Value} (h : Ow w B q L) (hg : q ≠ g) : Ow (w.setCell ⟨g, j, none⟩ x) B q L := h.at (heap_setCell_other w ⟨g, j, none⟩ q x hg)
theorem Ow.lt {w : World} {B q : Nat} {L : List Int} (h : Ow w B q L) : B ≤ q ∧ q < w.heap.size := World.ownsRow.lt h q rfl
theorem Ow.down {w : World} {B B2 q : Nat} {L : List Int} (h : Ow w B2 q L) (hb : B ≤ B2) : Ow w B q L := by
  refine ⟨h.1, ?_⟩
  rcases h.2 with h' | ⟨g, cap, cur, hv, hg, r⟩
  · exact .inl h'
  · exact .inr ⟨g, cap, cur, hv, by omega, r⟩
theorem Ow.ints {w : World} {B q : Nat} {L : List Int} (h : Ow w B q L) : IntsAt w (.slice (some ⟨q, 0, none⟩) L.length L.length) L := IntsAt.owned h
theorem heap_new (w : World) (o : Obj) : (w.alloc o).heap[w.heap.size]? = some o := by unfold World.alloc; exact Array.getElem?_push_size
theorem four_cells {w : World} {g : Nat} {a b c d : Value} {T : TypeId} (h : w.heap[g]? = some (.cells #[a, b, c, d] T (0, 0))) : (w.cell? ⟨g, 0, none⟩ = some a ∧ w.cell? ⟨g, 1, none⟩ = some b ∧ w.cell? ⟨g, 2, none⟩ = some c ∧ w.cell? ⟨g, 3, none⟩ = some d) ∧ ∀ i, w.frozen? ⟨g, i, none⟩ = false := by
  simp [World.cell?, World.frozen?, h]
set_option maxRecDepth 100000 in
set_option maxHeartbeats 8000000 in
theorem toRule_any (u0 u1 u2 u3 : Value) (L0 L1 L2 L3 : List Int) (w : World) (h0 : IntsAt w u0 L0) (h1 : IntsAt w u1 L1) (h2 : IntsAt w u2 L2) (h3 : IntsAt w u3 L3) (l0 : L0.length ≤ 1048576) (l1 : L1.length ≤ 1048576) (l2 : L2.length ≤ 1048576) (l3 : L3.length ≤ 1048576) :
    Calls Tryz.prog 48 #[.agg #[u0, u1, u2, u3]] w fun e w' => ∃ q0 q1 q2 q3 : Nat, e = .returned (.agg #[.slice (some ⟨q0, 0, none⟩) L0.length L0.length, .slice (some ⟨q1, 0, none⟩) L1.length L1.length, .slice (some ⟨q2, 0, none⟩) L2.length L2.length, .slice (some ⟨q3, 0, none⟩) L3.length L3.length]) ∧ (w.heap.size < q0 ∧ q0 < q1 ∧ q1 < q2 ∧ q2 < q3) ∧ Ow w' w.heap.size q0 L0 ∧ Ow w' w.heap.size q1 L1 ∧ Ow w' w.heap.size q2 L2 ∧ Ow w' w.heap.size q3 L3 ∧ Below w.heap.size w w' := by
  have C0 := hide (fun W h => toInts u0 L0 W h l0)
  have H0 := hide h0
  have C1 := hide (fun W h => toInts u1 L1 W h l1)
  have H1 := hide h1
  have C2 := hide (fun W h => toInts u2 L2 W h l2)
  have H2 := hide h2
  have C3 := hide (fun W h => toInts u3 L3 W h l3)
  have H3 := hide h3
  clear h0 h1 h2 h3 l0 l1 l2 l3
  go_enter Tryz.func48, Tryz.ntmps48
  go_wp2_with fail
  have hb3 : Below w.heap.size w (((w.alloc (.cells #[u0, u1, u2, u3] 71)).alloc (.cells #[.slice none 0 0, .slice none 0 0, .slice none 0 0, .slice none 0 0] 77)).alloc (.cells #[.slice none 0 0, .slice none 0 0, .slice none 0 0, .slice none 0 0] 77)) := ((((Below.refl _ _).alloc (Nat.le_refl _) _).alloc (by simp) _).alloc (by simp; omega) _)
  have hz3 : w.heap.size + 3 ≤ (((w.alloc (.cells #[u0, u1, u2, u3] 71)).alloc (.cells #[.slice none 0 0, .slice none 0 0, .slice none 0 0, .slice none 0 0] 77)).alloc (.cells #[.slice none 0 0, .slice none 0 0, .slice none 0 0, .slice none 0 0] 77)).heap.size := by simp
  have k0 : (((w.alloc (.cells #[u0, u1, u2, u3] 71)).alloc (.cells #[.slice none 0 0, .slice none 0 0, .slice none 0 0, .slice none 0 0] 77)).alloc (.cells #[.slice none 0 0, .slice none 0 0, .slice none 0 0, .slice none 0 0] 77)).heap[w.heap.size]? = some (.cells #[u0, u1, u2, u3] 71 (0, 0)) := by
    rw [Below.heap_alloc _ _ _ (by simp; omega), Below.heap_alloc _ _ _ (by simp)]
    exact heap_new w _
  have k1 : (((w.alloc (.cells #[u0, u1, u2, u3] 71)).alloc (.cells #[.slice none 0 0, .slice none 0 0, .slice none 0 0, .slice none 0 0] 77)).alloc (.cells #[.slice none 0 0, .slice none 0 0, .slice none 0 0, .slice none 0 0] 77)).heap[w.heap.size + 1]? = some (.cells #[.slice none 0 0, .slice none 0 0, .slice none 0 0, .slice none 0 0] 77 (0, 0)) := by
    rw [Below.heap_alloc _ _ _ (by simp)]
    have := heap_new (w.alloc (.cells #[u0, u1, u2, u3] 71)) (.cells #[.slice none 0 0, .slice none 0 0, .slice none 0 0, .slice none 0 0] 77)
    simpa using this
  have k2 : (((w.alloc (.cells #[u0, u1, u2, u3] 71)).alloc (.cells #[.slice none 0 0, .slice none 0 0, .slice none 0 0, .slice none 0 0] 77)).alloc (.cells #[.slice none 0 0, .slice none 0 0, .slice none 0 0, .slice none 0 0] 77)).heap[w.heap.size + 1 + 1]? = some (.cells #[.slice none 0 0, .slice none 0 0, .slice none 0 0, .slice none 0 0] 77 (0, 0)) := by
    have := heap_new ((w.alloc (.cells #[u0, u1, u2, u3] 71)).alloc (.cells #[.slice none 0 0, .slice none 0 0, .slice none 0 0, .slice none 0 0] 77)) (.cells #[.slice none 0 0, .slice none 0 0, .slice none 0 0, .slice none 0 0] 77)
    simpa using this
  have B3 := hide hb3
  generalize (((w.alloc (.cells #[u0, u1, u2, u3] 71)).alloc (.cells #[.slice none 0 0, .slice none 0 0, .slice none 0 0, .slice none 0 0] 77)).alloc (.cells #[.slice none 0 0, .slice none 0 0, .slice none 0 0, .slice none 0 0] 77)) = wa at *
  clear hb3
  refine ((unhide C0) _ ((unhide H0).below (unhide B3))).mono ?_
  rintro e wb0 ⟨rfl, ho0, hb, hlt⟩
  have k0' := (hb.block w.heap.size (by omega)).trans k0
  have k1' := (hb.block (w.heap.size + 1) (by omega)).trans k1
  have k2' := (hb.block (w.heap.size + 1 + 1) (by omega)).trans k2
  obtain ⟨q0, hq0⟩ : ∃ q, q = wa.heap.size := ⟨_, rfl⟩
  rw [← hq0] at ho0 hlt ⊢
  have hp0 : wa.heap.size ≤ q0 := by omega
  have R0' := hide (Ow.down (B := w.heap.size) ho0 (by omega))
  clear hq0
  have B3' := hide ((unhide B3).trans (hb.mono (unhide B3).size))
  have hz40 : q0 < wb0.heap.size := by omega
  obtain ⟨⟨a0, a1, a2, a3⟩, a4⟩ := four_cells k0'
  obtain ⟨⟨b0, b1, b2, b3⟩, b4⟩ := four_cells k2'
  have b5 := b4 0
  clear a4 b4
  have m0 := (heap_setCell_other wb0 ⟨w.heap.size + 1 + 1, 0, none⟩ w.heap.size (.slice (some ⟨q0, 0, none⟩) L0.length L0.length) (by show w.heap.size ≠ w.heap.size + 1 + 1; omega)).trans k0'
  have m1 := (heap_setCell_other wb0 ⟨w.heap.size + 1 + 1, 0, none⟩ (w.heap.size + 1) (.slice (some ⟨q0, 0, none⟩) L0.length L0.length) (by simp)).trans k1'
  have m2 := heap_setCell_same wb0 (w.heap.size + 1 + 1) 0 _ 77 (.slice (some ⟨q0, 0, none⟩) L0.length L0.length) k2'
  have R0 := hide (Ow.put (g := w.heap.size + 1 + 1) (j := 0) (x := (.slice (some ⟨q0, 0, none⟩) L0.length L0.length)) (unhide R0') (by omega))
  have B4 := hide ((unhide B3').setCell (p := ⟨w.heap.size + 1 + 1, 0, none⟩) (by show w.heap.size ≤ w.heap.size + 1 + 1; omega) (.slice (some ⟨q0, 0, none⟩) L0.length L0.length))
  have hz50 : wb0.heap.size ≤ (wb0.setCell ⟨w.heap.size + 1 + 1, 0, none⟩ (.slice (some ⟨q0, 0, none⟩) L0.length L0.length)).heap.size := by simp
  obtain ⟨⟨d0, d1, d2, d3⟩, _⟩ := four_cells m0
  clear R0'
  clear k0 k1 k2 k0' k1' k2' hb B3 B3' hlt ho0 C0 H0
  go_wp2_with fail
  have k0 := m0
  have k1 := m1
  have k2 := m2
  have B3 := B4
  generalize wb0.setCell ⟨w.heap.size + 1 + 1, 0, none⟩ (.slice (some ⟨q0, 0, none⟩) L0.length L0.length) = wc0 at *
  clear m0 m1 m2 B4 a0 a1 a2 a3 b0 b1 b2 b3 b5 d0 d1 d2 d3
  refine ((unhide C1) _ ((unhide H1).below (unhide B3))).mono ?_
  rintro e wb1 ⟨rfl, ho1, hb, hlt⟩
  have k0' := (hb.block w.heap.size (by omega)).trans k0
  have k1' := (hb.block (w.heap.size + 1) (by omega)).trans k1
  have k2' := (hb.block (w.heap.size + 1 + 1) (by omega)).trans k2
  have R0' := hide ((unhide R0).below hb)
  clear R0
  obtain ⟨q1, hq1⟩ : ∃ q, q = wc0.heap.size := ⟨_, rfl⟩
  rw [← hq1] at ho1 hlt ⊢
  have hp1 : wc0.heap.size ≤ q1 := by omega
  have R1' := hide (Ow.down (B := w.heap.size) ho1 (by omega))
  clear hq1
  have B3' := hide ((unhide B3).trans (hb.mono (unhide B3).size))
  have hz41 : q1 < wb1.heap.size := by omega
  obtain ⟨⟨a0, a1, a2, a3⟩, a4⟩ := four_cells k0'
  obtain ⟨⟨b0, b1, b2, b3⟩, b4⟩ := four_cells k2'
  have b5 := b4 1
  clear a4 b4
  have m0 := (heap_setCell_other wb1 ⟨w.heap.size + 1 + 1, 1, none⟩ w.heap.size (.slice (some ⟨q1, 0, none⟩) L1.length L1.length) (by show w.heap.size ≠ w.heap.size + 1 + 1; omega)).trans k0'
  have m1 := (heap_setCell_other wb1 ⟨w.heap.size + 1 + 1, 1, none⟩ (w.heap.size + 1) (.slice (some ⟨q1, 0, none⟩) L1.length L1.length) (by simp)).trans k1'
  have m2 := heap_setCell_same wb1 (w.heap.size + 1 + 1) 1 _ 77 (.slice (some ⟨q1, 0, none⟩) L1.length L1.length) k2'
  have R0 := hide (Ow.put (g := w.heap.size + 1 + 1) (j := 1) (x := (.slice (some ⟨q1, 0, none⟩) L1.length L1.length)) (unhide R0') (by omega))
  have R1 := hide (Ow.put (g := w.heap.size + 1 + 1) (j := 1) (x := (.slice (some ⟨q1, 0, none⟩) L1.length L1.length)) (unhide R1') (by omega))
  have B4 := hide ((unhide B3').setCell (p := ⟨w.heap.size + 1 + 1, 1, none⟩) (by show w.heap.size ≤ w.heap.size + 1 + 1; omega) (.slice (some ⟨q1, 0, none⟩) L1.length L1.length))
  have hz51 : wb1.heap.size ≤ (wb1.setCell ⟨w.heap.size + 1 + 1, 1, none⟩ (.slice (some ⟨q1, 0, none⟩) L1.length L1.length)).heap.size := by simp
  obtain ⟨⟨d0, d1, d2, d3⟩, _⟩ := four_cells m0
  clear R0'
  clear R1'
  clear k0 k1 k2 k0' k1' k2' hb B3 B3' hlt ho1 C1 H1
  go_wp2_with fail
  have k0 := m0
  have k1 := m1
  have k2 := m2
  have B3 := B4
  generalize wb1.setCell ⟨w.heap.size + 1 + 1, 1, none⟩ (.slice (some ⟨q1, 0, none⟩) L1.length L1.length) = wc1 at *
  clear m0 m1 m2 B4 a0 a1 a2 a3 b0 b1 b2 b3 b5 d0 d1 d2 d3
  refine ((unhide C2) _ ((unhide H2).below (unhide B3))).mono ?_
  rintro e wb2 ⟨rfl, ho2, hb, hlt⟩
  have k0' := (hb.block w.heap.size (by omega)).trans k0
  have k1' := (hb.block (w.heap.size + 1) (by omega)).trans k1
  have k2' := (hb.block (w.heap.size + 1 + 1) (by omega)).trans k2
  have R0' := hide ((unhide R0).below hb)
  clear R0
  have R1' := hide ((unhide R1).below hb)
  clear R1
  obtain ⟨q2, hq2⟩ : ∃ q, q = wc1.heap.size := ⟨_, rfl⟩
  rw [← hq2] at ho2 hlt ⊢
  have hp2 : wc1.heap.size ≤ q2 := by omega
  have R2' := hide (Ow.down (B := w.heap.size) ho2 (by omega))
  clear hq2
  have B3' := hide ((unhide B3).trans (hb.mono (unhide B3).size))
  have hz42 : q2 < wb2.heap.size := by omega
  obtain ⟨⟨a0, a1, a2, a3⟩, a4⟩ := four_cells k0'
  obtain ⟨⟨b0, b1, b2, b3⟩, b4⟩ := four_cells k2'
  have b5 := b4 2
  clear a4 b4
  have m0 := (heap_setCell_other wb2 ⟨w.heap.size + 1 + 1, 2, none⟩ w.heap.size (.slice (some ⟨q2, 0, none⟩) L2.length L2.length) (by show w.heap.size ≠ w.heap.size + 1 + 1; omega)).trans k0'
  have m1 := (heap_setCell_other wb2 ⟨w.heap.size + 1 + 1, 2, none⟩ (w.heap.size + 1) (.slice (some ⟨q2, 0, none⟩) L2.length L2.length) (by simp)).trans k1'
  have m2 := heap_setCell_same wb2 (w.heap.size + 1 + 1) 2 _ 77 (.slice (some ⟨q2, 0, none⟩) L2.length L2.length) k2'
  have R0 := hide (Ow.put (g := w.heap.size + 1 + 1) (j := 2) (x := (.slice (some ⟨q2, 0, none⟩) L2.length L2.length)) (unhide R0') (by omega))
  have R1 := hide (Ow.put (g := w.heap.size + 1 + 1) (j := 2) (x := (.slice (some ⟨q2, 0, none⟩) L2.length L2.length)) (unhide R1') (by omega))
  have R2 := hide (Ow.put (g := w.heap.size + 1 + 1) (j := 2) (x := (.slice (some ⟨q2, 0, none⟩) L2.length L2.length)) (unhide R2') (by omega))
  have B4 := hide ((unhide B3').setCell (p := ⟨w.heap.size + 1 + 1, 2, none⟩) (by show w.heap.size ≤ w.heap.size + 1 + 1; omega) (.slice (some ⟨q2, 0, none⟩) L2.length L2.length))
  have hz52 : wb2.heap.size ≤ (wb2.setCell ⟨w.heap.size + 1 + 1, 2, none⟩ (.slice (some ⟨q2, 0, none⟩) L2.length L2.length)).heap.size := by simp
  obtain ⟨⟨d0, d1, d2, d3⟩, _⟩ := four_cells m0
  clear R0'
  clear R1'
  clear R2'
  clear k0 k1 k2 k0' k1' k2' hb B3 B3' hlt ho2 C2 H2
  go_wp2_with fail
  have k0 := m0
  have k1 := m1
  have k2 := m2
  have B3 := B4
  generalize wb2.setCell ⟨w.heap.size + 1 + 1, 2, none⟩ (.slice (some ⟨q2, 0, none⟩) L2.length L2.length) = wc2 at *
  clear m0 m1 m2 B4 a0 a1 a2 a3 b0 b1 b2 b3 b5 d0 d1 d2 d3
  refine ((unhide C3) _ ((unhide H3).below (unhide B3))).mono ?_
  rintro e wb3 ⟨rfl, ho3, hb, hlt⟩
  have k0' := (hb.block w.heap.size (by omega)).trans k0
  have k1' := (hb.block (w.heap.size + 1) (by omega)).trans k1
  have k2' := (hb.block (w.heap.size + 1 + 1) (by omega)).trans k2
  have R0' := hide ((unhide R0).below hb)
  clear R0
  have R1' := hide ((unhide R1).below hb)
  clear R1
  have R2' := hide ((unhide R2).below hb)
  clear R2
  obtain ⟨q3, hq3⟩ : ∃ q, q = wc2.heap.size := ⟨_, rfl⟩
  rw [← hq3] at ho3 hlt ⊢
  have hp3 : wc2.heap.size ≤ q3 := by omega
  have R3' := hide (Ow.down (B := w.heap.size) ho3 (by omega))
  clear hq3
  have B3' := hide ((unhide B3).trans (hb.mono (unhide B3).size))
  have hz43 : q3 < wb3.heap.size := by omega
  obtain ⟨⟨a0, a1, a2, a3⟩, a4⟩ := four_cells k0'
  obtain ⟨⟨b0, b1, b2, b3⟩, b4⟩ := four_cells k2'
  have b5 := b4 3
  clear a4 b4
  have m0 := (heap_setCell_other wb3 ⟨w.heap.size + 1 + 1, 3, none⟩ w.heap.size (.slice (some ⟨q3, 0, none⟩) L3.length L3.length) (by show w.heap.size ≠ w.heap.size + 1 + 1; omega)).trans k0'
  have m1 := (heap_setCell_other wb3 ⟨w.heap.size + 1 + 1, 3, none⟩ (w.heap.size + 1) (.slice (some ⟨q3, 0, none⟩) L3.length L3.length) (by simp)).trans k1'
  have m2 := heap_setCell_same wb3 (w.heap.size + 1 + 1) 3 _ 77 (.slice (some ⟨q3, 0, none⟩) L3.length L3.length) k2'
  have R0 := hide (Ow.put (g := w.heap.size + 1 + 1) (j := 3) (x := (.slice (some ⟨q3, 0, none⟩) L3.length L3.length)) (unhide R0') (by omega))
  have R1 := hide (Ow.put (g := w.heap.size + 1 + 1) (j := 3) (x := (.slice (some ⟨q3, 0, none⟩) L3.length L3.length)) (unhide R1') (by omega))
  have R2 := hide (Ow.put (g := w.heap.size + 1 + 1) (j := 3) (x := (.slice (some ⟨q3, 0, none⟩) L3.length L3.length)) (unhide R2') (by omega))
  have R3 := hide (Ow.put (g := w.heap.size + 1 + 1) (j := 3) (x := (.slice (some ⟨q3, 0, none⟩) L3.length L3.length)) (unhide R3') (by omega))
  have B4 := hide ((unhide B3').setCell (p := ⟨w.heap.size + 1 + 1, 3, none⟩) (by show w.heap.size ≤ w.heap.size + 1 + 1; omega) (.slice (some ⟨q3, 0, none⟩) L3.length L3.length))
  have hz53 : wb3.heap.size ≤ (wb3.setCell ⟨w.heap.size + 1 + 1, 3, none⟩ (.slice (some ⟨q3, 0, none⟩) L3.length L3.length)).heap.size := by simp
  obtain ⟨⟨d0, d1, d2, d3⟩, _⟩ := four_cells m2
  obtain ⟨_, f4⟩ := four_cells m1
  clear R0'
  clear R1'
  clear R2'
  clear R3'
  clear k0 k1 k2 k0' k1' k2' hb B3 B3' hlt ho3 C3 H3
  have n0 := heap_setCell_same (wb3.setCell ⟨w.heap.size + 1 + 1, 3, none⟩ (.slice (some ⟨q3, 0, none⟩) L3.length L3.length)) (w.heap.size + 1) 0 _ 77 (.slice (some ⟨q0, 0, none⟩) L0.length L0.length) m1
  obtain ⟨⟨g00, g01, g02, g03⟩, g04⟩ := four_cells n0
  have S00 := hide (Ow.put (g := w.heap.size + 1) (j := 0) (x := (.slice (some ⟨q0, 0, none⟩) L0.length L0.length)) (unhide R0) (by omega))
  have S01 := hide (Ow.put (g := w.heap.size + 1) (j := 0) (x := (.slice (some ⟨q0, 0, none⟩) L0.length L0.length)) (unhide R1) (by omega))
  have S02 := hide (Ow.put (g := w.heap.size + 1) (j := 0) (x := (.slice (some ⟨q0, 0, none⟩) L0.length L0.length)) (unhide R2) (by omega))
  have S03 := hide (Ow.put (g := w.heap.size + 1) (j := 0) (x := (.slice (some ⟨q0, 0, none⟩) L0.length L0.length)) (unhide R3) (by omega))
  have D0 := hide ((unhide B4).setCell (p := ⟨w.heap.size + 1, 0, none⟩) (by simp) (.slice (some ⟨q0, 0, none⟩) L0.length L0.length))
  have n1 := heap_setCell_same ((wb3.setCell ⟨w.heap.size + 1 + 1, 3, none⟩ (.slice (some ⟨q3, 0, none⟩) L3.length L3.length)).setCell ⟨w.heap.size + 1, 0, none⟩ (.slice (some ⟨q0, 0, none⟩) L0.length L0.length)) (w.heap.size + 1) 1 _ 77 (.slice (some ⟨q1, 0, none⟩) L1.length L1.length) n0
  obtain ⟨⟨g10, g11, g12, g13⟩, g14⟩ := four_cells n1
  have S10 := hide (Ow.put (g := w.heap.size + 1) (j := 1) (x := (.slice (some ⟨q1, 0, none⟩) L1.length L1.length)) (unhide S00) (by omega))
  have S11 := hide (Ow.put (g := w.heap.size + 1) (j := 1) (x := (.slice (some ⟨q1, 0, none⟩) L1.length L1.length)) (unhide S01) (by omega))
  have S12 := hide (Ow.put (g := w.heap.size + 1) (j := 1) (x := (.slice (some ⟨q1, 0, none⟩) L1.length L1.length)) (unhide S02) (by omega))
  have S13 := hide (Ow.put (g := w.heap.size + 1) (j := 1) (x := (.slice (some ⟨q1, 0, none⟩) L1.length L1.length)) (unhide S03) (by omega))
  have D1 := hide ((unhide D0).setCell (p := ⟨w.heap.size + 1, 1, none⟩) (by simp) (.slice (some ⟨q1, 0, none⟩) L1.length L1.length))
  have n2 := heap_setCell_same (((wb3.setCell ⟨w.heap.size + 1 + 1, 3, none⟩ (.slice (some ⟨q3, 0, none⟩) L3.length L3.length)).setCell ⟨w.heap.size + 1, 0, none⟩ (.slice (some ⟨q0, 0, none⟩) L0.length L0.length)).setCell ⟨w.heap.size + 1, 1, none⟩ (.slice (some ⟨q1, 0, none⟩) L1.length L1.length)) (w.heap.size + 1) 2 _ 77 (.slice (some ⟨q2, 0, none⟩) L2.length L2.length) n1
  obtain ⟨⟨g20, g21, g22, g23⟩, g24⟩ := four_cells n2
  have S20 := hide (Ow.put (g := w.heap.size + 1) (j := 2) (x := (.slice (some ⟨q2, 0, none⟩) L2.length L2.length)) (unhide S10) (by omega))
  have S21 := hide (Ow.put (g := w.heap.size + 1) (j := 2) (x := (.slice (some ⟨q2, 0, none⟩) L2.length L2.length)) (unhide S11) (by omega))
  have S22 := hide (Ow.put (g := w.heap.size + 1) (j := 2) (x := (.slice (some ⟨q2, 0, none⟩) L2.length L2.length)) (unhide S12) (by omega))
  have S23 := hide (Ow.put (g := w.heap.size + 1) (j := 2) (x := (.slice (some ⟨q2, 0, none⟩) L2.length L2.length)) (unhide S13) (by omega))
  have D2 := hide ((unhide D1).setCell (p := ⟨w.heap.size + 1, 2, none⟩) (by simp) (.slice (some ⟨q2, 0, none⟩) L2.length L2.length))
  have n3 := heap_setCell_same ((((wb3.setCell ⟨w.heap.size + 1 + 1, 3, none⟩ (.slice (some ⟨q3, 0, none⟩) L3.length L3.length)).setCell ⟨w.heap.size + 1, 0, none⟩ (.slice (some ⟨q0, 0, none⟩) L0.length L0.length)).setCell ⟨w.heap.size + 1, 1, none⟩ (.slice (some ⟨q1, 0, none⟩) L1.length L1.length)).setCell ⟨w.heap.size + 1, 2, none⟩ (.slice (some ⟨q2, 0, none⟩) L2.length L2.length)) (w.heap.size + 1) 3 _ 77 (.slice (some ⟨q3, 0, none⟩) L3.length L3.length) n2
  obtain ⟨⟨g30, g31, g32, g33⟩, g34⟩ := four_cells n3
  have S30 := hide (Ow.put (g := w.heap.size + 1) (j := 3) (x := (.slice (some ⟨q3, 0, none⟩) L3.length L3.length)) (unhide S20) (by omega))
  have S31 := hide (Ow.put (g := w.heap.size + 1) (j := 3) (x := (.slice (some ⟨q3, 0, none⟩) L3.length L3.length)) (unhide S21) (by omega))
  have S32 := hide (Ow.put (g := w.heap.size + 1) (j := 3) (x := (.slice (some ⟨q3, 0, none⟩) L3.length L3.length)) (unhide S22) (by omega))
  have S33 := hide (Ow.put (g := w.heap.size + 1) (j := 3) (x := (.slice (some ⟨q3, 0, none⟩) L3.length L3.length)) (unhide S23) (by omega))
  have D3 := hide ((unhide D2).setCell (p := ⟨w.heap.size + 1, 3, none⟩) (by simp) (.slice (some ⟨q3, 0, none⟩) L3.length L3.length))
  have f40 := f4 0
  have y0 := g04 1
  have y1 := g14 2
  have y2 := g24 3
  clear n0 n1 n2 n3 m0 m1 m2 f4 g04 g14 g24 g34
  clear R0 R1 R2 R3 S00 S01 S02 S03 S10 S11 S12 S13 S20 S21 S22 S23 D0 D1 D2 B4
  go_wp2
  refine bodyPost_ret (v := .agg #[(.slice (some ⟨q0, 0, none⟩) L0.length L0.length), (.slice (some ⟨q1, 0, none⟩) L1.length L1.length), (.slice (some ⟨q2, 0, none⟩) L2.length L2.length), (.slice (some ⟨q3, 0, none⟩) L3.length L3.length)]) (by simp [results, Tryz.results48, go_sem, g30, g31, g32, g33]; try rfl) rfl ?_
  exact ⟨_, _, _, _, rfl, ⟨by omega, by omega, by omega, by omega⟩, unhide S30, unhide S31, unhide S32, unhide S33, unhide D3⟩
theorem infoRu : (Tryz.prog.info? 77).map (fun i => (i.zero, i.size, i.bytes)) = some (some (.agg #[.slice none 0 0, .slice none 0 0, .slice none 0 0, .slice none 0 0]), 4, 96) := by kernel_rfl
/-- Rows of rules in the block b, which lie in blocks of their own, rising. -/
structure RuC (w : World) (b : Nat) (Q : List (List Int)) (blk : Nat → Nat) (m : Nat) : Prop where
  cell : ∀ k, k < m → w.cell? ⟨b, k, none⟩ = some (.slice (some ⟨blk k, 0, none⟩) (qn Q k).length (qn Q k).length)
  row : ∀ k, k < m → Ow w (b + 1) (blk k) (qn Q k)
  mono : ∀ j k, j < k → k < m → blk j < blk k
  here : b < w.heap.size
theorem RuC.below {w w' : World} {b m : Nat} {Q : List (List Int)} {blk : Nat → Nat} (h : RuC w b Q blk m) (hb : Below w.heap.size w w') : RuC w' b Q blk m :=
  ⟨fun k hk => (hb.cell (p := ⟨b, k, none⟩) h.here).trans (h.cell k hk), fun k hk => (h.row k hk).below hb, h.mono, Nat.lt_of_lt_of_le h.here hb.size⟩
theorem RuC.ints {w : World} {b n : Nat} {Q : List (List Int)} {blk : Nat → Nat} (h : RuC w b Q blk (n * 4)) (hQ : Q.length = n * 4) (c : Nat) : RuI w (.slice (some ⟨b, 0, none⟩) n c) n Q :=
  ⟨hQ, _, _, rfl, .inr ⟨b, 0, rfl, h.here, fun k hk => ⟨_, by rw [Nat.zero_add]; exact h.cell k hk, (h.row k hk).ints⟩⟩⟩
/-- The state of the copy when k rules are done. -/
def CSt (w0 w : World) (n : Nat) (Q : List (List Int)) (k m : Nat) : Prop :=
  ∃ (xs : List Value) (blk : Nat → Nat), w.ownsRow w0.heap.size 77 4 (.slice (some ⟨w0.heap.size, 0, none⟩) n n) n xs ∧ (∀ j, j < k * 4 → xs[j]? = some (.slice (some ⟨blk j, 0, none⟩) (qn Q j).length (qn Q j).length)) ∧ (∀ j, j < k * 4 → Ow w (w0.heap.size + 1) (blk j) (qn Q j)) ∧ (∀ i j, i < j → j < k * 4 → blk i < blk j) ∧ (∀ j, j < k * 4 → blk j < m) ∧ Below w0.heap.size w0 w
theorem row4_at {w : World} {B g n c : Nat} {xs : List Value} (h : w.ownsRow B 77 4 (.slice (some ⟨g, 0, none⟩) n c) n xs) (j : Nat) (hj : j < n * 4) : ∃ x, w.cell? ⟨g, j, none⟩ = some x ∧ w.frozen? ⟨g, j, none⟩ = false := by
  have hn : xs.length = n * 4 := h.1
  have := h.cellAt j hj
  rw [List.getElem?_eq_getElem (by omega)] at this
  exact ⟨_, this, h.frozenAt j⟩
theorem CSt.below {w0 w w' : World} {n : Nat} {Q : List (List Int)} {k m : Nat} (h : CSt w0 w n Q k m) (hb : Below w.heap.size w w') : CSt w0 w' n Q k m := by
  obtain ⟨xs, blk, h1, h2, h3, h4, h5, h6⟩ := h
  exact ⟨xs, blk, ownsRow_below h1 hb, h2, fun j hj => (h3 j hj).below hb, h4, h5, h6.trans (hb.mono h6.size)⟩
def pick4 (blk : Nat → Nat) (m q0 q1 q2 q3 : Nat) (j : Nat) : Nat := if j < m then blk j else if j = m then q0 else if j = m + 1 then q1 else if j = m + 2 then q2 else q3
theorem pick4_lo {blk : Nat → Nat} {m q0 q1 q2 q3 j : Nat} (h : j < m) : pick4 blk m q0 q1 q2 q3 j = blk j := if_pos h
theorem pick4_0 {blk : Nat → Nat} {m q0 q1 q2 q3 : Nat} : pick4 blk m q0 q1 q2 q3 m = q0 := by unfold pick4; rw [if_neg (by omega), if_pos rfl]
theorem pick4_1 {blk : Nat → Nat} {m q0 q1 q2 q3 : Nat} : pick4 blk m q0 q1 q2 q3 (m + 1) = q1 := by unfold pick4; rw [if_neg (by omega), if_neg (by omega), if_pos rfl]
theorem pick4_2 {blk : Nat → Nat} {m q0 q1 q2 q3 : Nat} : pick4 blk m q0 q1 q2 q3 (m + 2) = q2 := by unfold pick4; rw [if_neg (by omega), if_neg (by omega), if_neg (by omega), if_pos rfl]
theorem pick4_3 {blk : Nat → Nat} {m q0 q1 q2 q3 : Nat} : pick4 blk m q0 q1 q2 q3 (m + 3) = q3 := by unfold pick4; rw [if_neg (by omega), if_neg (by omega), if_neg (by omega), if_neg (by omega)]
theorem five_ways {m j : Nat} (h : j < m + 4) : j < m ∨ j = m ∨ j = m + 1 ∨ j = m + 2 ∨ j = m + 3 := by omega
theorem Ow.put4 {w : World} {B q g i0 i1 i2 i3 : Nat} {L : List Int} {x0 x1 x2 x3 : Value} (h : Ow w B q L) (hg : q ≠ g) : Ow ((((w.setCell ⟨g, i0, none⟩ x0).setCell ⟨g, i1, none⟩ x1).setCell ⟨g, i2, none⟩ x2).setCell ⟨g, i3, none⟩ x3) B q L :=
  (((h.put hg).put hg).put hg).put hg
theorem CSt.put {w0 w : World} {n : Nat} {Q : List (List Int)} {k m q0 q1 q2 q3 : Nat} (h : CSt w0 w n Q k m) (hk : k < n) (hm : m ≤ q0) (h01 : q0 < q1) (h12 : q1 < q2) (h23 : q2 < q3)
    (r0 : Ow w (w0.heap.size + 1) q0 (qn Q (k * 4))) (r1 : Ow w (w0.heap.size + 1) q1 (qn Q (k * 4 + 1))) (r2 : Ow w (w0.heap.size + 1) q2 (qn Q (k * 4 + 2))) (r3 : Ow w (w0.heap.size + 1) q3 (qn Q (k * 4 + 3))) :
    CSt w0 ((((w.setCell ⟨w0.heap.size, k * 4, none⟩ (.slice (some ⟨q0, 0, none⟩) (qn Q (k * 4)).length (qn Q (k * 4)).length)).setCell ⟨w0.heap.size, k * 4 + 1, none⟩ (.slice (some ⟨q1, 0, none⟩) (qn Q (k * 4 + 1)).length (qn Q (k * 4 + 1)).length)).setCell ⟨w0.heap.size, k * 4 + 2, none⟩ (.slice (some ⟨q2, 0, none⟩) (qn Q (k * 4 + 2)).length (qn Q (k * 4 + 2)).length)).setCell ⟨w0.heap.size, k * 4 + 3, none⟩ (.slice (some ⟨q3, 0, none⟩) (qn Q (k * 4 + 3)).length (qn Q (k * 4 + 3)).length)) n Q (k + 1) (q3 + 1) := by
  obtain ⟨xs, blk, h1, h2, h3, h4, h5, h6⟩ := h
  have hx : xs.length = n * 4 := h1.1
  have g0 := r0.lt
  have g1 := r1.lt
  have g2 := r2.lt
  have g3 := r3.lt
  have gb : ∀ j, j < k * 4 → w0.heap.size + 1 ≤ blk j := fun j hj => (h3 j hj).lt.1
  refine ⟨_, pick4 blk (k * 4) q0 q1 q2 q3, (((((h1.stored (k * 4) _).1.stored (k * 4 + 1) _).1.stored (k * 4 + 2) _).1.stored (k * 4 + 3) _).1), fun j hj => ?_, fun j hj => ?_, fun i j hij hj => ?_, fun j hj => ?_, ?_⟩
  · rcases five_ways (m := k * 4) (j := j) (by omega) with e | e | e | e | e
    · rw [pick4_lo e, List.getElem?_set_ne (by omega), List.getElem?_set_ne (by omega), List.getElem?_set_ne (by omega), List.getElem?_set_ne (by omega)]
      exact h2 j e
    · subst e
      rw [pick4_0, List.getElem?_set_ne (by omega), List.getElem?_set_ne (by omega), List.getElem?_set_ne (by omega), List.getElem?_set_self (by omega)]
    · subst e
      rw [pick4_1, List.getElem?_set_ne (by omega), List.getElem?_set_ne (by omega), List.getElem?_set_self (by simp; omega)]
    · subst e
      rw [pick4_2, List.getElem?_set_ne (by omega), List.getElem?_set_self (by simp; omega)]
    · subst e
      rw [pick4_3, List.getElem?_set_self (by simp; omega)]
  · rcases five_ways (m := k * 4) (j := j) (by omega) with e | e | e | e | e
    · rw [pick4_lo e]; exact (h3 j e).put4 (by have := gb j e; omega)
    · subst e; rw [pick4_0]; exact r0.put4 (by omega)
    · subst e; rw [pick4_1]; exact r1.put4 (by omega)
    · subst e; rw [pick4_2]; exact r2.put4 (by omega)
    · subst e; rw [pick4_3]; exact r3.put4 (by omega)
  · rcases five_ways (m := k * 4) (j := j) (by omega) with e | e | e | e | e
    · rw [pick4_lo e, pick4_lo (by omega)]; exact h4 i j hij e
    · subst e; rw [pick4_0, pick4_lo hij]; have := h5 i hij; omega
    · subst e
      rcases five_ways (m := k * 4) (j := i) (by omega) with e | e | e | e | e
      · rw [pick4_1, pick4_lo e]; have := h5 i e; omega
      · subst e; rw [pick4_1, pick4_0]; omega
      · omega
      · omega
      · omega
    · subst e
      rcases five_ways (m := k * 4) (j := i) (by omega) with e | e | e | e | e
      · rw [pick4_2, pick4_lo e]; have := h5 i e; omega
      · subst e; rw [pick4_2, pick4_0]; omega
      · subst e; rw [pick4_2, pick4_1]; omega
      · omega
      · omega
    · subst e
      rcases five_ways (m := k * 4) (j := i) (by omega) with e | e | e | e | e
      · rw [pick4_3, pick4_lo e]; have := h5 i e; omega
      · subst e; rw [pick4_3, pick4_0]; omega
      · subst e; rw [pick4_3, pick4_1]; omega
      · subst e; rw [pick4_3, pick4_2]; omega
      · omega
  · rcases five_ways (m := k * 4) (j := j) (by omega) with e | e | e | e | e
    · rw [pick4_lo e]; have := h5 j e; omega
    · subst e; rw [pick4_0]; omega
    · subst e; rw [pick4_1]; omega
    · subst e; rw [pick4_2]; omega
    · subst e; rw [pick4_3]; omega
  · exact (((h6.setCell (p := ⟨w0.heap.size, k * 4, none⟩) (Nat.le_refl _) _).setCell (p := ⟨w0.heap.size, k * 4 + 1, none⟩) (Nat.le_refl _) _).setCell (p := ⟨w0.heap.size, k * 4 + 2, none⟩) (Nat.le_refl _) _).setCell (p := ⟨w0.heap.size, k * 4 + 3, none⟩) (Nat.le_refl _) _
theorem CSt.all {w0 w : World} {n : Nat} {Q : List (List Int)} {m : Nat} (h : CSt w0 w n Q n m) : ∃ blk, RuC w w0.heap.size Q blk (n * 4) := by
  obtain ⟨xs, blk, h1, h2, h3, h4, h5, h6⟩ := h
  exact ⟨blk, fun k hk => (h1.cellAt k hk).trans (h2 k hk), h3, h4, (h1.lt w0.heap.size rfl).2⟩
theorem made4 (n : Nat) (w : World) (g : Nat) (h : w.ownsRow g 77 4 (.slice (some ⟨g, 0, none⟩) n n) n (madeCells #[.slice none 0 0, .slice none 0 0, .slice none 0 0, .slice none 0 0] (n * 4)).toList) : ∃ xs, w.ownsRow g 77 4 (.slice (some ⟨g, 0, none⟩) n n) n xs := ⟨_, h⟩
set_option maxRecDepth 100000 in
set_option maxHeartbeats 8000000 in
theorem toRules_any (v : Value) (n : Nat) (Q : List (List Int)) (w : World) (hv : RuI w v n Q) (hl : n ≤ 1048576) (hs : AllB Q 1048576) :
    Calls Tryz.prog 23 #[v] w fun e w' => e = .returned (.slice (some ⟨w.heap.size, 0, none⟩) n n) ∧ (∃ blk, RuC w' w.heap.size Q blk (n * 4)) ∧ Below w.heap.size w w' := by
  obtain ⟨i0, hi, hz0, hz1, hz2⟩ := info_parts infoRu
  obtain ⟨a, cap, rfl, hf⟩ := hv.form
  have HV := hide hf
  have HS := hide hs
  clear hv hs hf
  go_enter Tryz.func23, Tryz.ntmps23
  go_wp2_with (at_make; refine wpList_make_full _ rfl _ _ 33 rfl w.heap.size 77 i0 (.agg #[.slice none 0 0, .slice none 0 0, .slice none 0 0, .slice none 0 0]) 4 Tryz.underlying33 hi hz0 hz1 .i64 .i64 _ _ n rfl rfl rfl rfl ?b2 ?b3 ?b4 ?_)
  case b2 => rw [hz2]; omega
  case b3 => unfold maxLen; omega
  case b4 => omega
  intro w1 hown hgrow
  have H1 : Hid (CSt w w1 n Q 0 0) := hide ⟨_, fun _ => 0, hown, fun j hj => by omega, fun j hj => by omega, fun i j _ hj => by omega, fun j hj => by omega, made_below hgrow⟩
  clear hown hgrow
  go_wp2
  go_loopw [4] (fun i wr => ∃ k m : Nat, k ≤ n ∧ m ≤ wr.heap.size ∧ i = .int .i64 k ∧ Hid (CSt w wr n Q k m)) (fun i _ => n - (intOf i).toNat)
  case atStart => exact ⟨0, 0, Nat.zero_le _, Nat.zero_le _, rfl, H1⟩
  case round =>
    obtain ⟨k, m, hk, hm, rfl, HO⟩ := hrel
    clear H1
    obtain ⟨_, _, hr3, _, _, _, _, hr4⟩ := unhide HO
    have hBs := hr4.size
    have hwl : w.heap.size < wr.heap.size := (hr3.lt w.heap.size rfl).2
    by_cases hlt : k < n
    · have hlt' : (k : Int) < (n : Int) := by omega
      obtain ⟨b, off, rfl, hbs, u0, u1, u2, u3, ⟨x0, x1, x2, x3⟩, i0, i1, i2, i3⟩ := (unhide HV) k hlt
      have d0 := (hr4.cell (p := ⟨b, off + k * 4, none⟩) hbs).trans x0
      have d1 := (hr4.cell (p := ⟨b, off + k * 4 + 1, none⟩) hbs).trans x1
      have d2 := (hr4.cell (p := ⟨b, off + k * 4 + 2, none⟩) hbs).trans x2
      have d3 := (hr4.cell (p := ⟨b, off + k * 4 + 3, none⟩) hbs).trans x3
      have CT := hide (toRule_any u0 u1 u2 u3 (qn Q (k * 4)) (qn Q (k * 4 + 1)) (qn Q (k * 4 + 2)) (qn Q (k * 4 + 3)) wr (i0.below hr4) (i1.below hr4) (i2.below hr4) (i3.below hr4) ((unhide HS) _) ((unhide HS) _) ((unhide HS) _) ((unhide HS) _))
      have HP := hide (fun W q0 q1 q2 q3 (h : CSt w W n Q k m) a b c d e f g i => h.put (q0 := q0) (q1 := q1) (q2 := q2) (q3 := q3) hlt a b c d e f g i)
      clear x0 x1 x2 x3 i0 i1 i2 i3 hr3
      generalize qn Q (k * 4) = L0 at *
      generalize qn Q (k * 4 + 1) = L1 at *
      generalize qn Q (k * 4 + 2) = L2 at *
      generalize qn Q (k * 4 + 3) = L3 at *
      go_wp2_with fail
      refine (unhide CT).mono ?_
      rintro e w2 ⟨q0, q1, q2, q3, rfl, ⟨e0, e1, e2, e3⟩, o0, o1, o2, o3, hb2⟩
      have S2 := (unhide HO).below hb2
      obtain ⟨_, _, hr5, _, _, _, _, hr6⟩ := S2
      have S3 := hide ((unhide HP) w2 q0 q1 q2 q3 ((unhide HO).below hb2) (by omega) e1 e2 e3 (o0.down (by omega)) (o1.down (by omega)) (o2.down (by omega)) (o3.down (by omega)))
      obtain ⟨y0, p0, f0⟩ := row4_at hr5 (k * 4) (by omega)
      have t1 := (hr5.stored (k * 4) (.slice (some ⟨q0, 0, none⟩) L0.length L0.length)).1
      obtain ⟨y1, p1, f1⟩ := row4_at t1 (k * 4 + 1) (by omega)
      have t2 := (t1.stored (k * 4 + 1) (.slice (some ⟨q1, 0, none⟩) L1.length L1.length)).1
      obtain ⟨y2, p2, f2⟩ := row4_at t2 (k * 4 + 2) (by omega)
      have t3 := (t2.stored (k * 4 + 2) (.slice (some ⟨q2, 0, none⟩) L2.length L2.length)).1
      obtain ⟨y3, p3, f3⟩ := row4_at t3 (k * 4 + 3) (by omega)
      obtain ⟨z1, p4, f4⟩ := row4_at hr5 (k * 4 + 1) (by omega)
      obtain ⟨z2, p5, f5⟩ := row4_at hr5 (k * 4 + 2) (by omega)
      obtain ⟨z3, p6, f6⟩ := row4_at hr5 (k * 4 + 3) (by omega)
      have hq3 := o3.lt.2
      clear HO HP CT hb2 o0 o1 o2 o3 hr5 hr6 t1 t2 t3 d0 d1 d2 d3
      go_wp2
      go_roundw
      case rel => exact ⟨k + 1, q3 + 1, by omega, by simp; omega, by go_num, S3⟩
      case measure => simp [intOf]; omega
    · obtain rfl : k = n := by omega
      have R := hide (unhide HO).all
      have B := hide hr4
      clear hr3 hr4
      go_wp2
      go_ret
      exact ⟨rfl, unhide R, unhide B⟩
end Go.Proofs.YtfldomifooihlaaGreatDoor.Frl
/- Rules that are alike; marks written into rows of rules. -/
namespace Go.Proofs.YtfldomifooihlaaGreatDoor.Frl
open Go.RowKit
set_option linter.unusedVariables false
set_option maxRecDepth 100000 in
set_option maxHeartbeats 4000000 in
theorem eqRule_any (u0 u1 u2 u3 v0 v1 v2 v3 : Value) (L0 L1 L2 L3 : List Int) (w : World) (h0 : IntsAt w u0 L0) (h1 : IntsAt w u1 L1) (h2 : IntsAt w u2 L2) (h3 : IntsAt w u3 L3) (g0 : IntsAt w v0 L0) (g1 : IntsAt w v1 L1) (g2 : IntsAt w v2 L2) (g3 : IntsAt w v3 L3)
    (l0 : L0.length ≤ 1048576) (l1 : L1.length ≤ 1048576) (l2 : L2.length ≤ 1048576) (l3 : L3.length ≤ 1048576) :
    Calls Tryz.prog 65 #[.agg #[u0, u1, u2, u3], .agg #[v0, v1, v2, v3]] w fun e w' => e = .returned (.bool true) ∧ Below w.heap.size w w' := by
  have C0 := hide (fun W a b => eqInts u0 v0 L0 W a b l0)
  have C1 := hide (fun W a b => eqInts u1 v1 L1 W a b l1)
  have C2 := hide (fun W a b => eqInts u2 v2 L2 W a b l2)
  have C3 := hide (fun W a b => eqInts u3 v3 L3 W a b l3)
  have H0 := hide h0
  have H1 := hide h1
  have H2 := hide h2
  have H3 := hide h3
  have G0 := hide g0
  have G1 := hide g1
  have G2 := hide g2
  have G3 := hide g3
  have B0 := hide (((Below.refl w.heap.size w).alloc (Nat.le_refl _) (.cells #[u0, u1, u2, u3] 77)).alloc (by simp) (.cells #[v0, v1, v2, v3] 77))
  have k0 : ((w.alloc (.cells #[u0, u1, u2, u3] 77)).alloc (.cells #[v0, v1, v2, v3] 77)).heap[w.heap.size]? = some (.cells #[u0, u1, u2, u3] 77 (0, 0)) := by
    rw [Below.heap_alloc _ _ _ (by simp)]
    exact heap_new w _
  have k1 : ((w.alloc (.cells #[u0, u1, u2, u3] 77)).alloc (.cells #[v0, v1, v2, v3] 77)).heap[w.heap.size + 1]? = some (.cells #[v0, v1, v2, v3] 77 (0, 0)) := by
    have := heap_new (w.alloc (.cells #[u0, u1, u2, u3] 77)) (.cells #[v0, v1, v2, v3] 77)
    simpa using this
  have hz : w.heap.size + 2 ≤ ((w.alloc (.cells #[u0, u1, u2, u3] 77)).alloc (.cells #[v0, v1, v2, v3] 77)).heap.size := by simp
  clear h0 h1 h2 h3 g0 g1 g2 g3 l0 l1 l2 l3
  go_enter Tryz.func65, Tryz.ntmps65
  go_wp2_with fail
  generalize (w.alloc (.cells #[u0, u1, u2, u3] 77)).alloc (.cells #[v0, v1, v2, v3] 77) = wa at *
  refine ((unhide C0) _ ((unhide H0).below (unhide B0)) ((unhide G0).below (unhide B0))).mono ?_
  rintro e wb ⟨rfl, hb⟩
  have k0' := (hb.block w.heap.size (by omega)).trans k0
  have k1' := (hb.block (w.heap.size + 1) (by omega)).trans k1
  have hz' : w.heap.size + 2 ≤ wb.heap.size := by have := hb.size; omega
  have B1 := hide ((unhide B0).trans (hb.mono (unhide B0).size))
  obtain ⟨⟨a0, a1, a2, a3⟩, _⟩ := four_cells k0'
  obtain ⟨⟨b0, b1, b2, b3⟩, _⟩ := four_cells k1'
  clear k0 k1 hz hb B0 C0 H0 G0
  go_wp2_with fail
  refine ((unhide C1) _ ((unhide H1).below (unhide B1)) ((unhide G1).below (unhide B1))).mono ?_
  rintro e wc ⟨rfl, hb⟩
  have k0 := (hb.block w.heap.size (by omega)).trans k0'
  have k1 := (hb.block (w.heap.size + 1) (by omega)).trans k1'
  have hz : w.heap.size + 2 ≤ wc.heap.size := by have := hb.size; omega
  have B2 := hide ((unhide B1).trans (hb.mono (unhide B1).size))
  clear a0 a1 a2 a3 b0 b1 b2 b3
  obtain ⟨⟨a0, a1, a2, a3⟩, _⟩ := four_cells k0
  obtain ⟨⟨b0, b1, b2, b3⟩, _⟩ := four_cells k1
  clear k0' k1' hz' hb B1 C1 H1 G1
  go_wp2_with fail
  refine ((unhide C2) _ ((unhide H2).below (unhide B2)) ((unhide G2).below (unhide B2))).mono ?_
  rintro e wd ⟨rfl, hb⟩
  have k0' := (hb.block w.heap.size (by omega)).trans k0
  have k1' := (hb.block (w.heap.size + 1) (by omega)).trans k1
  have B3 := hide ((unhide B2).trans (hb.mono (unhide B2).size))
  clear a0 a1 a2 a3 b0 b1 b2 b3
  obtain ⟨⟨a0, a1, a2, a3⟩, _⟩ := four_cells k0'
  obtain ⟨⟨b0, b1, b2, b3⟩, _⟩ := four_cells k1'
  clear k0 k1 hz hb B2 C2 H2 G2
  go_wp2_with fail
  refine ((unhide C3) _ ((unhide H3).below (unhide B3)) ((unhide G3).below (unhide B3))).mono ?_
  rintro e we ⟨rfl, hb⟩
  have B4 := hide ((unhide B3).trans (hb.mono (unhide B3).size))
  clear a0 a1 a2 a3 b0 b1 b2 b3 hb B3 C3 H3 G3
  go_wp2
  go_ret
  exact ⟨rfl, unhide B4⟩
theorem drew_bel (w : World) : Below w.heap.size w w.drew := ⟨rfl, rfl, rfl, Nat.le_refl _, fun _ _ => rfl⟩
set_option maxRecDepth 100000 in
set_option maxHeartbeats 8000000 in
theorem eqRules_any (v1 v2 : Value) (n : Nat) (Q : List (List Int)) (w : World) (h1 : RuI w v1 n Q) (h2 : RuI w v2 n Q) (hl : n ≤ 1048576) (hs : AllB Q 1048576) :
    Calls Tryz.prog 31 #[v1, v2] w fun e w' => e = .returned (.bool true) ∧ Below w.heap.size w w' := by
  obtain ⟨a1, c1, rfl, f1⟩ := h1.form
  obtain ⟨a2, c2, rfl, f2⟩ := h2.form
  have G1 := hide f1
  have G2 := hide f2
  have HS := hide hs
  clear f1 f2 hs h1 h2
  have hne : ((n : Int) != (n : Int)) = false := by simp
  go_enter Tryz.func31, Tryz.ntmps31
  go_wp2
  go_loopw [5] (fun i wr => ∃ k : Nat, k ≤ n ∧ i = .int .i64 k ∧ Hid (Below w.heap.size w wr)) (fun i _ => n - (intOf i).toNat)
  case atStart => exact ⟨0, Nat.zero_le _, rfl, hide (Below.refl _ _)⟩
  case round =>
    obtain ⟨k, hk, rfl, HB⟩ := hrel
    by_cases hlt : k < n
    · obtain ⟨b1, o1, rfl, hb1, u0, u1, u2, u3, ⟨x0, x1, x2, x3⟩, i0, i1, i2, i3⟩ := (unhide G1) k hlt
      obtain ⟨b2, o2, rfl, hb2, v0, v1, v2, v3, ⟨y0, y1, y2, y3⟩, j0, j1, j2, j3⟩ := (unhide G2) k hlt
      have d0 := ((unhide HB).cell (p := ⟨b1, o1 + k * 4, none⟩) hb1).trans x0
      have d1 := ((unhide HB).cell (p := ⟨b1, o1 + k * 4 + 1, none⟩) hb1).trans x1
      have d2 := ((unhide HB).cell (p := ⟨b1, o1 + k * 4 + 2, none⟩) hb1).trans x2
      have d3 := ((unhide HB).cell (p := ⟨b1, o1 + k * 4 + 3, none⟩) hb1).trans x3
      have e0 := ((unhide HB).cell (p := ⟨b2, o2 + k * 4, none⟩) hb2).trans y0
      have e1 := ((unhide HB).cell (p := ⟨b2, o2 + k * 4 + 1, none⟩) hb2).trans y1
      have e2 := ((unhide HB).cell (p := ⟨b2, o2 + k * 4 + 2, none⟩) hb2).trans y2
      have e3 := ((unhide HB).cell (p := ⟨b2, o2 + k * 4 + 3, none⟩) hb2).trans y3
      have bb := (unhide HB).trans ((drew_bel wr).mono (unhide HB).size)
      have CE := hide (eqRule_any u0 u1 u2 u3 v0 v1 v2 v3 (qn Q (k * 4)) (qn Q (k * 4 + 1)) (qn Q (k * 4 + 2)) (qn Q (k * 4 + 3)) wr.drew (i0.below bb) (i1.below bb) (i2.below bb) (i3.below bb) (j0.below bb) (j1.below bb) (j2.below bb) (j3.below bb) ((unhide HS) _) ((unhide HS) _) ((unhide HS) _) ((unhide HS) _))
      have hlt' : (k : Int) < (n : Int) := by omega
      have h0k : (0 : Int) ≤ (k : Int) := by omega
      clear x0 x1 x2 x3 y0 y1 y2 y3 i0 i1 i2 i3 j0 j1 j2 j3 bb
      go_wp2_with fail
      go_region_with (go_at_call 65; refine (unhide CE).mono ?_; rintro e w2 ⟨rfl, hb2⟩)
      all_goals
        have HB' := hide ((unhide HB).trans (((drew_bel wr).trans hb2).mono (unhide HB).size))
        clear hb2
        go_wp2
        go_roundw
        case rel => exact ⟨k + 1, by omega, by go_num, HB'⟩
        case measure => simp [intOf]; omega
    · go_wp2
      go_ret
      exact ⟨rfl, unhide HB⟩
theorem grown_refl (w : World) (r : Option Nat) : w.grownBy w r := ⟨rfl, rfl, rfl, Nat.le_refl _, fun _ _ _ => rfl⟩
theorem grown_set {w w' : World} {g j : Nat} {u : Value} (h : w.grownBy w' (some g)) : w.grownBy (w'.setCell ⟨g, j, none⟩ u) (some g) :=
  ⟨h.os, h.tape, h.output, by simp; exact h.size, fun k hk hne => (heap_setCell_other w' ⟨g, j, none⟩ k u (fun e => hne (by rw [e]))).trans (h.block k hk hne)⟩
/-- A row of n numbers of one's own in the block g, whatever they are. -/
def Oz (w : World) (B g n : Nat) : Prop := ∃ L : List Int, L.length = n ∧ w.ownsRow B 2 1 (.slice (some ⟨g, 0, none⟩) n n) n (L.map (Value.int .i64))
theorem Oz.at {w w' : World} {B g n : Nat} (h : Oz w B g n) (hs : w'.heap[g]? = w.heap[g]?) : Oz w' B g n := by
  obtain ⟨L, e, h⟩ := h
  exact ⟨L, e, own_at h (fun k hk => by cases hk; exact hs)⟩
theorem Oz.set {w : World} {B g n : Nat} (h : Oz w B g n) (k : Nat) (x : Int) : Oz (w.setCell ⟨g, k, none⟩ (.int .i64 x)) B g n := by
  obtain ⟨L, e, h⟩ := h
  refine ⟨L.set k x, by simp [e], ?_⟩
  rw [List.map_set]
  exact (h.stored k (.int .i64 x)).1
theorem Oz.cell {w : World} {B g n : Nat} (h : Oz w B g n) (k : Nat) (hk : k < n) : ∃ x, w.cell? ⟨g, k, none⟩ = some (.int .i64 x) ∧ w.frozen? ⟨g, k, none⟩ = false := by
  obtain ⟨L, e, h⟩ := h
  have c := h.cellAt k (by omega)
  rw [List.getElem?_map, List.getElem?_eq_getElem (by omega)] at c
  exact ⟨_, c, h.frozenAt k⟩
set_option maxHeartbeats 4000000 in
theorem markN (B g n : Nat) (m0 : Int) (w : World) (hm : 0 ≤ m0 ∧ m0 ≤ 100000000) (hn : n ≤ 1048576) (h : Oz w B g n) :
    Calls Tryz.prog 67 #[.slice (some ⟨g, 0, none⟩) n n, .int .i64 m0] w fun e w' => e = .returned (.int .i64 (m0 + (n : Int))) ∧ Oz w' B g n ∧ w.grownBy w' (some g) := by
  have H := hide h
  clear h
  go_enter Tryz.func67, Tryz.ntmps67
  go_wp2
  go_loopw [1, 5] (fun m i wr => ∃ k : Nat, k ≤ n ∧ i = .int .i64 k ∧ m = .int .i64 (m0 + (k : Int)) ∧ Hid (Oz wr B g n) ∧ Hid (w.grownBy wr (some g))) (fun _ i _ => n - (intOf i).toNat)
  case atStart => exact ⟨0, Nat.zero_le _, rfl, by simp, H, hide (grown_refl _ _)⟩
  case round =>
    obtain ⟨k, hk, rfl, rfl, HO, HB⟩ := hrel
    clear H
    by_cases hlt : k < n
    · have hlt' : (k : Int) < (n : Int) := by omega
      obtain ⟨x, c0, c1⟩ := (unhide HO).cell k hlt
      have HO' := hide ((unhide HO).set k (m0 + (k : Int)))
      have HB' := hide (grown_set (j := k) (u := .int .i64 (m0 + (k : Int))) (unhide HB))
      clear HO HB
      go_wp2
      go_roundw
      case rel => exact ⟨k + 1, by omega, by go_num, by go_num, HO', HB'⟩
      case measure => simp [intOf]; omega
    · obtain rfl : k = n := by omega
      go_wp2
      go_ret
      exact ⟨rfl, unhide HO, unhide HB⟩
/-- Marks in rows of rules: the rows stay rows, and nothing but them changes. -/
structure MS (w wr : World) (b : Nat) (Q : List (List Int)) (blk : Nat → Nat) (N : Nat) : Prop where
  row : ∀ k, k < N → Oz wr (b + 1) (blk k) (qn Q k).length
  os : wr.os = w.os
  tape : wr.tape = w.tape
  output : wr.output = w.output
  size : w.heap.size ≤ wr.heap.size
  out : ∀ j, j < w.heap.size → (∀ k, k < N → j ≠ blk k) → wr.heap[j]? = w.heap[j]?
theorem RuC.start {w : World} {b N : Nat} {Q : List (List Int)} {blk : Nat → Nat} (h : RuC w b Q blk N) : MS w w b Q blk N :=
  ⟨fun k hk => ⟨_, rfl, h.row k hk⟩, rfl, rfl, rfl, Nat.le_refl _, fun _ _ _ => rfl⟩
theorem Oz.lt {w : World} {B g n : Nat} (h : Oz w B g n) : B ≤ g ∧ g < w.heap.size := by
  obtain ⟨L, e, h⟩ := h
  exact World.ownsRow.lt h g rfl
theorem MS.step {w wr w2 : World} {b N k : Nat} {Q : List (List Int)} {blk : Nat → Nat} (h : MS w wr b Q blk N) (hmono : ∀ i j, i < j → j < N → blk i < blk j) (hk : k < N) (ho : Oz w2 (b + 1) (blk k) (qn Q k).length) (hg : wr.grownBy w2 (some (blk k))) : MS w w2 b Q blk N := by
  refine ⟨fun j hj => ?_, hg.os.trans h.os, hg.tape.trans h.tape, hg.output.trans h.output, Nat.le_trans h.size hg.size, fun j hj hne => ?_⟩
  · by_cases e : j = k
    · subst e; exact ho
    · have hd : blk j ≠ blk k := by
        rcases Nat.lt_or_gt_of_ne e with l | l
        · have := hmono j k l hk; omega
        · have := hmono k j l hj; omega
      exact (h.row j hj).at (hg.block (blk j) (h.row j hj).lt.2 (fun e => hd (by injection e)))
  · exact (hg.block j (Nat.lt_of_lt_of_le hj h.size) (fun e => hne k hk (by injection e))).trans (h.out j hj hne)
theorem MS.cell {w wr : World} {b N k : Nat} {Q : List (List Int)} {blk : Nat → Nat} (h : MS w wr b Q blk N) (hr : RuC w b Q blk N) (hk : k < N) : wr.cell? ⟨b, k, none⟩ = some (.slice (some ⟨blk k, 0, none⟩) (qn Q k).length (qn Q k).length) :=
  (World.cell?_of_block (a := ⟨b, k, none⟩) (h.out b hr.here (fun j hj => by have := (hr.row j hj).lt; omega))).trans (hr.cell k hk)
set_option maxRecDepth 100000 in
set_option maxHeartbeats 8000000 in
theorem markRules_any (b n : Nat) (Q : List (List Int)) (blk : Nat → Nat) (w : World) (hr : RuC w b Q blk (n * 4)) (hl : n ≤ 1048576) (hs : AllB Q 1048576) (hz : szk Q n ≤ 1048576) :
    Calls Tryz.prog 34 #[.slice (some ⟨b, 0, none⟩) n n, .int .i64 1] w fun e w' => e = .returned (.int .i64 (1 + (szk Q n : Int))) ∧ MS w w' b Q blk (n * 4) := by
  have HR := hide hr
  have HS := hide hs
  have S0 := hide hr.start
  have HM := hide (fun i h => szk_mono Q i n h)
  have HU := hide (fun k => (show szk Q (k + 1) = szk Q k + sz4 Q k from rfl))
  clear hr hs
  go_enter Tryz.func34, Tryz.ntmps34
  go_wp2
  go_loopw [1, 5] (fun m i wr => ∃ k : Nat, k ≤ n ∧ i = .int .i64 k ∧ m = .int .i64 (1 + (szk Q k : Int)) ∧ Hid (MS w wr b Q blk (n * 4))) (fun _ i _ => n - (intOf i).toNat)
  case atStart => exact ⟨0, Nat.zero_le _, rfl, by simp [szk], S0⟩
  case round =>
    obtain ⟨k, hk, rfl, rfl, HO⟩ := hrel
    clear S0
    by_cases hlt : k < n
    · have hlt' : (k : Int) < (n : Int) := by omega
      have hs := (unhide HU) k
      unfold sz4 at hs
      have hm := (unhide HM) (k + 1) (by omega)
      have hmo := hide (unhide HR).mono
      have K0 : k * 4 < n * 4 := by omega
      have K1 : k * 4 + 1 < n * 4 := by omega
      have K2 : k * 4 + 2 < n * 4 := by omega
      have K3 : k * 4 + 3 < n * 4 := by omega
      have P0 := hide (fun W W2 (h : MS w W b Q blk (n * 4)) a c => h.step (w2 := W2) (unhide hmo) K0 a c)
      have P1 := hide (fun W W2 (h : MS w W b Q blk (n * 4)) a c => h.step (w2 := W2) (unhide hmo) K1 a c)
      have P2 := hide (fun W W2 (h : MS w W b Q blk (n * 4)) a c => h.step (w2 := W2) (unhide hmo) K2 a c)
      have P3 := hide (fun W W2 (h : MS w W b Q blk (n * 4)) a c => h.step (w2 := W2) (unhide hmo) K3 a c)
      have E0 := hide (fun W (h : MS w W b Q blk (n * 4)) => h.cell (unhide HR) K0)
      have E1 := hide (fun W (h : MS w W b Q blk (n * 4)) => h.cell (unhide HR) K1)
      have E2 := hide (fun W (h : MS w W b Q blk (n * 4)) => h.cell (unhide HR) K2)
      have E3 := hide (fun W (h : MS w W b Q blk (n * 4)) => h.cell (unhide HR) K3)
      have R0 := hide (fun W (h : MS w W b Q blk (n * 4)) => h.row (k * 4) K0)
      have R1 := hide (fun W (h : MS w W b Q blk (n * 4)) => h.row (k * 4 + 1) K1)
      have R2 := hide (fun W (h : MS w W b Q blk (n * 4)) => h.row (k * 4 + 2) K2)
      have R3 := hide (fun W (h : MS w W b Q blk (n * 4)) => h.row (k * 4 + 3) K3)
      have l0 := (unhide HS) (k * 4)
      have l1 := (unhide HS) (k * 4 + 1)
      have l2 := (unhide HS) (k * 4 + 2)
      have l3 := (unhide HS) (k * 4 + 3)
      obtain ⟨s0, hs0⟩ : ∃ s, s = szk Q k := ⟨_, rfl⟩
      obtain ⟨s1, hs1⟩ : ∃ s, s = szk Q (k + 1) := ⟨_, rfl⟩
      rw [← hs1, ← hs0] at hs
      rw [← hs1] at hm
      rw [← hs0]
      generalize (qn Q (k * 4)).length = n0 at *
      generalize (qn Q (k * 4 + 1)).length = n1 at *
      generalize (qn Q (k * 4 + 2)).length = n2 at *
      generalize (qn Q (k * 4 + 3)).length = n3 at *
      generalize blk (k * 4) = g0 at *
      generalize blk (k * 4 + 1) = g1 at *
      generalize blk (k * 4 + 2) = g2 at *
      generalize blk (k * 4 + 3) = g3 at *
      have M0 := hide (fun W h => markN (b + 1) g0 n0 (1 + (s0 : Int)) W (by omega) l0 h)
      have M1 := hide (fun W h => markN (b + 1) g1 n1 (1 + (s0 : Int) + (n0 : Int)) W (by omega) l1 h)
      have M2 := hide (fun W h => markN (b + 1) g2 n2 (1 + (s0 : Int) + (n0 : Int) + (n1 : Int)) W (by omega) l2 h)
      have M3 := hide (fun W h => markN (b + 1) g3 n3 (1 + (s0 : Int) + (n0 : Int) + (n1 : Int) + (n2 : Int)) W (by omega) l3 h)
      have HQ : Hid (1 + (s0 : Int) + (n0 : Int) + (n1 : Int) + (n2 : Int) + (n3 : Int) = 1 + (szk Q (k + 1) : Int)) := hide (by rw [← hs1]; omega)
      have c0 := (unhide E0) _ (unhide HO)
      clear hs hs0 hs1 hm l0 l1 l2 l3 hmo
      go_wp2_with fail
      refine ((unhide M0) _ ((unhide R0) _ (unhide HO))).mono ?_
      rintro e wb ⟨rfl, oz, hg⟩
      have HO1 := hide ((unhide P0) _ _ (unhide HO) oz hg)
      have c1 := (unhide E1) _ (unhide HO1)
      clear oz hg HO c0 M0 R0 P0 E0
      go_wp2_with fail
      refine ((unhide M1) _ ((unhide R1) _ (unhide HO1))).mono ?_
      rintro e wc ⟨rfl, oz, hg⟩
      have HO2 := hide ((unhide P1) _ _ (unhide HO1) oz hg)
      have c2 := (unhide E2) _ (unhide HO2)
      clear oz hg HO1 c1 M1 R1 P1 E1
      go_wp2_with fail
      refine ((unhide M2) _ ((unhide R2) _ (unhide HO2))).mono ?_
      rintro e wd ⟨rfl, oz, hg⟩
      have HO3 := hide ((unhide P2) _ _ (unhide HO2) oz hg)
      have c3 := (unhide E3) _ (unhide HO3)
      clear oz hg HO2 c2 M2 R2 P2 E2
      go_wp2_with fail
      refine ((unhide M3) _ ((unhide R3) _ (unhide HO3))).mono ?_
      rintro e we ⟨rfl, oz, hg⟩
      have HO4 := hide ((unhide P3) _ _ (unhide HO3) oz hg)
      clear oz hg HO3 c3 M3 R3 P3 E3
      go_wp2
      go_roundw
      case rel => exact ⟨k + 1, by omega, by go_num, by rw [unhide HQ], HO4⟩
      case measure => simp [intOf]; omega
    · obtain rfl : k = n := by omega
      go_wp2
      go_ret
      exact ⟨rfl, unhide HO⟩
end Go.Proofs.YtfldomifooihlaaGreatDoor.Frl
/- Rules that are right, as the program and as the specification tell it. -/
namespace Go.Proofs.YtfldomifooihlaaGreatDoor.Frl
open Go.RowKit
set_option linter.unusedVariables false
/-- One rule is right. -/
def ok1 (L0 L1 L2 L3 : List Int) : Bool := decide (0 < L1.length) && okI L1 8 && okI L3 8 && okI L0 4 && okI L2 4
def okq (Q : List (List Int)) (i : Nat) : Bool := ok1 (qn Q (i * 4)) (qn Q (i * 4 + 1)) (qn Q (i * 4 + 2)) (qn Q (i * 4 + 3))
/-- The first k rules are right. -/
def okk (Q : List (List Int)) : Nat → Bool
  | 0 => true
  | k + 1 => okk Q k && okq Q k
/-- All rules are right. -/
def okR (n : Nat) (Q : List (List Int)) : Bool := decide (n ≤ 100) && okk Q n
theorem okk_bad {Q : List (List Int)} {i n : Nat} (hi : i < n) (h : okq Q i = false) : okk Q n = false := by
  induction n with
  | zero => omega
  | succ n ih =>
    unfold okk
    by_cases e : i = n
    · subst e; rw [h, Bool.and_false]
    · rw [ih (by omega), Bool.false_and]
theorem okk_at {Q : List (List Int)} {i n : Nat} (hi : i < n) (h : okk Q n = true) : okq Q i = true := by
  cases e : okq Q i
  · rw [okk_bad hi e] at h; cases h
  · rfl
theorem okR_long {n : Nat} {Q : List (List Int)} (h : 100 < n) : okR n Q = false := by unfold okR; rw [decide_eq_false (by omega), Bool.false_and]
theorem okR_bad {n i : Nat} {Q : List (List Int)} (hi : i < n) (h : okq Q i = false) : okR n Q = false := by unfold okR; rw [okk_bad hi h, Bool.and_false]
theorem okR_good {n : Nat} {Q : List (List Int)} (hn : n ≤ 100) (h : okk Q n = true) : okR n Q = true := by unfold okR; rw [decide_eq_true hn, h]; rfl
theorem okR_is {n : Nat} {Q : List (List Int)} (h : okR n Q = true) : n ≤ 100 ∧ okk Q n = true := by
  unfold okR at h
  simpa using h
set_option maxRecDepth 100000 in
set_option maxHeartbeats 4000000 in
theorem isRight_any (u0 u1 u2 u3 : Value) (L0 L1 L2 L3 : List Int) (w : World) (h0 : IntsAt w u0 L0) (h1 : IntsAt w u1 L1) (h2 : IntsAt w u2 L2) (h3 : IntsAt w u3 L3) (l0 : L0.length ≤ 1048576) (l1 : L1.length ≤ 1048576) (l2 : L2.length ≤ 1048576) (l3 : L3.length ≤ 1048576) :
    Calls Tryz.prog 80 #[.agg #[u0, u1, u2, u3]] w fun e w' => e = .returned (.bool (ok1 L0 L1 L2 L3)) ∧ Below w.heap.size w w' := by
  have bel := (Below.refl w.heap.size w).alloc (Nat.le_refl _) (.cells #[u0, u1, u2, u3] 77)
  have B1 := hide bel
  have C0 := hide (areIds_any u0 L0 4 _ (h0.below bel) l0 (by omega))
  have C1 := hide (areIds_any u1 L1 8 _ (h1.below bel) l1 (by omega))
  have C2 := hide (areIds_any u2 L2 4 _ (h2.below bel) l2 (by omega))
  have C3 := hide (areIds_any u3 L3 8 _ (h3.below bel) l3 (by omega))
  obtain ⟨a1, c1, rfl⟩ := ints_form h1
  obtain ⟨R, hR⟩ : ∃ R, ok1 L0 L1 L2 L3 = R := ⟨_, rfl⟩
  rw [hR]
  unfold ok1 at hR
  clear h0 h1 h2 h3 l0 l1 l2 l3 bel
  by_cases t : 0 < L1.length
  · rw [decide_eq_true t] at hR
    have t' : (0 : Int) < (L1.length : Int) := by omega
    cases y0 : okI L1 8
    · rw [y0] at C1 hR
      have HR : Hid (false = R) := hide (by rw [← hR]; simp)
      clear hR
      go_enter Tryz.func80, Tryz.ntmps80
      go_wp2_with fail
      refine (unhide C1).mono ?_
      rintro e w1 ⟨rfl, e1⟩
      have e2 := e1.symm
      subst e2
      clear e1
      go_wp2
      go_ret
      exact ⟨by rw [← unhide HR]; rfl, unhide B1⟩
    · rw [y0] at C1 hR
      cases y1 : okI L3 8
      · rw [y1] at C3 hR
        have HR : Hid (false = R) := hide (by rw [← hR]; simp)
        clear hR
        go_enter Tryz.func80, Tryz.ntmps80
        go_wp2_with fail
        refine (unhide C1).mono ?_
        rintro e w1 ⟨rfl, e1⟩
        have e2 := e1.symm
        subst e2
        clear e1
        go_wp2_with fail
        refine (unhide C3).mono ?_
        rintro e w1 ⟨rfl, e1⟩
        have e2 := e1.symm
        subst e2
        clear e1
        go_wp2
        go_ret
        exact ⟨by rw [← unhide HR]; rfl, unhide B1⟩
      · rw [y1] at C3 hR
        cases y2 : okI L0 4
        · rw [y2] at C0 hR
          have HR : Hid (false = R) := hide (by rw [← hR]; simp)
          clear hR
          go_enter Tryz.func80, Tryz.ntmps80
          go_wp2_with fail
          refine (unhide C1).mono ?_
          rintro e w1 ⟨rfl, e1⟩
          have e2 := e1.symm
          subst e2
          clear e1
          go_wp2_with fail
          refine (unhide C3).mono ?_
          rintro e w1 ⟨rfl, e1⟩
          have e2 := e1.symm
          subst e2
          clear e1
          go_wp2_with fail
          refine (unhide C0).mono ?_
          rintro e w1 ⟨rfl, e1⟩
          have e2 := e1.symm
          subst e2
          clear e1
          go_wp2
          go_ret
          exact ⟨by rw [← unhide HR]; rfl, unhide B1⟩
        · rw [y2] at C0 hR
          cases y3 : okI L2 4
          · rw [y3] at C2 hR
            have HR : Hid (false = R) := hide (by rw [← hR]; simp)
            clear hR
            go_enter Tryz.func80, Tryz.ntmps80
            go_wp2_with fail
            refine (unhide C1).mono ?_
            rintro e w1 ⟨rfl, e1⟩
            have e2 := e1.symm
            subst e2
            clear e1
            go_wp2_with fail
            refine (unhide C3).mono ?_
            rintro e w1 ⟨rfl, e1⟩
            have e2 := e1.symm
            subst e2
            clear e1
            go_wp2_with fail
            refine (unhide C0).mono ?_
            rintro e w1 ⟨rfl, e1⟩
            have e2 := e1.symm
            subst e2
            clear e1
            go_wp2_with fail
            refine (unhide C2).mono ?_
            rintro e w1 ⟨rfl, e1⟩
            have e2 := e1.symm
            subst e2
            clear e1
            go_wp2
            go_ret
            exact ⟨by rw [← unhide HR]; rfl, unhide B1⟩
          · rw [y3] at C2 hR
            have HR : Hid (true = R) := hide (by rw [← hR]; rfl)
            clear hR
            go_enter Tryz.func80, Tryz.ntmps80
            go_wp2_with fail
            refine (unhide C1).mono ?_
            rintro e w1 ⟨rfl, e1⟩
            have e2 := e1.symm
            subst e2
            clear e1
            go_wp2_with fail
            refine (unhide C3).mono ?_
            rintro e w1 ⟨rfl, e1⟩
            have e2 := e1.symm
            subst e2
            clear e1
            go_wp2_with fail
            refine (unhide C0).mono ?_
            rintro e w1 ⟨rfl, e1⟩
            have e2 := e1.symm
            subst e2
            clear e1
            go_wp2_with fail
            refine (unhide C2).mono ?_
            rintro e w1 ⟨rfl, e1⟩
            have e2 := e1.symm
            subst e2
            clear e1
            go_wp2
            go_ret
            exact ⟨by rw [← unhide HR]; rfl, unhide B1⟩
  · rw [decide_eq_false t] at hR
    have t' : ¬ (0 : Int) < (L1.length : Int) := by omega
    have HR : Hid (false = R) := hide (by rw [← hR]; simp)
    clear hR
    go_enter Tryz.func80, Tryz.ntmps80
    go_wp2
    go_ret
    exact ⟨by rw [← unhide HR]; rfl, unhide B1⟩
set_option maxRecDepth 100000 in
set_option maxHeartbeats 4000000 in
theorem areRules_any (v : Value) (n : Nat) (Q : List (List Int)) (w : World) (hv : RuI w v n Q) (hl : n ≤ 1048576) (hs : AllB Q 1048576) :
    Calls Tryz.prog 52 #[v] w fun e w' => e = .returned (.bool (okR n Q)) ∧ Below w.heap.size w w' := by
  obtain ⟨a, cap, rfl, hf⟩ := hv.form
  have HV := hide hf
  have HS := hide hs
  clear hv hs hf
  by_cases h1 : 100 < n
  · have h1' : (100 : Int) < (n : Int) := by omega
    have HR := hide (okR_long (Q := Q) h1)
    generalize okR n Q = R at *
    go_enter Tryz.func52, Tryz.ntmps52
    go_wp2
    go_ret
    exact ⟨by rw [unhide HR]; rfl, Below.refl _ _⟩
  have h1' : ¬ (100 : Int) < (n : Int) := by omega
  have HBad := hide (fun i hi h => okR_bad (n := n) (Q := Q) (i := i) hi h)
  have HGood := hide (fun h => okR_good (n := n) (Q := Q) (by omega) h)
  generalize okR n Q = R at *
  go_enter Tryz.func52, Tryz.ntmps52
  go_wp2
  go_loopw [10] (fun i wr => ∃ k : Nat, k ≤ n ∧ i = .int .i64 k ∧ Hid (okk Q k = true) ∧ Hid (Below w.heap.size w wr)) (fun i _ => n - (intOf i).toNat)
  case atStart => exact ⟨0, Nat.zero_le _, rfl, hide rfl, hide (Below.refl _ _)⟩
  case round =>
    obtain ⟨k, hk, rfl, HK, HB⟩ := hrel
    by_cases hlt : k < n
    · have hlt' : (k : Int) < (n : Int) := by omega
      obtain ⟨b, off, rfl, hbs, u0, u1, u2, u3, ⟨x0, x1, x2, x3⟩, i0, i1, i2, i3⟩ := (unhide HV) k hlt
      have d0 := ((unhide HB).cell (p := ⟨b, off + k * 4, none⟩) hbs).trans x0
      have d1 := ((unhide HB).cell (p := ⟨b, off + k * 4 + 1, none⟩) hbs).trans x1
      have d2 := ((unhide HB).cell (p := ⟨b, off + k * 4 + 2, none⟩) hbs).trans x2
      have d3 := ((unhide HB).cell (p := ⟨b, off + k * 4 + 3, none⟩) hbs).trans x3
      have B1 := hide ((unhide HB).alloc (unhide HB).size (.cells #[u0, u1, u2, u3] 77))
      have C := hide (isRight_any u0 u1 u2 u3 _ _ _ _ (wr.alloc (.cells #[u0, u1, u2, u3] 77)) (i0.below (unhide B1)) (i1.below (unhide B1)) (i2.below (unhide B1)) (i3.below (unhide B1)) ((unhide HS) _) ((unhide HS) _) ((unhide HS) _) ((unhide HS) _))
      have C2 : Hid (Calls Tryz.prog 80 #[.agg #[u0, u1, u2, u3]] (wr.alloc (.cells #[u0, u1, u2, u3] 77)) fun e w' => e = .returned (.bool (okq Q k)) ∧ Below (wr.alloc (.cells #[u0, u1, u2, u3] 77)).heap.size (wr.alloc (.cells #[u0, u1, u2, u3] 77)) w') := C
      obtain ⟨a0, c0, rfl⟩ := ints_form i0
      obtain ⟨a1, c1, rfl⟩ := ints_form i1
      obtain ⟨a2, c2, rfl⟩ := ints_form i2
      obtain ⟨a3, c3, rfl⟩ := ints_form i3
      clear x0 x1 x2 x3 i0 i1 i2 i3 C
      generalize (qn Q (k * 4)).length = m0 at *
      generalize (qn Q (k * 4 + 1)).length = m1 at *
      generalize (qn Q (k * 4 + 2)).length = m2 at *
      generalize (qn Q (k * 4 + 3)).length = m3 at *
      cases y : okq Q k
      · have HR := hide ((unhide HBad) k hlt y)
        rw [y] at C2
        go_wp2_with fail
        refine (unhide C2).mono ?_
        rintro e w2 ⟨rfl, hb2⟩
        have B2 := hide ((unhide B1).trans (hb2.mono (unhide B1).size))
        clear hb2
        go_wp2
        go_ret
        exact ⟨by rw [unhide HR]; rfl, unhide B2⟩
      · have HK2 : Hid (okk Q (k + 1) = true) := hide (by unfold okk; rw [unhide HK, y]; rfl)
        rw [y] at C2
        go_wp2_with fail
        refine (unhide C2).mono ?_
        rintro e w2 ⟨rfl, hb2⟩
        have B2 := hide ((unhide B1).trans (hb2.mono (unhide B1).size))
        clear hb2
        go_wp2
        go_roundw
        case rel => exact ⟨k + 1, by omega, by go_num, HK2, B2⟩
        case measure => simp [intOf]; omega
    · obtain rfl : k = n := by omega
      have HR := hide ((unhide HGood) (unhide HK))
      go_wp2
      go_ret
      exact ⟨by rw [unhide HR]; rfl, unhide HB⟩
theorem ok1_no (L0 L1 L2 L3 : List Int) (h : ¬ 0 < L1.length ∨ okI L1 8 = false ∨ okI L0 4 = false ∨ okI L2 4 = false ∨ okI L3 8 = false) : ok1 L0 L1 L2 L3 = false := by
  unfold ok1
  rcases h with h | h | h | h | h
  · rw [decide_eq_false h]; simp
  · rw [h]; simp
  · rw [h]; simp
  · rw [h]; simp
  · rw [h]; simp
theorem ok1_yes (L0 L1 L2 L3 : List Int) (h : 0 < L1.length) (h1 : okI L1 8 = true) (h0 : okI L0 4 = true) (h2 : okI L2 4 = true) (h3 : okI L3 8 = true) : ok1 L0 L1 L2 L3 = true := by
  unfold ok1
  rw [decide_eq_true h, h1, h0, h2, h3]; rfl
set_option maxRecDepth 100000 in
set_option maxHeartbeats 8000000 in
theorem rulesRight_any (v : Value) (n : Nat) (Q : List (List Int)) (w : World) (hv : RuI w v n Q) (hl : n ≤ 1048576) (hs : AllB Q 1048576) :
    Calls Tryz.prog 40 #[v] w fun e w' => e = .returned (.bool (okR n Q)) ∧ Below w.heap.size w w' := by
  obtain ⟨a, cap, rfl, hf⟩ := hv.form
  have HV := hide hf
  have HS := hide hs
  clear hv hs hf
  have HBad := hide (fun i hi h => okR_bad (n := n) (Q := Q) (i := i) hi h)
  have HGood := hide (fun h1 h => okR_good (n := n) (Q := Q) h1 h)
  have HLong := hide (fun h1 => okR_long (n := n) (Q := Q) h1)
  generalize okR n Q = R at *
  go_enter Tryz.func40, Tryz.ntmps40
  go_wp2
  go_loopw [3] (fun i wr => ∃ k : Nat, k ≤ n ∧ i = .int .i64 k ∧ Hid (okk Q k = true) ∧ Hid (Below w.heap.size w wr)) (fun i _ => n - (intOf i).toNat)
  case atStart => exact ⟨0, Nat.zero_le _, rfl, hide rfl, hide (Below.refl _ _)⟩
  case round =>
    obtain ⟨k, hk, rfl, HK, HB⟩ := hrel
    by_cases hlt : k < n
    · have hlt' : (k : Int) < (n : Int) := by omega
      obtain ⟨b, off, rfl, hbs, u0, u1, u2, u3, ⟨x0, x1, x2, x3⟩, i0, i1, i2, i3⟩ := (unhide HV) k hlt
      have d0 := ((unhide HB).cell (p := ⟨b, off + k * 4, none⟩) hbs).trans x0
      have d1 := ((unhide HB).cell (p := ⟨b, off + k * 4 + 1, none⟩) hbs).trans x1
      have d2 := ((unhide HB).cell (p := ⟨b, off + k * 4 + 2, none⟩) hbs).trans x2
      have d3 := ((unhide HB).cell (p := ⟨b, off + k * 4 + 3, none⟩) hbs).trans x3
      have B1 := hide ((unhide HB).alloc (unhide HB).size (.cells #[u0, u1, u2, u3] 77))
      have C0 := hide (l10Ids_any u0 _ 4 _ (i0.below (unhide B1)) ((unhide HS) _) (by omega))
      have C1 := hide (l10Ids_any u1 _ 8 _ (i1.below (unhide B1)) ((unhide HS) _) (by omega))
      have C2 := hide (l10Ids_any u2 _ 4 _ (i2.below (unhide B1)) ((unhide HS) _) (by omega))
      have C3 := hide (l10Ids_any u3 _ 8 _ (i3.below (unhide B1)) ((unhide HS) _) (by omega))
      have HNo := hide (fun h => (unhide HBad) k hlt (ok1_no (qn Q (k * 4)) (qn Q (k * 4 + 1)) (qn Q (k * 4 + 2)) (qn Q (k * 4 + 3)) h))
      have HYes : Hid (∀ h h1 h0 h2 h3, okk Q (k + 1) = true) := hide (fun h h1 h0 h2 h3 => by
        unfold okk
        rw [unhide HK]
        exact ok1_yes (qn Q (k * 4)) (qn Q (k * 4 + 1)) (qn Q (k * 4 + 2)) (qn Q (k * 4 + 3)) h h1 h0 h2 h3)
      obtain ⟨a0, c0, rfl⟩ := ints_form i0
      obtain ⟨a1, c1, rfl⟩ := ints_form i1
      obtain ⟨a2, c2, rfl⟩ := ints_form i2
      obtain ⟨a3, c3, rfl⟩ := ints_form i3
      clear x0 x1 x2 x3 i0 i1 i2 i3
      generalize qn Q (k * 4) = L0 at *
      generalize qn Q (k * 4 + 1) = L1 at *
      generalize qn Q (k * 4 + 2) = L2 at *
      generalize qn Q (k * 4 + 3) = L3 at *
      by_cases t : 0 < L1.length
      · have t' : ¬ (L1.length : Int) < 1 := by omega
        cases y0 : okI L1 8
        · rw [y0] at C1
          have HR := hide ((unhide HNo) (.inr (.inl y0)))
          go_wp2_with fail
          refine (unhide C1).mono ?_
          rintro e w1 ⟨rfl, e1⟩
          have e2 := e1.symm
          subst e2
          clear e1
          go_wp2
          go_ret
          exact ⟨by rw [unhide HR]; rfl, unhide B1⟩
        · rw [y0] at C1
          cases y1 : okI L0 4
          · rw [y1] at C0
            have HR := hide ((unhide HNo) (.inr (.inr (.inl y1))))
            go_wp2_with fail
            refine (unhide C1).mono ?_
            rintro e w1 ⟨rfl, e1⟩
            have e2 := e1.symm
            subst e2
            clear e1
            go_wp2_with fail
            refine (unhide C0).mono ?_
            rintro e w1 ⟨rfl, e1⟩
            have e2 := e1.symm
            subst e2
            clear e1
            go_wp2
            go_ret
            exact ⟨by rw [unhide HR]; rfl, unhide B1⟩
          · rw [y1] at C0
            cases y2 : okI L2 4
            · rw [y2] at C2
              have HR := hide ((unhide HNo) (.inr (.inr (.inr (.inl y2)))))
              go_wp2_with fail
              refine (unhide C1).mono ?_
              rintro e w1 ⟨rfl, e1⟩
              have e2 := e1.symm
              subst e2
              clear e1
              go_wp2_with fail
              refine (unhide C0).mono ?_
              rintro e w1 ⟨rfl, e1⟩
              have e2 := e1.symm
              subst e2
              clear e1
              go_wp2_with fail
              refine (unhide C2).mono ?_
              rintro e w1 ⟨rfl, e1⟩
              have e2 := e1.symm
              subst e2
              clear e1
              go_wp2
              go_ret
              exact ⟨by rw [unhide HR]; rfl, unhide B1⟩
            · rw [y2] at C2
              cases y3 : okI L3 8
              · rw [y3] at C3
                have HR := hide ((unhide HNo) (.inr (.inr (.inr (.inr y3)))))
                go_wp2_with fail
                refine (unhide C1).mono ?_
                rintro e w1 ⟨rfl, e1⟩
                have e2 := e1.symm
                subst e2
                clear e1
                go_wp2_with fail
                refine (unhide C0).mono ?_
                rintro e w1 ⟨rfl, e1⟩
                have e2 := e1.symm
                subst e2
                clear e1
                go_wp2_with fail
                refine (unhide C2).mono ?_
                rintro e w1 ⟨rfl, e1⟩
                have e2 := e1.symm
                subst e2
                clear e1
                go_wp2_with fail
                refine (unhide C3).mono ?_
                rintro e w1 ⟨rfl, e1⟩
                have e2 := e1.symm
                subst e2
                clear e1
                go_wp2
                go_ret
                exact ⟨by rw [unhide HR]; rfl, unhide B1⟩
              · rw [y3] at C3
                have HK2 := hide ((unhide HYes) t y0 y1 y2 y3)
                go_wp2_with fail
                refine (unhide C1).mono ?_
                rintro e w1 ⟨rfl, e1⟩
                have e2 := e1.symm
                subst e2
                clear e1
                go_wp2_with fail
                refine (unhide C0).mono ?_
                rintro e w1 ⟨rfl, e1⟩
                have e2 := e1.symm
                subst e2
                clear e1
                go_wp2_with fail
                refine (unhide C2).mono ?_
                rintro e w1 ⟨rfl, e1⟩
                have e2 := e1.symm
                subst e2
                clear e1
                go_wp2_with fail
                refine (unhide C3).mono ?_
                rintro e w1 ⟨rfl, e1⟩
                have e2 := e1.symm
                subst e2
                clear e1
                go_wp2
                go_roundw
                case rel => exact ⟨k + 1, by omega, by go_num, HK2, B1⟩
                case measure => simp [intOf]; omega
      · have t' : (L1.length : Int) < 1 := by omega
        have HR := hide ((unhide HNo) (.inl t))
        go_wp2
        go_ret
        exact ⟨by rw [unhide HR]; rfl, unhide B1⟩
    · obtain rfl : k = n := by omega
      by_cases t : k ≤ 100
      · have t' : (k : Int) ≤ 100 := by omega
        have HR := hide ((unhide HGood) t (unhide HK))
        go_wp2
        go_ret
        exact ⟨by rw [unhide HR]; rfl, unhide HB⟩
      · have t' : ¬ (k : Int) ≤ 100 := by omega
        have HR := hide ((unhide HLong) (by omega))
        go_wp2
        go_ret
        exact ⟨by rw [unhide HR]; rfl, unhide HB⟩
end Go.Proofs.YtfldomifooihlaaGreatDoor.Frl
