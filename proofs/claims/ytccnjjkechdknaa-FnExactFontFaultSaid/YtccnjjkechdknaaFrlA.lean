/- Rows of rules: four rows of numbers each; how large they are. -/
import Derived.Test.YtccnjjkechdknaaIntA
namespace Go.Proofs.Ytccnjjkechdknaa.Frl
open Go.RowKit
set_option linter.unusedVariables false
def qn (Q : List (List Int)) (k : Nat) : List Int := Q.getD k []
/-- A slice value that holds n rules; Q: their rows of numbers, four each. -/
def RuI (w : World) (v : Value) (n : Nat) (Q : List (List Int)) : Prop :=
  Q.length = n * 4 ∧ ∃ a cap, v = .slice a n cap ∧ (n = 0 ∨ ∃ b off, a = some ⟨b, off, none⟩ ∧ b < w.heap.size ∧ ∀ k, k < n * 4 → ∃ u, w.cell? ⟨b, off + k, none⟩ = some u ∧ IntsAt w u (qn Q k))
theorem RuI.below {w w' : World} {v : Value} {n : Nat} {Q : List (List Int)} (h : RuI w v n Q) (hb : Below w.heap.size w w') : RuI w' v n Q := by
  obtain ⟨hl, a, cap, rfl, h⟩ := h
  refine ⟨hl, a, cap, rfl, ?_⟩
  rcases h with h | ⟨b, off, rfl, hbs, hc⟩
  · exact .inl h
  · refine .inr ⟨b, off, rfl, Nat.lt_of_lt_of_le hbs hb.size, fun k hk => ?_⟩
    obtain ⟨u, c, hu⟩ := hc k hk
    exact ⟨u, (hb.cell (p := ⟨b, off + k, none⟩) hbs).trans c, hu.below hb⟩
/-- The four rows of one rule, as they are read. -/
def Four (w : World) (b at0 : Nat) (u0 u1 u2 u3 : Value) (Q : List (List Int)) (i : Nat) : Prop :=
  (w.cell? ⟨b, at0 + i * 4, none⟩ = some u0 ∧ w.cell? ⟨b, at0 + i * 4 + 1, none⟩ = some u1 ∧ w.cell? ⟨b, at0 + i * 4 + 2, none⟩ = some u2 ∧ w.cell? ⟨b, at0 + i * 4 + 3, none⟩ = some u3) ∧
  IntsAt w u0 (qn Q (i * 4)) ∧ IntsAt w u1 (qn Q (i * 4 + 1)) ∧ IntsAt w u2 (qn Q (i * 4 + 2)) ∧ IntsAt w u3 (qn Q (i * 4 + 3))
theorem RuI.form {w : World} {v : Value} {n : Nat} {Q : List (List Int)} (h : RuI w v n Q) : ∃ a cap, v = .slice a n cap ∧ ∀ i, i < n → ∃ b off, a = some ⟨b, off, none⟩ ∧ b < w.heap.size ∧ ∃ u0 u1 u2 u3, Four w b off u0 u1 u2 u3 Q i := by
  obtain ⟨hl, a, cap, rfl, h⟩ := h
  refine ⟨a, cap, rfl, fun i hi => ?_⟩
  rcases h with h | ⟨b, off, rfl, hbs, hc⟩
  · omega
  · obtain ⟨u0, c0, i0⟩ := hc (i * 4) (by omega)
    obtain ⟨u1, c1, i1⟩ := hc (i * 4 + 1) (by omega)
    obtain ⟨u2, c2, i2⟩ := hc (i * 4 + 2) (by omega)
    obtain ⟨u3, c3, i3⟩ := hc (i * 4 + 3) (by omega)
    exact ⟨b, off, rfl, hbs, u0, u1, u2, u3, ⟨c0, c1, c2, c3⟩, i0, i1, i2, i3⟩
theorem ints_form {w : World} {v : Value} {l : List Int} (h : IntsAt w v l) : ∃ a c, v = .slice a l.length c := by
  obtain ⟨a, c, e, _⟩ := h
  exact ⟨a, c, e⟩
set_option maxHeartbeats 1000000 in
theorem szN (a : Option Addr) (n c : Nat) (m : Int) (hm : 0 ≤ m ∧ m ≤ 1048576) (w : World) (hn : n ≤ 9223372036854775807) :
    Calls Try.prog 51 #[.slice a n c, .int .i64 m] w fun e w' => e = .returned (.int .i64 (if m - (n : Int) < 0 then -1 else m - (n : Int))) ∧ w' = w := by
  by_cases h : m - (n : Int) < 0
  · rw [if_pos h]
    go_enter Try.func51, Try.ntmps51
    go_wp2
    go_ret
    exact ⟨rfl, rfl⟩
  · rw [if_neg h]
    go_enter Try.func51, Try.ntmps51
    go_wp2
    go_ret
    exact ⟨rfl, rfl⟩
def lf (m : Int) (s : Nat) : Int := if m - (s : Int) < 0 then -1 else m - (s : Int)
theorem lf_neg {m : Int} {s : Nat} (h : m - (s : Int) < 0) : lf m s = -1 := if_pos h
theorem lf_pos {m : Int} {s : Nat} (h : ¬ m - (s : Int) < 0) : lf m s = m - (s : Int) := if_neg h
set_option maxRecDepth 100000 in
set_option maxHeartbeats 4000000 in
theorem szRule_any (a0 a1 a2 a3 : Option Addr) (n0 n1 n2 n3 c0 c1 c2 c3 : Nat) (m : Int) (w : World) (hm : 0 ≤ m ∧ m ≤ 1048576) (h0 : n0 ≤ 9223372036854775807) (h1 : n1 ≤ 9223372036854775807) (h2 : n2 ≤ 9223372036854775807) (h3 : n3 ≤ 9223372036854775807) :
    Calls Try.prog 33 #[.agg #[.slice a0 n0 c0, .slice a1 n1 c1, .slice a2 n2 c2, .slice a3 n3 c3], .int .i64 m] w fun e w' => e = .returned (.int .i64 (lf m (n0 + n1 + n2 + n3))) ∧ Below w.heap.size w w' := by
  have B1 := hide ((Below.refl w.heap.size w).alloc (Nat.le_refl _) (.cells #[.slice a0 n0 c0, .slice a1 n1 c1, .slice a2 n2 c2, .slice a3 n3 c3] 65))
  have C0 := hide (fun W => szN a0 n0 c0 m hm W h0)
  by_cases t0 : m - (n0 : Int) < 0
  · have HE := hide (lf_neg (m := m) (s := n0 + n1 + n2 + n3) (by omega))
    rw [if_pos t0] at C0
    generalize lf m (n0 + n1 + n2 + n3) = R at *
    go_enter Try.func33, Try.ntmps33
    go_wp2_with fail
    refine ((unhide C0) _).mono ?_
    rintro e w1 ⟨rfl, e1⟩
    have e2 := e1.symm
    subst e2
    clear e1
    go_wp2
    go_ret
    exact ⟨by rw [unhide HE]; rfl, unhide B1⟩
  rw [if_neg t0] at C0
  have C1 := hide (fun W => szN a1 n1 c1 (m - (n0 : Int)) (by omega) W h1)
  by_cases t1 : m - (n0 : Int) - (n1 : Int) < 0
  · have HE := hide (lf_neg (m := m) (s := n0 + n1 + n2 + n3) (by omega))
    rw [if_pos t1] at C1
    generalize lf m (n0 + n1 + n2 + n3) = R at *
    go_enter Try.func33, Try.ntmps33
    go_wp2_with fail
    refine ((unhide C0) _).mono ?_
    rintro e w1 ⟨rfl, e1⟩
    have e2 := e1.symm
    subst e2
    clear e1
    go_wp2_with fail
    refine ((unhide C1) _).mono ?_
    rintro e w1 ⟨rfl, e1⟩
    have e2 := e1.symm
    subst e2
    clear e1
    go_wp2
    go_ret
    exact ⟨by rw [unhide HE]; rfl, unhide B1⟩
  rw [if_neg t1] at C1
  have C2 := hide (fun W => szN a2 n2 c2 (m - (n0 : Int) - (n1 : Int)) (by omega) W h2)
  by_cases t2 : m - (n0 : Int) - (n1 : Int) - (n2 : Int) < 0
  · have HE := hide (lf_neg (m := m) (s := n0 + n1 + n2 + n3) (by omega))
    rw [if_pos t2] at C2
    generalize lf m (n0 + n1 + n2 + n3) = R at *
    go_enter Try.func33, Try.ntmps33
    go_wp2_with fail
    refine ((unhide C0) _).mono ?_
    rintro e w1 ⟨rfl, e1⟩
    have e2 := e1.symm
    subst e2
    clear e1
    go_wp2_with fail
    refine ((unhide C1) _).mono ?_
    rintro e w1 ⟨rfl, e1⟩
    have e2 := e1.symm
    subst e2
    clear e1
    go_wp2_with fail
    refine ((unhide C2) _).mono ?_
    rintro e w1 ⟨rfl, e1⟩
    have e2 := e1.symm
    subst e2
    clear e1
    go_wp2
    go_ret
    exact ⟨by rw [unhide HE]; rfl, unhide B1⟩
  rw [if_neg t2] at C2
  have C3 := hide (fun W => szN a3 n3 c3 (m - (n0 : Int) - (n1 : Int) - (n2 : Int)) (by omega) W h3)
  obtain ⟨R, hR⟩ : ∃ R, (if m - (n0 : Int) - (n1 : Int) - (n2 : Int) - (n3 : Int) < 0 then (-1 : Int) else m - (n0 : Int) - (n1 : Int) - (n2 : Int) - (n3 : Int)) = R := ⟨_, rfl⟩
  have HE : Hid (lf m (n0 + n1 + n2 + n3) = R) := hide (by
    rw [← hR]
    by_cases t3 : m - (n0 : Int) - (n1 : Int) - (n2 : Int) - (n3 : Int) < 0
    · rw [if_pos t3, lf_neg (by omega)]
    · rw [if_neg t3, lf_pos (by omega)]; omega)
  have hR1 : R = -1 ∨ 0 ≤ R := by
    by_cases t3 : m - (n0 : Int) - (n1 : Int) - (n2 : Int) - (n3 : Int) < 0
    · rw [if_pos t3] at hR; omega
    · rw [if_neg t3] at hR; omega
  rw [hR] at C3
  rw [unhide HE]
  clear hR HE
  rcases hR1 with rfl | hR1
  all_goals
    go_enter Try.func33, Try.ntmps33
    go_wp2_with fail
    refine ((unhide C0) _).mono ?_
    rintro e w1 ⟨rfl, e1⟩
    have e2 := e1.symm
    subst e2
    clear e1
    go_wp2_with fail
    refine ((unhide C1) _).mono ?_
    rintro e w1 ⟨rfl, e1⟩
    have e2 := e1.symm
    subst e2
    clear e1
    go_wp2_with fail
    refine ((unhide C2) _).mono ?_
    rintro e w1 ⟨rfl, e1⟩
    have e2 := e1.symm
    subst e2
    clear e1
    go_wp2_with fail
    refine ((unhide C3) _).mono ?_
    rintro e w1 ⟨rfl, e1⟩
    have e2 := e1.symm
    subst e2
    clear e1
    go_wp2
    go_ret
    exact ⟨rfl, unhide B1⟩
/-- How many numbers the first k rules have. -/
def sz4 (Q : List (List Int)) (i : Nat) : Nat := (qn Q (i * 4)).length + (qn Q (i * 4 + 1)).length + (qn Q (i * 4 + 2)).length + (qn Q (i * 4 + 3)).length
def szk (Q : List (List Int)) : Nat → Nat
  | 0 => 0
  | k + 1 => szk Q k + sz4 Q k
theorem szk_mono (Q : List (List Int)) (i k : Nat) (h : i ≤ k) : szk Q i ≤ szk Q k := by
  induction k with
  | zero => obtain rfl : i = 0 := by omega
            exact Nat.le_refl _
  | succ k ih =>
    by_cases e : i = k + 1
    · subst e; exact Nat.le_refl _
    · have := ih (by omega)
      have e2 : szk Q (k + 1) = szk Q k + sz4 Q k := rfl
      omega
theorem szk_up (Q : List (List Int)) (i k : Nat) (h : i < k) : sz4 Q i ≤ szk Q k := by
  have := szk_mono Q (i + 1) k (by omega)
  have e2 : szk Q (i + 1) = szk Q i + sz4 Q i := rfl
  omega
def AllB (Q : List (List Int)) (m : Nat) : Prop := ∀ k, (qn Q k).length ≤ m
set_option maxRecDepth 100000 in
set_option maxHeartbeats 4000000 in
theorem szRules_any (m0 : Int) (hm0 : 0 ≤ m0 ∧ m0 ≤ 1048576) (v : Value) (n : Nat) (Q : List (List Int)) (w : World) (hv : RuI w v n Q) (hn : n ≤ 9223372036854775807) (hsz : AllB Q 9223372036854775807) :
    Calls Try.prog 10 #[v, .int .i64 m0] w fun e w' => e = .returned (.int .i64 (lf m0 (n + szk Q n))) ∧ Below w.heap.size w w' := by
  obtain ⟨a, cap, rfl, hf⟩ := hv.form
  have HV := hide hf
  have HZ := hide hsz
  clear hv hsz hf
  by_cases h0 : (m0 : Int) - (n : Int) < 0
  · have HE := hide (lf_neg (m := m0) (s := n + szk Q n) (by omega))
    generalize lf m0 (n + szk Q n) = R at *
    go_enter Try.func10, Try.ntmps10
    go_wp2
    go_ret
    exact ⟨by rw [unhide HE]; rfl, Below.refl _ _⟩
  · have HN := hide (fun h => lf_neg (m := m0) (s := n + szk Q n) h)
    have HP := hide (fun h => lf_pos (m := m0) (s := n + szk Q n) h)
    have HM := hide (fun i h => szk_mono Q i n h)
    have HU := hide (fun k => (show szk Q (k + 1) = szk Q k + sz4 Q k from rfl))
    generalize lf m0 (n + szk Q n) = R at *
    go_enter Try.func10, Try.ntmps10
    go_wp2
    go_loopw [1, 5] (fun lv iv wr => ∃ k : Nat, k ≤ n ∧ iv = .int .i64 k ∧ lv = .int .i64 (m0 - (n : Int) - (szk Q k : Int)) ∧ (szk Q k : Int) ≤ m0 - (n : Int) ∧ Hid (Below w.heap.size w wr)) (fun _ iv _ => n - (intOf iv).toNat)
    case atStart => exact ⟨0, Nat.zero_le _, rfl, by simp [szk], by simp [szk]; omega, hide (Below.refl _ _)⟩
    case round =>
      obtain ⟨k, hk, rfl, rfl, hle, HB⟩ := hrel
      by_cases hlt : k < n
      · have hlt' : (k : Int) < (n : Int) := by omega
        obtain ⟨b, off, rfl, hbs, u0, u1, u2, u3, ⟨x0, x1, x2, x3⟩, i0, i1, i2, i3⟩ := (unhide HV) k hlt
        have d0 := ((unhide HB).cell (p := ⟨b, off + k * 4, none⟩) hbs).trans x0
        have d1 := ((unhide HB).cell (p := ⟨b, off + k * 4 + 1, none⟩) hbs).trans x1
        have d2 := ((unhide HB).cell (p := ⟨b, off + k * 4 + 2, none⟩) hbs).trans x2
        have d3 := ((unhide HB).cell (p := ⟨b, off + k * 4 + 3, none⟩) hbs).trans x3
        obtain ⟨a0, c0, rfl⟩ := ints_form i0
        obtain ⟨a1, c1, rfl⟩ := ints_form i1
        obtain ⟨a2, c2, rfl⟩ := ints_form i2
        obtain ⟨a3, c3, rfl⟩ := ints_form i3
        have C := hide (fun W => szRule_any a0 a1 a2 a3 (qn Q (k * 4)).length (qn Q (k * 4 + 1)).length (qn Q (k * 4 + 2)).length (qn Q (k * 4 + 3)).length c0 c1 c2 c3 (m0 - (n : Int) - (szk Q k : Int)) W (by omega) ((unhide HZ) _) ((unhide HZ) _) ((unhide HZ) _) ((unhide HZ) _))
        have hs := (unhide HU) k
        unfold sz4 at hs
        have hm := (unhide HM) (k + 1) (by omega)
        have hBs := (unhide HB).size
        clear x0 x1 x2 x3 i0 i1 i2 i3
        generalize (qn Q (k * 4)).length = l0 at *
        generalize (qn Q (k * 4 + 1)).length = l1 at *
        generalize (qn Q (k * 4 + 2)).length = l2 at *
        generalize (qn Q (k * 4 + 3)).length = l3 at *
        by_cases hq : m0 - (n : Int) - (szk Q k : Int) - ((l0 + l1 + l2 + l3 : Nat) : Int) < 0
        · rw [lf_neg hq] at C
          have HE2 : Hid (R = -1) := hide ((unhide HN) (by omega))
          go_wp2_with (go_at_call 33; refine ((unhide C) _).mono ?_; rintro e w1 ⟨rfl, hb1⟩; have B1 := hide ((unhide HB).trans (hb1.mono hBs)); clear hb1)
          go_ret
          exact ⟨by rw [unhide HE2]; rfl, unhide B1⟩
        · rw [lf_pos hq] at C
          have es : (m0 : Int) - (n : Int) - (szk Q k : Int) - ((l0 + l1 + l2 + l3 : Nat) : Int) = m0 - (n : Int) - (szk Q (k + 1) : Int) := by omega
          rw [es] at C hq
          have hle2 : (szk Q (k + 1) : Int) ≤ m0 - (n : Int) := by omega
          clear es hs hm
          go_wp2_with (go_at_call 33; refine ((unhide C) _).mono ?_; rintro e w1 ⟨rfl, hb1⟩; have B1 := hide ((unhide HB).trans (hb1.mono hBs)); clear hb1)
          go_roundw
          case rel => exact ⟨k + 1, by omega, by go_num, rfl, hle2, B1⟩
          case measure => simp [intOf]; omega
      · obtain rfl : k = n := by omega
        have HE2 : Hid (R = m0 - (k : Int) - (szk Q k : Int)) := hide (by rw [(unhide HP) (by omega)]; omega)
        go_wp2
        go_ret
        exact ⟨by rw [unhide HE2]; rfl, unhide HB⟩
theorem fits_all {n : Nat} {Q : List (List Int)} (hl : Q.length = n * 4) (h : ¬ lf 1048576 (n + szk Q n) < 0) : n ≤ 1048576 ∧ AllB Q 1048576 ∧ ((n + szk Q n : Nat) : Int) ≤ 1048576 := by
  by_cases c : (1048576 : Int) - ((n + szk Q n : Nat) : Int) < 0
  · rw [lf_neg c] at h; omega
  · refine ⟨by omega, fun k => ?_, by omega⟩
    by_cases hk : k < n * 4
    · have h1 := szk_up Q (k / 4) n (by omega)
      unfold sz4 at h1
      have h2 : k = k / 4 * 4 ∨ k = k / 4 * 4 + 1 ∨ k = k / 4 * 4 + 2 ∨ k = k / 4 * 4 + 3 := by omega
      rcases h2 with e | e | e | e <;> rw [e] <;> omega
    · have : qn Q k = [] := by unfold qn; rw [List.getD_eq_getElem?_getD, List.getElem?_eq_none (by omega)]; rfl
      rw [this]; simp
end Go.Proofs.Ytccnjjkechdknaa.Frl
