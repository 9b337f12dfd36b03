/- Marks found again; and the law of SpansOf. -/
import Derived.Test.YtnaebifmnhgjiaaDoorSpanM2
import Derived.Test.YtnaebifmnhgjiaaDoorSpanS2
namespace Go.Proofs.YtnaebifmnhgjiaaDoor
open Go.RowKit
theorem Fl.sq {w : World} {base g cap n : Nat} (h : Fl w base g cap n (sqL (n * 3))) (j : Nat) (hj : j < n * 3) (z : Int) (hz : z = 1 + (j : Int)) : w.cell? ⟨g, j, none⟩ = some (.int .i64 z) := by
  rw [hz]
  exact (World.ownsRow.cellAt h j (by omega)).trans (sq_at (n * 3) j hj)
set_option maxHeartbeats 4000000 in
theorem held_at (base g cap n : Nat) (w : World) (hn : n ≤ 32768) (h : Fl w base g cap n (sqL (n * 3))) :
    Calls Tryd.prog 24 #[.slice (some ⟨g, 0, none⟩) n cap, .int .i64 1] w fun e w' => e = .returned (.int .i64 (1 + (n : Int) * 3)) ∧ w' = w := by
  have H := hide h
  clear h
  go_enter Tryd.func24, Tryd.ntmps24
  go_wp2
  go_loop [1, 5] (fun m i => ∃ k : Nat, k ≤ n ∧ i = .int .i64 k ∧ m = .int .i64 (1 + (k : Int) * 3)) (fun _ i => n - (intOf i).toNat)
  case atStart => exact ⟨0, Nat.zero_le _, rfl, rfl⟩
  case round =>
    obtain ⟨k, hk, rfl, rfl⟩ := hrel
    by_cases hlt : k < n
    · have hlt' : (k : Int) < (n : Int) := by omega
      have r0 := (unhide H).sq (k * 3) (by omega) (1 + (k : Int) * 3) (by omega)
      have r1 := (unhide H).sq (k * 3 + 1) (by omega) (1 + (k : Int) * 3 + 1) (by omega)
      have r2 := (unhide H).sq (k * 3 + 2) (by omega) (1 + (k : Int) * 3 + 1 + 1) (by omega)
      have e0 : ((1 + (k : Int) * 3) != (1 + (k : Int) * 3)) = false := by simp
      have e1 : ((1 + (k : Int) * 3 + 1) != (1 + (k : Int) * 3 + 1)) = false := by simp
      have e2 : ((1 + (k : Int) * 3 + 1 + 1) != (1 + (k : Int) * 3 + 1 + 1)) = false := by simp
      go_wp2
      go_round
      case rel => exact ⟨k + 1, by omega, by go_num, by go_num⟩
      case measure => simp [intOf]; omega
    · obtain rfl : k = n := by omega
      go_wp2
      go_ret
      exact ⟨rfl, rfl⟩
theorem held_nil (a : Option Addr) (cap : Nat) (w : World) : Calls Tryd.prog 24 #[.slice a 0 cap, .int .i64 1] w fun e w' => e = .returned (.int .i64 1) ∧ w' = w := by
  go_enter Tryd.func24, Tryd.ntmps24
  go_wp2
  go_loop [1, 5] (fun m i => m = .int .i64 1 ∧ i = .int .i64 0) (fun _ _ => 0)
  case atStart => exact ⟨rfl, rfl⟩
  case round =>
    obtain ⟨rfl, rfl⟩ := hrel
    go_wp2
    go_ret
    exact ⟨rfl, rfl⟩
theorem mark_nil (a : Option Addr) (cap : Nat) (w : World) : Calls Tryd.prog 23 #[.slice a 0 cap, .int .i64 1] w fun e w' => e = .returned (.int .i64 1) ∧ w' = w := by
  go_enter Tryd.func23, Tryd.ntmps23
  go_wp2
  go_loop [1, 5] (fun m i => m = .int .i64 1 ∧ i = .int .i64 0) (fun _ _ => 0)
  case atStart => exact ⟨rfl, rfl⟩
  case round =>
    obtain ⟨rfl, rfl⟩ := hrel
    go_wp2
    go_ret
    exact ⟨rfl, rfl⟩
/-- A row of n spans that holds the marks. -/
def Marked (w : World) (B : Nat) (v : Value) (n : Nat) : Prop := ∃ a c, v = .slice a n c ∧ (n = 0 ∨ ∃ g, a = some ⟨g, 0, none⟩ ∧ Fl w B g c n (sqL (n * 3)))
theorem Marked.below {w w' : World} {B : Nat} {v : Value} {n : Nat} (h : Marked w B v n) (hb : Below w.heap.size w w') : Marked w' B v n := by
  obtain ⟨a, c, hv, h⟩ := h
  refine ⟨a, c, hv, h.imp_right ?_⟩
  rintro ⟨g, hg, hf⟩
  exact ⟨g, hg, ownsRow_below hf hb⟩
theorem markV (B : Nat) (v : Value) (L : List Sp) (w : World) (h : SpRow w B v L) (hl : L.length ≤ 32768) :
    Calls Tryd.prog 23 #[v, .int .i64 1] w fun e w' => e = .returned (.int .i64 (1 + (L.length : Int) * 3)) ∧ Marked w' B v L.length ∧ Below B w w' := by
  obtain ⟨a, c, rfl, hg⟩ := h.form
  by_cases h0 : L.length = 0
  · rw [h0]
    refine (mark_nil a c w).mono ?_
    rintro e w' ⟨rfl, rfl⟩
    exact ⟨by simp, ⟨a, c, rfl, .inl rfl⟩, Below.refl _ _⟩
  · obtain ⟨g, rfl, hgB, _⟩ := hg (by omega)
    have hF : Fl w B g c L.length (fl L) := by
      unfold Fl
      rw [← cells_fl]
      exact h
    refine (mark_at B g c L.length (fl L) w (fl_len L) hl hgB hF).mono ?_
    rintro e w' ⟨rfl, hm, hb⟩
    exact ⟨ret_int (by omega), ⟨_, c, rfl, .inr ⟨g, rfl, hm⟩⟩, hb⟩
theorem heldV (B : Nat) (v : Value) (n : Nat) (w : World) (h : Marked w B v n) (hn : n ≤ 32768) :
    Calls Tryd.prog 24 #[v, .int .i64 1] w fun e w' => e = .returned (.int .i64 (1 + (n : Int) * 3)) ∧ w' = w := by
  obtain ⟨a, c, rfl, h⟩ := h
  by_cases h0 : n = 0
  · subst h0
    refine (held_nil a c w).mono ?_
    rintro e w' ⟨rfl, rfl⟩
    exact ⟨by simp, rfl⟩
  · rcases h with h | ⟨g, rfl, hf⟩
    · exact absurd h h0
    · exact held_at B g c n w hn hf
/-- The one list. -/
def RunsK (k : Int) (L : List Sp) : Prop := (1 ≤ k ∧ k ≤ 4 ∧ RunsR (valW k) L.reverse 32768) ∨ (¬ (1 ≤ k ∧ k ≤ 4) ∧ L = [])
theorem runsK_one {k : Int} {L L' : List Sp} (h : RunsK k L) (h' : RunsK k L') : L = L' := by
  rcases h with ⟨a, b, h⟩ | ⟨n, h⟩
  · rcases h' with ⟨_, _, h'⟩ | ⟨n, _⟩
    · have := runs_one _ _ _ _ h h'
      have := congrArg List.reverse this
      simpa using this
    · exact absurd ⟨a, b⟩ n
  · rcases h' with ⟨a, b, _⟩ | ⟨_, h'⟩
    · exact absurd ⟨a, b⟩ n
    · rw [h, h']
theorem implAny (k : Int) (w : World) (ht : TabAt w) :
    Calls Tryd.prog 21 #[.int .i64 k] w fun e w' => ∃ (v : Value) (L : List Sp), e = .returned v ∧ RunsK k L ∧ L.length ≤ 32768 ∧ SpRow w' w.heap.size v L ∧ Below w.heap.size w w' := by
  by_cases hk : 1 ≤ k ∧ k ≤ 4
  · refine (implSpans k hk w ht).mono ?_
    rintro e w' ⟨v, L, he, hr, hl, hs, hb⟩
    exact ⟨v, L, he, .inl ⟨hk.1, hk.2, hr⟩, hl, hs, hb⟩
  · have HK := hide hk
    have hk' : k < 1 ∨ (¬ k < 1 ∧ 4 < k) := by omega
    clear hk
    rcases hk' with h | ⟨h1, h2⟩
    all_goals
      go_enter Tryd.func21, Tryd.ntmps21
      go_wp2
      go_ret
      first | exact ⟨_, [], rfl, .inr ⟨unhide HK, rfl⟩, by simp, World.ownsRow_nil _ _ _ _, (Below.refl _ _).alloc (Nat.le_refl _) _⟩ | exact ⟨_, rfl, [], .inr ⟨unhide HK, rfl⟩, by simp, World.ownsRow_nil _ _ _ _, (Below.refl _ _).alloc (Nat.le_refl _) _⟩
theorem specAny (k : Int) (w : World) :
    Calls Tryd.prog 20 #[.int .i64 k] w fun e w' => ∃ (v : Value) (L : List Sp), e = .returned v ∧ RunsK k L ∧ L.length ≤ 32768 ∧ SpRow w' w.heap.size v L ∧ Below w.heap.size w w' := by
  by_cases hk : 1 ≤ k ∧ k ≤ 4
  · refine (specSpans k hk w).mono ?_
    rintro e w' ⟨v, L, he, hr, hl, hs, hb⟩
    exact ⟨v, L, he, .inl ⟨hk.1, hk.2, hr⟩, hl, hs, hb⟩
  · have HK := hide hk
    have hk' : k < 1 ∨ (¬ k < 1 ∧ 4 < k) := by omega
    clear hk
    rcases hk' with h | ⟨h1, h2⟩
    all_goals
      go_enter Tryd.func20, Tryd.ntmps20
      go_wp2
      go_ret
      first | exact ⟨_, [], rfl, .inr ⟨unhide HK, rfl⟩, by simp, World.ownsRow_lit w #[] 0 (Nat.le_refl _) (by unfold maxLen; omega) rfl, (Below.refl _ _).alloc (Nat.le_refl _) _⟩ | exact ⟨_, rfl, [], .inr ⟨unhide HK, rfl⟩, by simp, World.ownsRow_lit w #[] 0 (Nat.le_refl _) (by unfold maxLen; omega) rfl, (Below.refl _ _).alloc (Nat.le_refl _) _⟩
set_option maxHeartbeats 4000000 in
theorem lawSpansOf (k : Int) (w : World) (ht : TabAt w) : Calls Tryd.prog 4 #[.int .i64 k] w fun e w' => e = .returned (.bool true) ∧ Below w.heap.size w w' := by
  have HT := hide ht
  clear ht
  go_enter Tryd.func4, Tryd.ntmps4
  go_wp2_with fail
  refine (specAny k _).mono ?_
  rintro e w1 ⟨vs, L, rfl, hr, hl, hs, hb⟩
  have HR := hide hr
  have S1 := hide hs
  have B1 := hide hb
  clear hr hs hb
  go_wp2_with fail
  refine (implAny k _ ((unhide HT).below (unhide B1))).mono ?_
  rintro e w2 ⟨vg, L2, rfl, hr, _, hs, hb⟩
  obtain rfl := runsK_one (unhide HR) hr
  have G2 := hide hs
  have C2 := hide hb
  clear hr hs hb
  go_wp2_with fail
  refine (eqSpans _ _ L _ _ _ (unhide G2) ((unhide S1).below (unhide C2)) hl).mono ?_
  rintro e w3 ⟨rfl, hb⟩
  have G3 := hide ((unhide G2).below hb)
  have C3 := hide ((unhide C2).trans (hb.mono (unhide C2).size))
  clear hb G2 C2
  go_wp2_with fail
  refine (markV _ _ L _ (unhide G3) hl).mono ?_
  rintro e w4 ⟨rfl, hm, hb⟩
  have M4 := hide hm
  have C4 := hide ((unhide C3).trans hb)
  clear hm hb G3 C3
  go_wp2_with fail
  refine (heldV _ _ L.length _ (unhide M4) hl).mono ?_
  rintro e w5 ⟨rfl, rfl⟩
  have hne : ((1 + (L.length : Int) * 3) != (1 + (L.length : Int) * 3)) = false := by simp
  have hpos : ¬ (1 + (L.length : Int) * 3) < 0 := by omega
  have B4 := hide ((unhide B1).trans ((unhide C4).mono (unhide B1).size))
  go_wp2_with fail
  refine (implAny k _ ((unhide HT).below (unhide B4))).mono ?_
  rintro e w6 ⟨vh, L3, rfl, hr, _, hs, hb⟩
  obtain rfl := runsK_one (unhide HR) hr
  have H6 := hide hs
  have M6 := hide ((unhide M4).below hb)
  have S6 := hide (((unhide S1).below (unhide C4)).below hb)
  have B6 := hide ((unhide B4).trans (hb.mono (unhide B4).size))
  clear hr hs hb M4
  go_wp2_with fail
  refine (eqSpans _ _ L _ _ _ (unhide H6) (unhide S6) hl).mono ?_
  rintro e w7 ⟨rfl, hb⟩
  have M7 := hide ((unhide M6).below hb)
  have B7 := hide ((unhide B6).trans (hb.mono (unhide B6).size))
  clear hb M6
  go_wp2_with fail
  refine (heldV _ _ L.length _ (unhide M7) hl).mono ?_
  rintro e w8 ⟨rfl, rfl⟩
  go_wp2
  go_ret
  exact ⟨rfl, unhide B7⟩
end Go.Proofs.YtnaebifmnhgjiaaDoor
