/- Spans that are alike; marks written into spans that the call owns, and found there again. -/
import Derived.Test.YtnfdkcphmolkiaaSpnB
namespace Go.Proofs.Ytnfdkcphmolkiaa
open Go.RowKit
theorem eqSpan_any (x y z : Int) (w : World) : Calls Try.prog 58 #[.agg #[.int .i64 x, .int .i64 y, .int .i64 z], .agg #[.int .i64 x, .int .i64 y, .int .i64 z]] w fun e w' => e = .returned (.bool true) ∧ Below w.heap.size w w' := by
  have h1 : (x != x) = false := by simp
  have h2 : (y != y) = false := by simp
  have h3 : (z != z) = false := by simp
  go_enter Try.func58, Try.ntmps58
  go_wp2
  go_ret
  exact ⟨rfl, ((Below.refl _ _).alloc (Nat.le_refl _) _).alloc (by simp) _⟩
theorem drew_below (w : World) : Below w.heap.size w w.drew := ⟨rfl, rfl, rfl, Nat.le_refl _, fun _ _ => rfl⟩
set_option maxHeartbeats 4000000 in
set_option maxRecDepth 100000 in
theorem eqSpans (v1 v2 : Value) (L : List Sp) (B1 B2 : Nat) (w : World) (h1 : SpRow w B1 v1 L) (h2 : SpRow w B2 v2 L) (hl : L.length ≤ 1048576) :
    Calls Try.prog 25 #[v1, v2] w fun e w' => e = .returned (.bool true) ∧ Below w.heap.size w w' := by
  obtain ⟨a1, c1, rfl, hg1⟩ := h1.form
  obtain ⟨a2, c2, rfl, hg2⟩ := h2.form
  have H1 := hide h1
  have H2 := hide h2
  have G1 := hide hg1
  have G2 := hide hg2
  clear h1 h2 hg1 hg2
  have hne : ((L.length : Int) != (L.length : Int)) = false := by simp
  go_enter Try.func25, Try.ntmps25
  go_wp2
  go_loopw [5] (fun i wr => ∃ k : Nat, k ≤ L.length ∧ i = .int .i64 k ∧ Hid (Below w.heap.size w wr)) (fun i _ => L.length - (intOf i).toNat)
  case atStart => exact ⟨0, Nat.zero_le _, rfl, hide (Below.refl _ _)⟩
  case round =>
    obtain ⟨k, hk, rfl, HB⟩ := hrel
    by_cases hlt : k < L.length
    · obtain ⟨g1, rfl, _, _⟩ := (unhide G1) (by omega)
      obtain ⟨g2, rfl, _, _⟩ := (unhide G2) (by omega)
      obtain ⟨x0, x1, x2⟩ := ((unhide H1).below (unhide HB)).read k hlt
      obtain ⟨y0, y1, y2⟩ := ((unhide H2).below (unhide HB)).read k hlt
      have hlt' : (k : Int) < (L.length : Int) := by omega
      have h0k : (0 : Int) ≤ (k : Int) := by omega
      generalize gx L k = r at *
      go_wp2_with fail
      go_region_with (go_at_call 58; refine (eqSpan_any _ _ _ _).mono ?_; rintro e w2 ⟨rfl, hb2⟩)
      all_goals
        have HB' := hide ((unhide HB).trans (((drew_below wr).trans hb2).mono (unhide HB).size))
        clear hb2
        go_wp2
        go_roundw
        case rel => exact ⟨k + 1, by omega, by go_num, HB'⟩
        case measure => simp [intOf]; omega
    · go_wp2
      go_ret
      exact ⟨rfl, unhide HB⟩
def fl (L : List Sp) : List Int := L.flatMap fun r => [r.1, r.2.1, r.2.2]
theorem cells_fl (L : List Sp) : cells L = (fl L).map (Value.int .i64) := by
  unfold cells fl
  rw [List.map_flatMap]
  rfl
theorem fl_len (L : List Sp) : (fl L).length = L.length * 3 := by
  have := cells_len L
  rw [cells_fl, List.length_map] at this
  exact this
/-- 1, 2, .. in the first k places of l. -/
def mkL (l : List Int) (k : Nat) : List Int := (List.range k).map (fun i : Nat => 1 + (i : Int)) ++ l.drop k
def sqL (n : Nat) : List Int := (List.range n).map (fun i : Nat => 1 + (i : Int))
theorem mkL_zero (l : List Int) : mkL l 0 = l := by simp [mkL]
theorem mkL_len (l : List Int) (k : Nat) (h : k ≤ l.length) : (mkL l k).length = l.length := by simp [mkL]; omega
theorem mkL_set (l : List Int) (k : Nat) (h : k < l.length) (f : Int → Value) : ((mkL l k).map f).set k (f (1 + (k : Int))) = (mkL l (k + 1)).map f := by
  rw [← List.map_set]
  congr 1
  unfold mkL
  have hk : ((List.range k).map (fun i : Nat => 1 + (i : Int))).length = k := by simp
  rw [List.set_append_right _ _ (by omega), hk, Nat.sub_self, List.drop_eq_getElem_cons h, List.set_cons_zero, List.range_succ, List.map_append, List.append_assoc]
  rfl
theorem mkL_all (l : List Int) : mkL l l.length = sqL l.length := by simp [mkL, sqL]
theorem sq_at (n k : Nat) (h : k < n) : ((sqL n).map (Value.int .i64))[k]? = some (.int .i64 (1 + (k : Int))) := by
  simp [sqL, h]
/-- A row of n spans at block g whose cells are l. -/
def Fl (w : World) (base g cap n : Nat) (l : List Int) : Prop := w.ownsRow base 59 3 (.slice (some ⟨g, 0, none⟩) n cap) n (l.map (Value.int .i64))
theorem Fl.at {w : World} {base g cap n : Nat} {l : List Int} (h : Fl w base g cap n l) (j : Nat) (hj : j < l.length) : ∃ x, w.cell? ⟨g, j, none⟩ = some x ∧ w.frozen? ⟨g, j, none⟩ = false := by
  have hn : (l.map (Value.int .i64)).length = n * 3 := h.1
  rw [List.length_map] at hn
  have := World.ownsRow.cellAt h j (by omega)
  rw [List.getElem?_eq_getElem (by simpa using hj)] at this
  exact ⟨_, this, World.ownsRow.frozenAt h j⟩
theorem Fl.mark {w : World} {base g cap n : Nat} {l : List Int} {k : Nat} (h : Fl w base g cap n (mkL l k)) (hk : k < l.length) (z : Int) (hz : z = 1 + (k : Int)) : Fl (w.setCell ⟨g, k, none⟩ (.int .i64 z)) base g cap n (mkL l (k + 1)) := by
  subst hz
  have := (World.ownsRow.stored h k (.int .i64 (1 + (k : Int)))).1
  rw [mkL_set l k hk] at this
  exact this
set_option maxHeartbeats 4000000 in
theorem mark_at (base g cap n : Nat) (l : List Int) (w : World) (hl : l.length = n * 3) (hn : n ≤ 1048576) (hbg : base ≤ g) (h : Fl w base g cap n l) :
    Calls Try.prog 26 #[.slice (some ⟨g, 0, none⟩) n cap, .int .i64 1] w fun e w' => e = .returned (.int .i64 (1 + ((n * 3 : Nat) : Int))) ∧ Fl w' base g cap n (sqL (n * 3)) ∧ Below base w w' := by
  have H := hide h
  clear h
  go_enter Try.func26, Try.ntmps26
  go_wp2
  go_loopw [1, 5] (fun m i wr => ∃ k : Nat, k ≤ n ∧ i = .int .i64 k ∧ m = .int .i64 (1 + (k : Int) * 3) ∧ Hid (Fl wr base g cap n (mkL l (k * 3))) ∧ Hid (Below base w wr)) (fun _ i _ => n - (intOf i).toNat)
  case atStart => exact ⟨0, Nat.zero_le _, rfl, rfl, hide (by rw [Nat.zero_mul, mkL_zero]; exact unhide H), hide (Below.refl _ _)⟩
  case round =>
    obtain ⟨k, hk, rfl, rfl, HO, HB⟩ := hrel
    clear H
    by_cases hlt : k < n
    · have hlt' : (k : Int) < (n : Int) := by omega
      have L0 : k * 3 < l.length := by omega
      have L1 : k * 3 + 1 < l.length := by omega
      have L2 : k * 3 + 2 < l.length := by omega
      have F1 := (unhide HO).mark L0 (1 + (k : Int) * 3) (by omega)
      have F2 := F1.mark L1 (1 + (k : Int) * 3 + 1) (by omega)
      have F3 := F2.mark L2 (1 + (k : Int) * 3 + 1 + 1) (by omega)
      obtain ⟨x0, p0, q0⟩ := (unhide HO).at (k * 3) (by rw [mkL_len _ _ (by omega)]; exact L0)
      obtain ⟨x1, p1, q1⟩ := F1.at (k * 3 + 1) (by rw [mkL_len _ _ (by omega)]; exact L1)
      obtain ⟨x2, p2, q2⟩ := F2.at (k * 3 + 2) (by rw [mkL_len _ _ (by omega)]; exact L2)
      have HO3 := hide F3
      have HB3 := hide ((((unhide HB).setCell (p := ⟨g, k * 3, none⟩) hbg (.int .i64 (1 + (k : Int) * 3))).setCell (p := ⟨g, k * 3 + 1, none⟩) hbg (.int .i64 (1 + (k : Int) * 3 + 1))).setCell (p := ⟨g, k * 3 + 2, none⟩) hbg (.int .i64 (1 + (k : Int) * 3 + 1 + 1)))
      clear F1 F2 F3
      go_wp2
      go_roundw
      case rel => exact ⟨k + 1, by omega, by go_num, by go_num, hide (by rw [Nat.add_mul]; exact unhide HO3), HB3⟩
      case measure => simp [intOf]; omega
    · obtain rfl : k = n := by omega
      go_wp2
      go_ret
      refine ⟨by go_num, ?_, unhide HB⟩
      have := unhide HO
      rw [← hl, mkL_all, hl] at this
      exact this
theorem Fl.sq {w : World} {base g cap n : Nat} (h : Fl w base g cap n (sqL (n * 3))) (j : Nat) (hj : j < n * 3) (z : Int) (hz : z = 1 + (j : Int)) : w.cell? ⟨g, j, none⟩ = some (.int .i64 z) := by
  rw [hz]
  exact (World.ownsRow.cellAt h j (by omega)).trans (sq_at (n * 3) j hj)
theorem mark_nil (a : Option Addr) (cap : Nat) (w : World) : Calls Try.prog 26 #[.slice a 0 cap, .int .i64 1] w fun e w' => e = .returned (.int .i64 1) ∧ w' = w := by
  go_enter Try.func26, Try.ntmps26
  go_wp2
  go_loop [1, 5] (fun m i => m = .int .i64 1 ∧ i = .int .i64 0) (fun _ _ => 0)
  case atStart => exact ⟨rfl, rfl⟩
  case round =>
    obtain ⟨rfl, rfl⟩ := hrel
    go_wp2
    go_ret
    exact ⟨rfl, rfl⟩
/-- A row of n spans that holds the marks. -/
def Marked (w : World) (B : Nat) (v : Value) (n : Nat) : Prop := ∃ a c, v = .slice a n c ∧ (n = 0 ∨ ∃ g, a = some ⟨g, 0, none⟩ ∧ Fl w B g c n (sqL (n * 3)))
theorem Marked.below {w w' : World} {B : Nat} {v : Value} {n : Nat} (h : Marked w B v n) (hb : Below w.heap.size w w') : Marked w' B v n := by
  obtain ⟨a, c, hv, h⟩ := h
  refine ⟨a, c, hv, h.imp_right ?_⟩
  rintro ⟨g, hg, hf⟩
  exact ⟨g, hg, ownsRow_below hf hb⟩
theorem markV (B : Nat) (v : Value) (L : List Sp) (w : World) (h : SpRow w B v L) (hl : L.length ≤ 1048576) :
    Calls Try.prog 26 #[v, .int .i64 1] w fun e w' => e = .returned (.int .i64 (1 + (L.length : Int) * 3)) ∧ Marked w' B v L.length ∧ Below B w w' := by
  obtain ⟨a, c, rfl, hg⟩ := h.form
  by_cases h0 : L.length = 0
  · rw [h0]
    refine (mark_nil a c w).mono ?_
    rintro e w' ⟨rfl, rfl⟩
    exact ⟨by simp, ⟨a, c, rfl, .inl rfl⟩, Below.refl _ _⟩
  · obtain ⟨g, rfl, hgB, _⟩ := hg (by omega)
    have hF : Fl w B g c L.length (fl L) := by
      unfold Fl
      rw [← cells_fl]
      exact h
    refine (mark_at B g c L.length (fl L) w (fl_len L) hl hgB hF).mono ?_
    rintro e w' ⟨rfl, hm, hb⟩
    exact ⟨ret_int (by omega), ⟨_, c, rfl, .inr ⟨g, rfl, hm⟩⟩, hb⟩
end Go.Proofs.Ytnfdkcphmolkiaa
