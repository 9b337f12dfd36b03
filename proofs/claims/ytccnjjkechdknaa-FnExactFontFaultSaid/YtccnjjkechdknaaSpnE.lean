/- Spans that are alike; marks written into spans that the call owns, and found there again. -/
import Derived.Test.YtccnjjkechdknaaSpnB
namespace Go.Proofs.Ytccnjjkechdknaa
open Go.RowKit
theorem eqSpan_any (x y z : Int) (w : World) : Calls Try.prog 49 #[.agg #[.int .i64 x, .int .i64 y, .int .i64 z], .agg #[.int .i64 x, .int .i64 y, .int .i64 z]] w fun e w' => e = .returned (.bool true) ∧ Below w.heap.size w w' := by
  have h1 : (x != x) = false := by simp
  have h2 : (y != y) = false := by simp
  have h3 : (z != z) = false := by simp
  go_enter Try.func49, Try.ntmps49
  go_wp2
  go_ret
  exact ⟨rfl, ((Below.refl _ _).alloc (Nat.le_refl _) _).alloc (by simp) _⟩
theorem drew_below (w : World) : Below w.heap.size w w.drew := ⟨rfl, rfl, rfl, Nat.le_refl _, fun _ _ => rfl⟩
set_option maxHeartbeats 4000000 in
set_option maxRecDepth 100000 in
theorem eqSpans (v1 v2 : Value) (L : List Sp) (B1 B2 : Nat) (w : World) (h1 : SpRow w B1 v1 L) (h2 : SpRow w B2 v2 L) (hl : L.length ≤ 1048576) :
    Calls Try.prog 31 #[v1, v2] w fun e w' => e = .returned (.bool true) ∧ Below w.heap.size w w' := by
  obtain ⟨a1, c1, rfl, hg1⟩ := h1.form
  obtain ⟨a2, c2, rfl, hg2⟩ := h2.form
  have H1 := hide h1
  have H2 := hide h2
  have G1 := hide hg1
  have G2 := hide hg2
  clear h1 h2 hg1 hg2
  have hne : ((L.length : Int) != (L.length : Int)) = false := by simp
  go_enter Try.func31, Try.ntmps31
  go_wp2
  go_loopw [5] (fun i wr => ∃ k : Nat, k ≤ L.length ∧ i = .int .i64 k ∧ Hid (Below w.heap.size w wr)) (fun i _ => L.length - (intOf i).toNat)
  case atStart => exact ⟨0, Nat.zero_le _, rfl, hide (Below.refl _ _)⟩
  case round =>
    obtain ⟨k, hk, rfl, HB⟩ := hrel
    by_cases hlt : k < L.length
    · obtain ⟨g1, rfl, _, _⟩ := (unhide G1) (by omega)
      obtain ⟨g2, rfl, _, _⟩ := (unhide G2) (by omega)
      obtain ⟨x0, x1, x2⟩ := ((unhide H1).below (unhide HB)).read k hlt
      obtain ⟨y0, y1, y2⟩ := ((unhide H2).below (unhide HB)).read k hlt
      have hlt' : (k : Int) < (L.length : Int) := by omega
      have h0k : (0 : Int) ≤ (k : Int) := by omega
      generalize gx L k = r at *
      go_wp2_with fail
      go_region_with (go_at_call 49; refine (eqSpan_any _ _ _ _).mono ?_; rintro e w2 ⟨rfl, hb2⟩)
      all_goals
        have HB' := hide ((unhide HB).trans (((drew_below wr).trans hb2).mono (unhide HB).size))
        clear hb2
        go_wp2
        go_roundw
        case rel => exact ⟨k + 1, by omega, by go_num, HB'⟩
        case measure => simp [intOf]; omega
    · go_wp2
      go_ret
      exact ⟨rfl, unhide HB⟩
def fl (L : List Sp) : List Int := L.flatMap fun r => [r.1, r.2.1, r.2.2]
theorem cells_fl (L : List Sp) : cells L = (fl L).map (Value.int .i64) := by
  unfold cells fl
  rw [List.map_flatMap]
  rfl
theorem fl_len (L : List Sp) : (fl L).length = L.length * 3 := by
  have := cells_len L
  rw [cells_fl, List.length_map] at this
  exact this
/-- 1, 2, .. in the first k places of l. -/
def mkL (l : List Int) (k : Nat) : List Int := (List.range k).map (fun i : Nat => 1 + (i : Int)) ++ l.drop k
def sqL (n : Nat) : List Int := (List.range n).map (fun i : Nat => 1 + (i : Int))
theorem mkL_zero (l : List Int) : mkL l 0 = l := by simp [mkL]
theorem mkL_len (l : List Int) (k : Nat) (h : k ≤ l.length) : (mkL l k).length = l.length := by simp [mkL]; omega
theorem mkL_set (l : List Int) (k : Nat) (h : k < l.length) (f : Int → Value) : ((mkL l k).map f).set k (f (1 + (k : Int))) = (mkL l (k + 1)).map f := by
  rw [← List.map_set]
  congr 1
  unfold mkL
  have hk : ((List.range k).map (fun i : Nat => 1 + (i : Int))).length = k := by simp
  rw [List.set_append_right _ _ (by omega), hk, Nat.sub_self, List.drop_eq_getElem_cons h, List.set_cons_zero, List.range_succ, List.map_append, List.append_assoc]
  rfl
theorem mkL_all (l : List Int) : mkL l l.length = sqL l.length := by simp [mkL, sqL]
theorem sq_at (n k : Nat) (h : k < n) : ((sqL n).map (Value.int .i64))[k]? = some (.int .i64 (1 + (k : Int))) := by
  simp [sqL, h]
/-- A row of n spans at block g whose cells are l. -/
def Fl (w : World) (base g cap n : Nat) (l : List Int) : Prop := w.ownsRow base 79 3 (.slice (some ⟨g, 0, none⟩) n cap) n (l.map (Value.int .i64))
theorem Fl.at {w : World} {base g cap n : Nat} {l : List Int} (h : Fl w base g cap n l) (j : Nat) (hj : j < l.length) : ∃ x, w.cell? ⟨g, j, none⟩ = some x ∧ w.frozen? ⟨g, j, none⟩ = false := by
  have hn : (l.map (Value.int .i64)).length = n * 3 := h.1
  rw [List.length_map] at hn
  have := World.ownsRow.cellAt h j (by omega)
  rw [List.getElem?_eq_getElem (by simpa using hj)] at this
  exact ⟨_, this, World.ownsRow.frozenAt h j⟩
theorem Fl.mark {w : World} {base g cap n : Nat} {l : List Int} {k : Nat} (h : Fl w base g cap n (mkL l k)) (hk : k < l.length) (z : Int) (hz : z = 1 + (k : Int)) : Fl (w.setCell ⟨g, k, none⟩ (.int .i64 z)) base g cap n (mkL l (k + 1)) := by
  subst hz
  have := (World.ownsRow.stored h k (.int .i64 (1 + (k : Int)))).1
  rw [mkL_set l k hk] at this
  exact this
theorem Fl.sq {w : World} {base g cap n : Nat} (h : Fl w base g cap n (sqL (n * 3))) (j : Nat) (hj : j < n * 3) (z : Int) (hz : z = 1 + (j : Int)) : w.cell? ⟨g, j, none⟩ = some (.int .i64 z) := by
  rw [hz]
  exact (World.ownsRow.cellAt h j (by omega)).trans (sq_at (n * 3) j hj)
/-- A row of n spans that holds the marks. -/
def Marked (w : World) (B : Nat) (v : Value) (n : Nat) : Prop := ∃ a c, v = .slice a n c ∧ (n = 0 ∨ ∃ g, a = some ⟨g, 0, none⟩ ∧ Fl w B g c n (sqL (n * 3)))
theorem Marked.below {w w' : World} {B : Nat} {v : Value} {n : Nat} (h : Marked w B v n) (hb : Below w.heap.size w w') : Marked w' B v n := by
  obtain ⟨a, c, hv, h⟩ := h
  refine ⟨a, c, hv, h.imp_right ?_⟩
  rintro ⟨g, hg, hf⟩
  exact ⟨g, hg, ownsRow_below hf hb⟩
end Go.Proofs.Ytccnjjkechdknaa
