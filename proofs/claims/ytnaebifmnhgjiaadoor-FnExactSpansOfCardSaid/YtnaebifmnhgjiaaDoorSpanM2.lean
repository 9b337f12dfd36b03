/- Marks written into spans that the call owns, and found there again. -/
import Derived.Test.YtnaebifmnhgjiaaDoorSpanE2
namespace Go.Proofs.YtnaebifmnhgjiaaDoor
open Go.RowKit
def fl (L : List Sp) : List Int := L.flatMap fun r => [r.1, r.2.1, r.2.2]
theorem cells_fl (L : List Sp) : cells L = (fl L).map (Value.int .i64) := by
  unfold cells fl
  rw [List.map_flatMap]
  rfl
theorem fl_len (L : List Sp) : (fl L).length = L.length * 3 := by
  have := cells_len L
  rw [cells_fl, List.length_map] at this
  exact this
/-- 1, 2, .. in the first k places of l. -/
def mkL (l : List Int) (k : Nat) : List Int := (List.range k).map (fun i : Nat => 1 + (i : Int)) ++ l.drop k
def sqL (n : Nat) : List Int := (List.range n).map (fun i : Nat => 1 + (i : Int))
theorem mkL_zero (l : List Int) : mkL l 0 = l := by simp [mkL]
theorem mkL_len (l : List Int) (k : Nat) (h : k ≤ l.length) : (mkL l k).length = l.length := by simp [mkL]; omega
theorem mkL_set (l : List Int) (k : Nat) (h : k < l.length) (f : Int → Value) : ((mkL l k).map f).set k (f (1 + (k : Int))) = (mkL l (k + 1)).map f := by
  rw [← List.map_set]
  congr 1
  unfold mkL
  have hk : ((List.range k).map (fun i : Nat => 1 + (i : Int))).length = k := by simp
  rw [List.set_append_right _ _ (by omega), hk, Nat.sub_self, List.drop_eq_getElem_cons h, List.set_cons_zero, List.range_succ, List.map_append, List.append_assoc]
  rfl
theorem mkL_all (l : List Int) : mkL l l.length = sqL l.length := by simp [mkL, sqL]
theorem sq_at (n k : Nat) (h : k < n) : ((sqL n).map (Value.int .i64))[k]? = some (.int .i64 (1 + (k : Int))) := by
  simp [sqL, h]
/-- A row of n spans at block g whose cells are l. -/
def Fl (w : World) (base g cap n : Nat) (l : List Int) : Prop := w.ownsRow base 33 3 (.slice (some ⟨g, 0, none⟩) n cap) n (l.map (Value.int .i64))
theorem Fl.at {w : World} {base g cap n : Nat} {l : List Int} (h : Fl w base g cap n l) (j : Nat) (hj : j < l.length) : ∃ x, w.cell? ⟨g, j, none⟩ = some x ∧ w.frozen? ⟨g, j, none⟩ = false := by
  have hn : (l.map (Value.int .i64)).length = n * 3 := h.1
  rw [List.length_map] at hn
  have := World.ownsRow.cellAt h j (by omega)
  rw [List.getElem?_eq_getElem (by simpa using hj)] at this
  exact ⟨_, this, World.ownsRow.frozenAt h j⟩
theorem Fl.mark {w : World} {base g cap n : Nat} {l : List Int} {k : Nat} (h : Fl w base g cap n (mkL l k)) (hk : k < l.length) (z : Int) (hz : z = 1 + (k : Int)) : Fl (w.setCell ⟨g, k, none⟩ (.int .i64 z)) base g cap n (mkL l (k + 1)) := by
  subst hz
  have := (World.ownsRow.stored h k (.int .i64 (1 + (k : Int)))).1
  rw [mkL_set l k hk] at this
  exact this
set_option maxHeartbeats 4000000 in
theorem mark_at (base g cap n : Nat) (l : List Int) (w : World) (hl : l.length = n * 3) (hn : n ≤ 32768) (hbg : base ≤ g) (h : Fl w base g cap n l) :
    Calls Tryd.prog 23 #[.slice (some ⟨g, 0, none⟩) n cap, .int .i64 1] w fun e w' => e = .returned (.int .i64 (1 + ((n * 3 : Nat) : Int))) ∧ Fl w' base g cap n (sqL (n * 3)) ∧ Below base w w' := by
  have H := hide h
  clear h
  go_enter Tryd.func23, Tryd.ntmps23
  go_wp2
  go_loopw [1, 5] (fun m i wr => ∃ k : Nat, k ≤ n ∧ i = .int .i64 k ∧ m = .int .i64 (1 + (k : Int) * 3) ∧ Hid (Fl wr base g cap n (mkL l (k * 3))) ∧ Hid (Below base w wr)) (fun _ i _ => n - (intOf i).toNat)
  case atStart => exact ⟨0, Nat.zero_le _, rfl, rfl, hide (by rw [Nat.zero_mul, mkL_zero]; exact unhide H), hide (Below.refl _ _)⟩
  case round =>
    obtain ⟨k, hk, rfl, rfl, HO, HB⟩ := hrel
    clear H
    by_cases hlt : k < n
    · have hlt' : (k : Int) < (n : Int) := by omega
      have L0 : k * 3 < l.length := by omega
      have L1 : k * 3 + 1 < l.length := by omega
      have L2 : k * 3 + 2 < l.length := by omega
      have F1 := (unhide HO).mark L0 (1 + (k : Int) * 3) (by omega)
      have F2 := F1.mark L1 (1 + (k : Int) * 3 + 1) (by omega)
      have F3 := F2.mark L2 (1 + (k : Int) * 3 + 1 + 1) (by omega)
      obtain ⟨x0, p0, q0⟩ := (unhide HO).at (k * 3) (by rw [mkL_len _ _ (by omega)]; exact L0)
      obtain ⟨x1, p1, q1⟩ := F1.at (k * 3 + 1) (by rw [mkL_len _ _ (by omega)]; exact L1)
      obtain ⟨x2, p2, q2⟩ := F2.at (k * 3 + 2) (by rw [mkL_len _ _ (by omega)]; exact L2)
      have HO3 := hide F3
      have HB3 := hide ((((unhide HB).setCell (p := ⟨g, k * 3, none⟩) hbg (.int .i64 (1 + (k : Int) * 3))).setCell (p := ⟨g, k * 3 + 1, none⟩) hbg (.int .i64 (1 + (k : Int) * 3 + 1))).setCell (p := ⟨g, k * 3 + 2, none⟩) hbg (.int .i64 (1 + (k : Int) * 3 + 1 + 1)))
      clear F1 F2 F3
      go_wp2
      go_roundw
      case rel => exact ⟨k + 1, by omega, by go_num, by go_num, hide (by rw [Nat.add_mul]; exact unhide HO3), HB3⟩
      case measure => simp [intOf]; omega
    · obtain rfl : k = n := by omega
      go_wp2
      go_ret
      refine ⟨by go_num, ?_, unhide HB⟩
      have := unhide HO
      rw [← hl, mkL_all, hl] at this
      exact this
end Go.Proofs.YtnaebifmnhgjiaaDoor
