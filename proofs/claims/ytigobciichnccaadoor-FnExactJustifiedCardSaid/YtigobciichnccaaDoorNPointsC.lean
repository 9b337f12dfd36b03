/- PointsOf of the program and of the specification answer with the points that the model's own reading gives. -/
import Derived.Test.YtigobciichnccaaDoorNNext
import Derived.Test.YtigobciichnccaaDoorIntA
import Derived.Lib.OthersKept
namespace Go.Proofs.YtigobciichnccaaDoor
open Go.RowKit
theorem owned_alloc {w : World} {base : Nat} {e : TypeId} {v : Value} {n : Nat} {xs : List Value} (h : w.ownsRow base e 1 v n xs) (o : Obj) : (w.alloc o).ownsRow base e 1 v n xs :=
  ownsRow_below h ((Below.refl _ _).alloc (Nat.le_refl _) o)
/-- One round: the point that was read is behind the others. -/
theorem pts_step {s : ByteArray} {n pos : Nat} {L : List Int} (h : steps s n = (L, pos)) (hp : pos < s.size) : steps s (n + 1) = (L ++ [(dP s pos : Int)], pos + dN s pos) := by
  have := steps_next s n (by rw [h]; exact hp)
  rw [h] at this
  exact this
theorem row_step {w wr w1 w2 : World} {base : Nat} {v v' : Value} {L : List Int} {p : Int} {o : Obj} (hb : Below base w wr) (hb1 : Below base wr w1) (hB : base ≤ w1.heap.size)
    (ho : w1.ownsRow base 2 1 v L.length (L.map (Value.int .i64)))
    (ho2 : w2.ownsRow base 2 1 v' (L.length + 1) (L.map (Value.int .i64) ++ [.int .i64 p])) (hg : (w1.alloc o).grownBy w2 v.ownBlock) :
    w2.ownsRow base 2 1 v' (L ++ [p]).length ((L ++ [p]).map (Value.int .i64)) ∧ Below base w w2 := by
  refine ⟨?_, ((hb.trans hb1).alloc hB o).grown hg (by simp; omega) (fun j hj => (ho.lt j hj).1)⟩
  rw [List.length_append, List.map_append]
  exact ho2
set_option maxHeartbeats 1000000 in
theorem l01Points (s : ByteArray) (w : World) (hs : s.size ≤ 131072) :
    Calls Tryd.prog 35 #[.string s] w fun e w' => ∃ v, e = .returned v ∧ w'.ownsRow w.heap.size 2 1 v (pts s).length ((pts s).map (Value.int .i64)) ∧ Below w.heap.size w w' := by
  obtain ⟨i0, hi, hz0, hz1, hz2⟩ := info_parts info2
  have HO0 : Hid ((w.alloc (.cells #[] 2)).ownsRow w.heap.size 2 1 (.slice (some ⟨w.heap.size, 0, none⟩) 0 0) ([] : List Int).length (([] : List Int).map (Value.int .i64))) := hide (World.ownsRow_lit w #[] 0 (Nat.le_refl _) (by unfold maxLen; omega) rfl)
  have HB0 : Hid (Below w.heap.size w (w.alloc (.cells #[] 2))) := hide ((Below.refl _ _).alloc (Nat.le_refl _) _)
  go_enter Tryd.func35, Tryd.ntmps35
  go_wp2
  go_loopw [3, 4] (fun v i wr => ∃ (n : Nat) (L : List Int) (pos : Nat), Hid (steps s n = (L, pos)) ∧ i = .int .i64 pos ∧ pos ≤ s.size ∧ L.length ≤ pos ∧ Hid (wr.ownsRow w.heap.size 2 1 v L.length (L.map (Value.int .i64))) ∧ Hid (Below w.heap.size w wr)) (fun _ i _ => s.size - (intOf i).toNat)
  case atStart => exact ⟨0, [], 0, hide rfl, rfl, by omega, by simp, HO0, HB0⟩
  case round =>
    obtain ⟨n, L, pos, HS, rfl, hpos, hL, HO, HB⟩ := hrel
    clear HO0 HB0
    by_cases hlt : pos < s.size
    · have hbd := dN_bd s pos hlt
      have d1 := hbd.1
      have d2 := hbd.2.1
      have hBs := (unhide HB).size
      have HS' := hide (pts_step (unhide HS) hlt)
      clear hbd
      go_wp2_with (first | (go_at_call 46; refine (next_any s pos _ hlt (by omega)).mono ?_; rintro e w1 ⟨⟨ok, rfl⟩, hb1⟩; have hb1s := hb1.size; have HB1 := hide hb1; clear hb1; have HO1 := hide (ownsRow_below (unhide HO) (unhide HB1))) | (at_builtin; refine wpList_append_own _ rfl _ _ 29 rfl w.heap.size 2 i0 (.int .i64 0) 1 8 Tryd.underlying29 hi hz0 hz1 hz2 rfl (by decide) _ _ _ rfl (owned_alloc (unhide HO1) _) ⟨w1.heap.size, 0, none⟩ 1 1 [.int .i64 (dP s pos)] rfl rfl ?c1 ?c2 ?c3 ?c4 ?c5 ?_))
      case c1 => exact cell_one_new _ _ _
      case c2 => intro u hu; simp at hu; subst hu; rfl
      case c3 => unfold maxLen; omega
      case c4 => omega
      case c5 => simp; omega
      intro v' w2 hown' hgrow _
      have R := hide (row_step (unhide HB) ((unhide HB1).mono hBs) (by omega) (unhide HO1) hown' hgrow)
      clear hown' hgrow
      go_wp2
      go_roundw
      case rel => exact ⟨n + 1, L ++ [(dP s pos : Int)], pos + dN s pos, HS', by go_num, by omega, by simp; omega, hide (unhide R).1, hide (unhide R).2⟩
      case measure => simp [intOf]; omega
    · go_wp2
      go_ret
      have e := steps_pts s n (by rw [unhide HS]; show s.size ≤ pos; omega)
      rw [unhide HS] at e
      have e' : L = pts s := e
      exact ⟨_, rfl, by rw [← e']; exact unhide HO, unhide HB⟩
/-- The points of a text: none where it is too long. -/
def ptsOut (s : ByteArray) : List Int := if 65536 < s.size then [] else pts s
theorem pts_le (s : ByteArray) : (pts s).length ≤ s.size := by have := steps_le s s.size; unfold pts; omega
theorem ptsOut_le (s : ByteArray) : (ptsOut s).length ≤ 65536 := by
  unfold ptsOut
  split
  · simp
  · have := pts_le s; omega
end Go.Proofs.YtigobciichnccaaDoor
