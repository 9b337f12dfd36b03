/- Columns: the cells of a row, as the specification cuts them. -/
import Derived.Test.YtnmlfgnnhhaeoaaDoorClmC
import Derived.WalkSmall
namespace Go.Proofs.YtnmlfgnnhhaeoaaDoor
namespace Clm
open Go.RowKit
set_option linter.unusedVariables false
set_option linter.unusedSimpArgs false
theorem own_allocC {w : World} {base : Nat} {e : TypeId} {v : Value} {n : Nat} {xs : List Value} (h : w.ownsRow base e 1 v n xs) (o : Obj) : (w.alloc o).ownsRow base e 1 v n xs :=
  ownsRow_below h ((Below.refl _ _).alloc (Nat.le_refl _) o)
theorem form_ownC {w : World} {B n : Nat} {e : TypeId} {v : Value} {xs : List Value} (h : w.ownsRow B e 1 v n xs) : ∃ a cap, v = .slice a n cap := by
  rcases h.2 with ⟨rfl, rfl⟩ | ⟨g, cap, cur, rfl, _⟩
  · exact ⟨_, _, rfl⟩
  · exact ⟨_, _, rfl⟩
/-- A row of texts with one more. -/
theorem row_stepS {w wr w2 : World} {base : Nat} {v v' : Value} {L : List ByteArray} {p : ByteArray} {o : Obj} (hb : Below base w wr) (hB : base ≤ wr.heap.size)
    (ho : wr.ownsRow base 9 1 v L.length (L.map Value.string))
    (ho2 : w2.ownsRow base 9 1 v' (L.length + 1) (L.map Value.string ++ [.string p])) (hg : (wr.alloc o).grownBy w2 v.ownBlock) :
    w2.ownsRow base 9 1 v' (L ++ [p]).length ((L ++ [p]).map Value.string) ∧ Below base w w2 := by
  refine ⟨?_, (hb.alloc hB o).grown hg (by simp; omega) (fun j hj => (ho.lt j hj).1)⟩
  rw [List.length_append, List.map_append]
  exact ho2
def NewS (w w' : World) (e : Ending) (l : List ByteArray) : Prop := ∃ v, e = .returned v ∧ w'.ownsRow w.heap.size 9 1 v l.length (l.map Value.string) ∧ Below w.heap.size w w'
set_option maxRecDepth 100000 in
set_option maxHeartbeats 4000000 in
theorem cutS (x : ByteArray) (hx : x.size ≤ 65536) (w : World) : Calls Tryd.prog 11 #[.string x, .int .u8 9] w fun e w' => NewS w w' e (cel x ++ [lst x]) := by
  obtain ⟨i0, hi, hz0, hz1, hz2⟩ := info_parts info9
  have O0 : Hid ((w.alloc (.cells #[] 9)).ownsRow w.heap.size 9 1 (.slice (some ⟨w.heap.size, 0, none⟩) 0 0) (cts x 0).1.length ((cts x 0).1.map Value.string)) := hide (World.ownsRow_lit w #[] 0 (Nat.le_refl _) (by unfold maxLen; omega) rfl)
  have B0 : Hid (Below w.heap.size w (w.alloc (.cells #[] 9))) := hide ((Below.refl _ _).alloc (Nat.le_refl _) _)
  go_enter Tryd.func11, Tryd.ntmps11
  go_wp2_with fail
  go_loopw [5, 6, 7] (fun v5 v6 v7 wr => ∃ (i a : Nat), i ≤ x.size ∧ v7 = .int .i64 (i : Int) ∧ v6 = .int .i64 (a : Int) ∧ Hid (a = (cts x i).2) ∧ Hid (wr.ownsRow w.heap.size 9 1 v5 (cts x i).1.length ((cts x i).1.map Value.string)) ∧ Hid (Below w.heap.size w wr)) (fun _ _ v _ => x.size - (intOf v).toNat)
  case atStart => exact ⟨0, 0, by omega, rfl, rfl, hide rfl, O0, B0⟩
  case round =>
    obtain ⟨i, a, hi2, rfl, rfl, HA, HO, HB⟩ := hrel
    obtain ⟨va, vc, rfl⟩ := form_ownC (unhide HO)
    have hsz := (unhide HB).size
    have hle := cts_le x i
    have ha : a ≤ i := by rw [unhide HA]; exact hle.1
    have hL : (cts x i).1.length ≤ 65536 := by omega
    by_cases hlt : i < x.size
    · have hI : (i : Int) < (x.size : Int) := by omega
      have haI : (a : Int) ≤ (i : Int) := by omega
      have hiI : (i : Int) ≤ (x.size : Int) := by omega
      have f1 := fun h => bt_get x i h
      have HY : Hid (bt x i = 9 → cts x (i + 1) = ((cts x i).1 ++ [x.extract a i], i + 1)) := hide (fun h => by rw [cts_yes h, ← unhide HA])
      have HN : Hid (¬ bt x i = 9 → cts x (i + 1) = cts x i) := hide (fun h => cts_no h)
      clear hle
      generalize bt x i = b at *
      by_cases hb : b = 9
      · have hb1 : ((b : Int) == 9) = true := by rw [hb]; rfl
        have HC := hide ((unhide HY) hb)
        clear hb HY HN
        go_wp2_with (at_builtin; refine wpList_append_own _ rfl _ _ 22 rfl w.heap.size 9 i0 (.string ⟨#[]⟩) 1 16 Tryd.underlying22 hi hz0 hz1 hz2 rfl (by decide) _ _ _ rfl (own_allocC (unhide HO) _) ⟨wr.heap.size, 0, none⟩ 1 1 [.string (x.extract a i)] rfl rfl ?c1 ?c2 ?c3 ?c4 ?c5 ?_)
        case c1 => exact cell_one_new _ _ _
        case c2 => intro u hu; simp at hu; subst hu; rfl
        case c3 => unfold maxLen; omega
        case c4 => omega
        case c5 => simp; omega
        intro v' w3 hown' hgrow _
        have R := row_stepS (unhide HB) hsz (unhide HO) hown' hgrow
        have R1 : Hid (w3.ownsRow w.heap.size 9 1 v' (cts x (i + 1)).1.length ((cts x (i + 1)).1.map Value.string)) := hide (by rw [unhide HC]; exact R.1)
        have R2 := hide R.2
        have HA2 : Hid (i + 1 = (cts x (i + 1)).2) := hide (by rw [unhide HC])
        clear hown' hgrow R
        go_wp2_with fail
        go_roundw
        case rel => exact ⟨i + 1, i + 1, by omega, by go_num, by go_num, HA2, R1, R2⟩
        case measure => (simp [intOf] <;> omega)
      · have hb1 : ((b : Int) == 9) = false := by rw [beq_eq_false_iff_ne]; omega
        have HC := hide ((unhide HN) hb)
        clear hb HY HN
        go_wp2_with fail
        go_roundw
        case rel => exact ⟨i + 1, a, by omega, by go_num, rfl, hide (by rw [unhide HC]; exact unhide HA), hide (by rw [unhide HC]; exact unhide HO), HB⟩
        case measure => (simp [intOf] <;> omega)
    · obtain rfl : i = x.size := by omega
      have haI : (a : Int) ≤ (x.size : Int) := by omega
      have HX : Hid (x.extract a x.size = lst x) := hide (by unfold lst; rw [← unhide HA])
      go_wp2_with (at_builtin; refine wpList_append_own _ rfl _ _ 22 rfl w.heap.size 9 i0 (.string ⟨#[]⟩) 1 16 Tryd.underlying22 hi hz0 hz1 hz2 rfl (by decide) _ _ _ rfl (own_allocC (unhide HO) _) ⟨wr.heap.size, 0, none⟩ 1 1 [.string (x.extract a x.size)] rfl rfl ?c1 ?c2 ?c3 ?c4 ?c5 ?_)
      case c1 => exact cell_one_new _ _ _
      case c2 => intro u hu; simp at hu; subst hu; rfl
      case c3 => unfold maxLen; omega
      case c4 => omega
      case c5 => simp; omega
      intro v' w3 hown' hgrow _
      have R := row_stepS (unhide HB) hsz (unhide HO) hown' hgrow
      rw [unhide HX] at R
      go_wp2_with fail
      go_ret
      exact ⟨_, rfl, R.1, R.2⟩
end Clm
end Go.Proofs.YtnmlfgnnhhaeoaaDoor
