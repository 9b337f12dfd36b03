/- The bytes of a text that are no blanks, as the law takes them. -/
import Derived.Test.YtbaedapnikhdgaaGreatDoorJudQ
namespace Go.Proofs.YtbaedapnikhdgaaGreatDoor
namespace Jud
open Go.RowKit Chr Wid Jus
set_option linter.unusedVariables false
set_option linter.unusedSimpArgs false
set_option maxRecDepth 100000 in
set_option maxHeartbeats 4000000 in
theorem noBlanks (x : ByteArray) (hx : x.size ≤ 65536) (w : World) : Calls Tryz.prog 9 #[.string x] w fun e w' => e = .returned (.string (strOfNums (NB x))) ∧ Below w.heap.size w w' := by
  obtain ⟨i0, hi, hz0, hz1, hz2⟩ := info_parts info5j
  have O0 : Hid ((w.alloc (.cells #[] 5)).ownsRow w.heap.size 5 1 (.slice (some ⟨w.heap.size, 0, none⟩) 0 0) (nb x 0).length ((nb x 0).map (Value.int .u8))) := hide (World.ownsRow_lit w #[] 0 (Nat.le_refl _) (by unfold maxLen; omega) rfl)
  have B0 : Hid (Below w.heap.size w (w.alloc (.cells #[] 5))) := hide ((Below.refl _ _).alloc (Nat.le_refl _) _)
  go_enter Tryz.func9, Tryz.ntmps9
  go_wp2_with fail
  go_loopw [3, 4] (fun v3 v4 wr => ∃ i : Nat, v4 = .int .i64 (i : Int) ∧ i ≤ x.size ∧ Hid (wr.ownsRow w.heap.size 5 1 v3 (nb x i).length ((nb x i).map (Value.int .u8))) ∧ Hid (Below w.heap.size w wr)) (fun _ v _ => x.size - (intOf v).toNat)
  case atStart => exact ⟨0, rfl, Nat.zero_le _, O0, B0⟩
  case round =>
    obtain ⟨i, rfl, h1, HO, HB⟩ := hrel
    clear O0 B0
    have hgl := nb_len x i
    obtain ⟨va, vc, rfl⟩ := form_ownJ (unhide HO)
    have hsz := (unhide HB).size
    by_cases hlt : i < x.size
    · have hI : (i : Int) < (x.size : Int) := by omega
      have f1 := fun h => bt_get x i h
      have hb := bt_lt x i
      by_cases c : bt x i = 32
      · have HN : Hid (nb x (i + 1) = nb x i) := hide (by rw [nb, if_pos c])
        generalize bt x i = b1 at *
        subst c
        go_wp2_with fail
        go_roundw
        case rel => exact ⟨i + 1, by go_num, by omega, hide (by rw [unhide HN]; exact unhide HO), HB⟩
        case measure => (simp [intOf] <;> omega)
      · have HN : Hid (nb x (i + 1) = nb x i ++ [(bt x i : Int)]) := hide (by rw [nb, if_neg c])
        generalize bt x i = b1 at *
        have c2 : ((b1 : Int) != 32) = true := by
          have : ((b1 : Int) == 32) = false := by rw [beq_eq_false_iff_ne]; omega
          simp [bne, this]
        go_wp2_with (at_builtin; refine wpList_append_own _ rfl _ _ 22 rfl w.heap.size 5 i0 (.int .u8 0) 1 1 Tryz.underlying22 hi hz0 hz1 hz2 rfl (by decide) _ _ _ rfl (own_allocJ (unhide HO) _) ⟨wr.heap.size, 0, none⟩ 1 1 [.int .u8 (b1 : Int)] rfl rfl ?c1 ?c2 ?c3 ?c4 ?c5 ?_)
        case c1 => exact cell_one_new _ _ _
        case c2 => intro u hu; simp at hu; subst hu; rfl
        case c3 => unfold maxLen; omega
        case c4 => omega
        case c5 => simp; omega
        intro v' w3 hown' hgrow _
        have R1 : Hid (w3.ownsRow w.heap.size 5 1 v' (nb x (i + 1)).length ((nb x (i + 1)).map (Value.int .u8))) := hide (by
          rw [unhide HN, List.map_append, List.length_append]
          exact hown')
        have R2 : Hid (Below w.heap.size w w3) := hide (((unhide HB).alloc hsz _).grown hgrow (by simp; omega) (fun j hj => ((unhide HO).lt j hj).1))
        clear hown' hgrow
        go_wp2_with fail
        go_roundw
        case rel => exact ⟨i + 1, by go_num, by omega, R1, R2⟩
        case measure => (simp [intOf] <;> omega)
    · obtain rfl : i = x.size := by omega
      have hI : ¬ (x.size : Int) < (x.size : Int) := by omega
      have hcv := conv_ownJ wr w.heap.size _ _ _ (unhide HO)
      go_wp2_with fail
      go_ret
      exact ⟨rfl, unhide HB⟩
end Jud
end Go.Proofs.YtbaedapnikhdgaaGreatDoor
