/- Collators that are right, as the program tells it. -/
import Derived.Test.YtgcpdpkkobkamaaColP
import Derived.Test.YtgcpdpkkobkamaaColW
import Derived.Test.YtgcpdpkkobkamaaNPointsI
import Derived.Deep.Cut
namespace Go.Proofs.Ytgcpdpkkobkamaa.Col
open Go.RowKit
set_option linter.unusedVariables false
set_option maxRecDepth 100000 in
set_option maxHeartbeats 1000000 in
theorem count_any (s : ByteArray) (w : World) (hs : s.size ≤ 65536) : Calls Try.prog 23 #[.string s] w fun e w' => e = .returned (.int .i64 ((pts s).length : Int)) ∧ Below w.heap.size w w' := by
  have HB0 : Hid (Below w.heap.size w (w.iter s 0)) := hide ((Below.refl _ _).alloc (Nat.le_refl _) _)
  have HI0 : Hid ((w.iter s 0).heap[w.heap.size]? = some (.stringIter s 0)) := hide (World.iter_heap w s 0)
  go_enter Try.func23, Try.ntmps23
  go_wp2
  go_loopw [2] (fun v wr => ∃ (n : Nat) (L : List Int) (pos : Nat), v = .int .i64 (L.length : Int) ∧ Hid (steps s n = (L, pos)) ∧ pos ≤ s.size ∧ L.length ≤ pos ∧ Hid (wr.heap[w.heap.size]? = some (.stringIter s pos)) ∧ Hid (Below w.heap.size w wr)) (fun _ wr => s.size - wr.iterPos w.heap.size)
  case atStart => exact ⟨0, [], 0, rfl, hide rfl, by omega, by simp, HI0, HB0⟩
  case round =>
    obtain ⟨n, L, pos, rfl, HS, hpos, hL, HI, HB⟩ := hrel
    clear HB0 HI0
    have HM := hide (iterPos_of (unhide HI))
    by_cases hlt : pos < s.size
    · have hbd := dN_bd s pos hlt
      have d1 := hbd.1
      have d2 := hbd.2.1
      have hBs := (unhide HB).size
      have HS' := hide (pts_step (unhide HS) hlt)
      have hnx : ∀ ty, (Instr.next (.pointer (some ⟨w.heap.size, 0, none⟩)) true ty).run Try.prog wr = .ok (.tuple #[.bool true, .int .i64 pos, .int .i32 (dP s pos)]) (wr.iterAt w.heap.size s (pos + dN s pos)) := fun ty => Lib.run_next_any_at wr _ s pos ty (unhide HI) hlt
      obtain ⟨w2, hw2⟩ : ∃ w2, wr.iterAt w.heap.size s (pos + dN s pos) = w2 := ⟨_, rfl⟩
      rw [hw2] at hnx
      have HI2 : Hid (w2.heap[w.heap.size]? = some (.stringIter s (pos + dN s pos))) := hide (by rw [← hw2]; exact Lib.iterAt_heap wr _ s pos _ (unhide HI))
      have HB2 : Hid (Below w.heap.size w w2) := hide (by rw [← hw2]; exact Lib.below_iterAt (unhide HB) (Nat.le_refl _) _ _)
      have HM3 := hide (iterPos_of (unhide HI2))
      clear hbd hw2
      go_wp2
      go_roundw
      case rel => exact ⟨n + 1, L ++ [(dP s pos : Int)], pos + dN s pos, by simp, HS', by omega, by simp; omega, HI2, HB2⟩
      case measure => rw [unhide HM, unhide HM3]; omega
    · have hnx : ∀ ty, (Instr.next (.pointer (some ⟨w.heap.size, 0, none⟩)) true ty).run Try.prog wr = .ok (.tuple #[.bool false]) wr := fun ty => Lib.run_next_end_at wr _ s pos ty (unhide HI) hlt
      have e := steps_pts s n (by rw [unhide HS]; show s.size ≤ pos; omega)
      rw [unhide HS] at e
      have e' : L = pts s := e
      have HL := hide (congrArg List.length e')
      clear e e'
      go_wp2
      go_ret
      exact ⟨by rw [← unhide HL]; rfl, unhide HB⟩
theorem in_t (p a b : Int) (w : World) (h : a ≤ p ∧ p ≤ b) : Calls Try.prog 14 #[.int .i64 p, .int .i64 a, .int .i64 b] w fun e w' => e = .returned (.bool true) ∧ w' = w := by
  obtain ⟨h1, h2⟩ := h
  go_enter Try.func14, Try.ntmps14
  go_wp2
  go_ret
  exact ⟨rfl, rfl⟩
theorem in_f (p a b : Int) (w : World) (h : ¬ (a ≤ p ∧ p ≤ b)) : Calls Try.prog 14 #[.int .i64 p, .int .i64 a, .int .i64 b] w fun e w' => e = .returned (.bool false) ∧ w' = w := by
  by_cases h1 : a ≤ p
  · have h2 : ¬ p ≤ b := fun e => h ⟨h1, e⟩
    clear h
    go_enter Try.func14, Try.ntmps14
    go_wp2
    go_ret
    exact ⟨rfl, rfl⟩
  · clear h
    go_enter Try.func14, Try.ntmps14
    go_wp2
    go_ret
    exact ⟨rfl, rfl⟩
theorem in_any (p a b : Int) (w : World) (q : Bool) (h : decide (a ≤ p ∧ p ≤ b) = q) : Calls Try.prog 14 #[.int .i64 p, .int .i64 a, .int .i64 b] w fun e w' => e = .returned (.bool q) ∧ w' = w := by
  cases q
  · exact in_f p a b w (of_decide_eq_false h)
  · exact in_t p a b w (of_decide_eq_true h)
set_option maxRecDepth 100000 in
set_option maxHeartbeats 2000000 in
theorem wrong_any (x y z : Int) (w : World) : Calls Try.prog 25 #[.agg #[.int .i64 x, .int .i64 y, .int .i64 z]] w fun e w' => e = .returned (.bool (!okEl (x, y, z))) ∧ Below w.heap.size w w' := by
  have B0 := hide ((Below.refl w.heap.size w).alloc (Nat.le_refl _) (.cells #[.int .i64 x, .int .i64 y, .int .i64 z] 41))
  obtain ⟨a, ha⟩ : ∃ a, okN x = a := ⟨_, rfl⟩
  obtain ⟨b, hb⟩ : ∃ b, okN y = b := ⟨_, rfl⟩
  obtain ⟨c, hc⟩ : ∃ c, okN z = c := ⟨_, rfl⟩
  have HE : Hid (okEl (x, y, z) = (a && (b && c))) := hide (by show (okN x && (okN y && okN z)) = _; rw [ha, hb, hc])
  have CA := hide (fun W => in_any x 0 1000000000000 W a ha)
  have CB := hide (fun W => in_any y 0 1000000000000 W b hb)
  have CC := hide (fun W => in_any z 0 1000000000000 W c hc)
  clear ha hb hc
  generalize okEl (x, y, z) = Q at *
  have T1 : True := trivial
  have T2 : True := trivial
  cases a <;> cases b <;> cases c
  all_goals
    go_enter Try.func25, Try.ntmps25
    go_wp2_with (first
      | (go_at_call 14; clear T1; refine ((unhide CA) _).mono ?_; rintro e w' ⟨rfl, hw⟩; obtain rfl := hw.symm; clear hw)
      | (go_at_call 14; clear T2; refine ((unhide CB) _).mono ?_; rintro e w' ⟨rfl, hw⟩; obtain rfl := hw.symm; clear hw)
      | (go_at_call 14; refine ((unhide CC) _).mono ?_; rintro e w' ⟨rfl, hw⟩; obtain rfl := hw.symm; clear hw))
    go_ret
    exact ⟨by rw [unhide HE]; rfl, unhide B0⟩
end Go.Proofs.Ytgcpdpkkobkamaa.Col
