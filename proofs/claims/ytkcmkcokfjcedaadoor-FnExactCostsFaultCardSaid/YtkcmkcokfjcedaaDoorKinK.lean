/- The numbers of costs, as the program asks them. -/
import Derived.Test.YtkcmkcokfjcedaaDoorKinJ
namespace Go.Proofs.YtkcmkcokfjcedaaDoor.Kin
open Go.RowKit
set_option linter.unusedVariables false
/-- The first n of five numbers are in bounds. -/
def five (p d c k t : Int) (n : Int) : Prop := (1 ≤ n → 0 ≤ p ∧ p ≤ 1000) ∧ (2 ≤ n → 0 ≤ d ∧ d ≤ 1000) ∧ (3 ≤ n → 0 ≤ c ∧ c ≤ 1000) ∧ (4 ≤ n → 0 ≤ k ∧ k ≤ 1000) ∧ (5 ≤ n → 0 ≤ t ∧ t ≤ 1000)
set_option maxRecDepth 100000 in
set_option maxHeartbeats 8000000 in
theorem bounds_any (p d c k t : Int) (v : Value) (w : World) (hv : ∃ a n q, v = .slice a n q) : Calls Tryd.prog 18 #[.agg #[.int .i64 p, .int .i64 d, .int .i64 c, .int .i64 k, .int .i64 t, v]] w fun e w' => e = .returned (.bool (bnd p d c k t)) ∧ Below w.heap.size w w' := by
  obtain ⟨va, vn, vq, rfl⟩ := hv
  have HN := hide (@bnd_not p d c k t)
  have HP := hide (fun h => (show bnd p d c k t = true from decide_eq_true h))
  have B0 := hide ((Below.refl w.heap.size w).alloc (Nat.le_refl _) (.cells #[.int .i64 p, .int .i64 d, .int .i64 c, .int .i64 k, .int .i64 t, .slice va vn vq] 27))
  generalize bnd p d c k t = R at *
  go_enter Tryd.func18, Tryd.ntmps18
  go_upto_region 2 with fail
  go_loopw [16] (fun iv wr => ∃ n : Int, (n = 0 ∨ n = 1 ∨ n = 2 ∨ n = 3 ∨ n = 4 ∨ n = 5) ∧ iv = .int .i64 n ∧ Hid (five p d c k t n) ∧ wr = w.alloc (.cells #[.int .i64 p, .int .i64 d, .int .i64 c, .int .i64 k, .int .i64 t, .slice va vn vq] 27)) (fun iv _ => 5 - (intOf iv).toNat)
  case atStart => exact ⟨0, .inl rfl, rfl, hide ⟨fun h => by omega, fun h => by omega, fun h => by omega, fun h => by omega, fun h => by omega⟩, rfl⟩
  case round =>
    obtain ⟨n, hn, rfl, HF, rfl⟩ := hrel
    rcases hn with rfl | rfl | rfl | rfl | rfl | rfl
    · have ix : ∀ w, (Instr.index 51 (.agg #[Value.int .i64 p, Value.int .i64 d, Value.int .i64 c, Value.int .i64 k, Value.int .i64 t]) (.int .i64 0)).run Tryd.prog w = .ok (.int .i64 p) w := fun _ => by kernel_rfl
      by_cases hq : 0 ≤ p ∧ p ≤ 1000
      · have CN := hide (fun W => in_any p 0 1000 W true (decide_eq_true hq))
        have HF2 : Hid (five p d c k t (0 + 1)) := hide (by have := unhide HF; unfold five at *; omega)
        clear hq
        go_wp2_with (go_at_call 21; refine ((unhide CN) _).mono ?_; rintro e w4 ⟨rfl, e4⟩; have e5 := e4.symm; subst e5; clear e4)
        go_roundw
        case rel => exact ⟨1, .inr (.inl rfl), rfl, HF2, by first | exact rfl | trivial⟩
        case measure => simp [intOf]
      · have CN := hide (fun W => in_any p 0 1000 W false (decide_eq_false hq))
        have HR := hide ((unhide HN) (by omega))
        clear hq
        go_wp2_with (go_at_call 21; refine ((unhide CN) _).mono ?_; rintro e w4 ⟨rfl, e4⟩; have e5 := e4.symm; subst e5; clear e4)
        go_ret
        exact ⟨by rw [unhide HR]; rfl, unhide B0⟩
    · have ix : ∀ w, (Instr.index 51 (.agg #[Value.int .i64 p, Value.int .i64 d, Value.int .i64 c, Value.int .i64 k, Value.int .i64 t]) (.int .i64 1)).run Tryd.prog w = .ok (.int .i64 d) w := fun _ => by kernel_rfl
      by_cases hq : 0 ≤ d ∧ d ≤ 1000
      · have CN := hide (fun W => in_any d 0 1000 W true (decide_eq_true hq))
        have HF2 : Hid (five p d c k t (1 + 1)) := hide (by have := unhide HF; unfold five at *; omega)
        clear hq
        go_wp2_with (go_at_call 21; refine ((unhide CN) _).mono ?_; rintro e w4 ⟨rfl, e4⟩; have e5 := e4.symm; subst e5; clear e4)
        go_roundw
        case rel => exact ⟨2, .inr (.inr (.inl rfl)), rfl, HF2, by first | exact rfl | trivial⟩
        case measure => simp [intOf]
      · have CN := hide (fun W => in_any d 0 1000 W false (decide_eq_false hq))
        have HR := hide ((unhide HN) (by omega))
        clear hq
        go_wp2_with (go_at_call 21; refine ((unhide CN) _).mono ?_; rintro e w4 ⟨rfl, e4⟩; have e5 := e4.symm; subst e5; clear e4)
        go_ret
        exact ⟨by rw [unhide HR]; rfl, unhide B0⟩
    · have ix : ∀ w, (Instr.index 51 (.agg #[Value.int .i64 p, Value.int .i64 d, Value.int .i64 c, Value.int .i64 k, Value.int .i64 t]) (.int .i64 2)).run Tryd.prog w = .ok (.int .i64 c) w := fun _ => by kernel_rfl
      by_cases hq : 0 ≤ c ∧ c ≤ 1000
      · have CN := hide (fun W => in_any c 0 1000 W true (decide_eq_true hq))
        have HF2 : Hid (five p d c k t (2 + 1)) := hide (by have := unhide HF; unfold five at *; omega)
        clear hq
        go_wp2_with (go_at_call 21; refine ((unhide CN) _).mono ?_; rintro e w4 ⟨rfl, e4⟩; have e5 := e4.symm; subst e5; clear e4)
        go_roundw
        case rel => exact ⟨3, .inr (.inr (.inr (.inl rfl))), rfl, HF2, by first | exact rfl | trivial⟩
        case measure => simp [intOf]
      · have CN := hide (fun W => in_any c 0 1000 W false (decide_eq_false hq))
        have HR := hide ((unhide HN) (by omega))
        clear hq
        go_wp2_with (go_at_call 21; refine ((unhide CN) _).mono ?_; rintro e w4 ⟨rfl, e4⟩; have e5 := e4.symm; subst e5; clear e4)
        go_ret
        exact ⟨by rw [unhide HR]; rfl, unhide B0⟩
    · have ix : ∀ w, (Instr.index 51 (.agg #[Value.int .i64 p, Value.int .i64 d, Value.int .i64 c, Value.int .i64 k, Value.int .i64 t]) (.int .i64 3)).run Tryd.prog w = .ok (.int .i64 k) w := fun _ => by kernel_rfl
      by_cases hq : 0 ≤ k ∧ k ≤ 1000
      · have CN := hide (fun W => in_any k 0 1000 W true (decide_eq_true hq))
        have HF2 : Hid (five p d c k t (3 + 1)) := hide (by have := unhide HF; unfold five at *; omega)
        clear hq
        go_wp2_with (go_at_call 21; refine ((unhide CN) _).mono ?_; rintro e w4 ⟨rfl, e4⟩; have e5 := e4.symm; subst e5; clear e4)
        go_roundw
        case rel => exact ⟨4, .inr (.inr (.inr (.inr (.inl rfl)))), rfl, HF2, by first | exact rfl | trivial⟩
        case measure => simp [intOf]
      · have CN := hide (fun W => in_any k 0 1000 W false (decide_eq_false hq))
        have HR := hide ((unhide HN) (by omega))
        clear hq
        go_wp2_with (go_at_call 21; refine ((unhide CN) _).mono ?_; rintro e w4 ⟨rfl, e4⟩; have e5 := e4.symm; subst e5; clear e4)
        go_ret
        exact ⟨by rw [unhide HR]; rfl, unhide B0⟩
    · have ix : ∀ w, (Instr.index 51 (.agg #[Value.int .i64 p, Value.int .i64 d, Value.int .i64 c, Value.int .i64 k, Value.int .i64 t]) (.int .i64 4)).run Tryd.prog w = .ok (.int .i64 t) w := fun _ => by kernel_rfl
      by_cases hq : 0 ≤ t ∧ t ≤ 1000
      · have CN := hide (fun W => in_any t 0 1000 W true (decide_eq_true hq))
        have HF2 : Hid (five p d c k t (4 + 1)) := hide (by have := unhide HF; unfold five at *; omega)
        clear hq
        go_wp2_with (go_at_call 21; refine ((unhide CN) _).mono ?_; rintro e w4 ⟨rfl, e4⟩; have e5 := e4.symm; subst e5; clear e4)
        go_roundw
        case rel => exact ⟨5, .inr (.inr (.inr (.inr (.inr (rfl))))), rfl, HF2, by first | exact rfl | trivial⟩
        case measure => simp [intOf]
      · have CN := hide (fun W => in_any t 0 1000 W false (decide_eq_false hq))
        have HR := hide ((unhide HN) (by omega))
        clear hq
        go_wp2_with (go_at_call 21; refine ((unhide CN) _).mono ?_; rintro e w4 ⟨rfl, e4⟩; have e5 := e4.symm; subst e5; clear e4)
        go_ret
        exact ⟨by rw [unhide HR]; rfl, unhide B0⟩
    · have hF := unhide HF
      unfold five at hF
      obtain ⟨g1, g2, g3, g4, g5⟩ := hF
      obtain ⟨u1, u2⟩ := g1 (by omega)
      obtain ⟨u3, u4⟩ := g2 (by omega)
      obtain ⟨u5, u6⟩ := g3 (by omega)
      obtain ⟨u7, u8⟩ := g4 (by omega)
      have HG5 := hide (g5 (by omega))
      clear g1 g2 g3 g4 g5 HF
      by_cases q1 : 0 < p
      · by_cases q2 : 0 < d
        · by_cases q3 : k ≤ c
          · by_cases q4 : c ≤ p + d
            · have HR : Hid (R = true) := hide ((unhide HP) ⟨by omega, by omega, by omega, by omega, unhide HG5, by omega, by omega, by omega, by omega⟩)
              clear HN HP
              go_wp2
              go_ret
              exact ⟨by rw [unhide HR]; rfl, unhide B0⟩
            · have HR := hide ((unhide HN) (by omega))
              clear HN HP
              go_wp2
              go_ret
              exact ⟨by rw [unhide HR]; rfl, unhide B0⟩
          · have HR := hide ((unhide HN) (by omega))
            clear HN HP
            have q3' : ¬ k ≤ c := q3
            go_wp2
            go_ret
            exact ⟨by rw [unhide HR]; rfl, unhide B0⟩
        · have HR := hide ((unhide HN) (by omega))
          clear HN HP
          go_wp2
          go_ret
          exact ⟨by rw [unhide HR]; rfl, unhide B0⟩
      · have HR := hide ((unhide HN) (by omega))
        clear HN HP
        go_wp2
        go_ret
        exact ⟨by rw [unhide HR]; rfl, unhide B0⟩
end Go.Proofs.YtkcmkcokfjcedaaDoor.Kin
