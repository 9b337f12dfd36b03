/- The base of a text, as the specification tells it of its classes and pairs. -/
import Derived.Test.YtheakbjddonknaaDoorBasQ
import Derived.Test.YtheakbjddonknaaDoorBasS
namespace Go.Proofs.YtheakbjddonknaaDoor.Bs
open Go.RowKit Chr
set_option linter.unusedVariables false
theorem cells_of {w : World} {v : Value} {l : List Int} (h : IntsAt w v l) : ∃ a cap, v = .slice a l.length cap ∧ ∀ k, k < l.length → ∃ b off, a = some ⟨b, off, none⟩ ∧ w.cell? ⟨b, off + k, none⟩ = some (.int .i64 (nth l k)) := by
  obtain ⟨a, cap, rfl, h⟩ := h
  refine ⟨a, cap, rfl, fun k hk => ?_⟩
  rcases h with rfl | ⟨b, off, rfl, hb, hc⟩
  · simp at hk
  · exact ⟨b, off, rfl, hc k hk⟩
set_option maxHeartbeats 2000000 in
set_option maxRecDepth 100000 in
theorem base_any (g : Nat) (fv pv : Value) (C : List Int) (w : World) (c1 : w.cell? ⟨g, 1, none⟩ = some fv) (c4 : w.cell? ⟨g, 4, none⟩ = some pv) (hF : IntsAt w fv C) (hP : IntsAt w pv (stk C C.length).2) (hl : C.length ≤ 1048576) :
    Calls Tryd.prog 8 #[.pointer (some ⟨g, 0, none⟩), .int .i64 0, .int .i64 C.length] w fun e w' => e = .returned (.int .i64 (bsK C 0)) ∧ w' = w := by
  obtain ⟨fa, fc, rfl, HF⟩ := cells_of hF
  obtain ⟨pa, pc, rfl, HP⟩ := cells_of hP
  rw [stk_len] at c4 HP
  have HF := hide HF
  have HP := hide HP
  clear hF hP
  go_enter Tryd.func8, Tryd.ntmps8
  go_wp2
  go_loopw [7] (fun i wr => ∃ k : Nat, k ≤ C.length ∧ i = .int .i64 k ∧ wr = w ∧ Hid ((stk C k).1 = []) ∧ Hid (bsK C k = bsK C 0)) (fun i _ => C.length - (intOf i).toNat)
  case atStart => exact ⟨0, Nat.zero_le _, rfl, rfl, hide rfl, hide rfl⟩
  case round =>
    obtain ⟨k, hk, rfl, rfl, HE, HS⟩ := hrel
    by_cases hlt : k < C.length
    · have hlt' : (k : Int) < (C.length : Int) := by omega
      obtain ⟨b, off, rfl, d1⟩ := unhide HF k hlt
      have e := unhide HS
      rw [bsK_open C k hlt] at e
      have E := hide e
      have KI : Hid (16 ≤ nth C k ∧ nth C k ≤ 18 → (nth (stk C C.length).2 k < 0 ∧ bsK C k = 0) ∨ (∃ j : Nat, nth (stk C C.length).2 k = (j : Int) ∧ k < j ∧ j < C.length ∧ (stk C (j + 1)).1 = [] ∧ bsK C k = bsK C (j + 1))) := hide (fun h => bsK_iso hlt (unhide HE) h)
      have KE : Hid (¬ (16 ≤ nth C k ∧ nth C k ≤ 18) → (stk C (k + 1)).1 = []) := hide (fun h => stk_empty (unhide HE) h)
      clear e
      obtain ⟨c, ec⟩ : ∃ c, c = nth C k := ⟨_, rfl⟩
      rw [← ec] at d1 E KI KE
      clear ec
      by_cases h6 : c = 6
      · have y6 : (c != 6) = false := by simpa using h6
        have R : Hid (bsK C 0 = 0) := hide (by have := unhide E; rw [if_pos h6] at this; exact this.symm)
        clear h6
        go_wp2
        go_ret
        rw [unhide R]
        exact ⟨rfl, rfl⟩
      have z6 : (c != 6) = true := by simpa using h6
      by_cases h0 : c = 0
      · have y0 : (c == 0) = true := by simpa using h0
        have R : Hid (bsK C 0 = 0) := hide (by have := unhide E; rw [if_neg h6, if_pos ⟨unhide HE, h0⟩] at this; exact this.symm)
        clear h6 h0
        go_wp2
        go_ret
        rw [unhide R]
        exact ⟨rfl, rfl⟩
      have z0 : (c == 0) = false := by simpa using h0
      by_cases h1 : c = 1
      · have y1 : (c == 1) = true := by simpa using h1
        have R : Hid (bsK C 0 = 1) := hide (by have := unhide E; rw [if_neg h6, if_neg (by intro h; exact h0 h.2), if_pos ⟨unhide HE, h1⟩] at this; exact this.symm)
        clear h6 h0 h1
        go_wp2
        go_ret
        rw [unhide R]
        exact ⟨rfl, rfl⟩
      have z1 : (c == 1) = false := by simpa using h1
      have S1 : Hid (bsK C (k + 1) = bsK C 0) := hide (by have := unhide E; rw [if_neg h6, if_neg (by intro h; exact h0 h.2), if_neg (by intro h; exact h1 h.2)] at this; exact this)
      by_cases hI : 16 ≤ c ∧ c ≤ 18
      · have yI : decide (16 ≤ c ∧ c ≤ 18) = true := decide_eq_true hI
        obtain ⟨b2, off2, rfl, d2⟩ := unhide HP k hlt
        rcases unhide KI hI with ⟨p1, p2⟩ | ⟨j, p1, p2, p3, p4, p5⟩
        · have R : Hid (bsK C 0 = 0) := hide ((unhide HS).symm.trans p2)
          clear h6 h0 h1 p2 hI
          generalize nth (stk C C.length).2 k = pr at *
          go_wp2_with fail
          refine (sIso_any c _).mono ?_
          rintro e w1 ⟨rfl, rfl⟩
          rw [yI]
          clear yI
          go_wp2
          go_ret
          rw [unhide R]
          exact ⟨rfl, rfl⟩
        · have S2 : Hid (bsK C (j + 1) = bsK C 0) := hide (p5.symm.trans (unhide HS))
          have E2 := hide p4
          rw [p1] at d2
          have nj : ¬ (j : Int) < 0 := by omega
          clear h6 h0 h1 p1 p4 p5 hI
          go_wp2_with fail
          refine (sIso_any c _).mono ?_
          rintro e w1 ⟨rfl, rfl⟩
          rw [yI]
          clear yI
          go_wp2
          go_roundw
          case rel => exact ⟨j + 1, by omega, by go_num, trivial, E2, S2⟩
          case measure => simp [intOf]; omega
      · have yI : decide (16 ≤ c ∧ c ≤ 18) = false := decide_eq_false hI
        have E2 := hide (unhide KE hI)
        clear h6 h0 h1 hI
        go_wp2_with fail
        refine (sIso_any c _).mono ?_
        rintro e w1 ⟨rfl, rfl⟩
        rw [yI]
        clear yI
        go_wp2
        go_roundw
        case rel => exact ⟨k + 1, by omega, by go_num, trivial, E2, S1⟩
        case measure => simp [intOf]; omega
    · obtain rfl : k = C.length := by omega
      have R : Hid (bsK C 0 = 0) := hide (by rw [← unhide HS, bsK_end])
      go_wp2
      go_ret
      rw [unhide R]
      exact ⟨rfl, rfl⟩
end Go.Proofs.YtheakbjddonknaaDoor.Bs
