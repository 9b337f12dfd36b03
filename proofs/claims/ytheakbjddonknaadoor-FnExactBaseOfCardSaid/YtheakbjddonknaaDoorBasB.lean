/- BaseOf, as the program tells it. -/
import Derived.Test.YtheakbjddonknaaDoorBasI
import Derived.Test.YtheakbjddonknaaDoorPointsLaw
namespace Go.Proofs.YtheakbjddonknaaDoor.Bs
open Go.RowKit Chr
set_option linter.unusedVariables false
/-- The base of a row of classes, isolates of the depth d being open. -/
def bsL : Nat → List Int → Int
  | _, [] => 0
  | d, c :: t => if c = 7 then 0 else if 15 ≤ c ∧ c ≤ 17 then bsL (d + 1) t else if c = 18 ∧ 0 < d then bsL (d - 1) t else if d = 0 ∧ c = 1 then 0 else if d = 0 ∧ c = 2 then 1 else bsL d t
theorem drop_nth (C : List Int) (k : Nat) (h : k < C.length) : C.drop k = nth C k :: C.drop (k + 1) := by
  have e : nth C k = C[k] := by simp [nth, List.getD, h]
  rw [e, List.drop_eq_getElem_cons h]
set_option maxHeartbeats 2000000 in
set_option maxRecDepth 100000 in
theorem baseOf_any (v : Value) (C : List Int) (w : World) (h : IntsAt w v C) (hl : C.length ≤ 1048576) :
    Calls Tryd.prog 9 #[v] w fun e w' => e = .returned (.int .i64 (bsL 0 C)) ∧ w' = w := by
  obtain ⟨a, cap, rfl, h⟩ := h
  have HC : Hid (∀ k, k < C.length → ∃ b off, a = some ⟨b, off, none⟩ ∧ w.cell? ⟨b, off + k, none⟩ = some (.int .i64 (nth C k))) := hide (fun k hk => by
    rcases h with rfl | ⟨b, off, rfl, hb, hc⟩
    · simp at hk
    · exact ⟨b, off, rfl, hc k hk⟩)
  clear h
  go_enter Tryd.func9, Tryd.ntmps9
  go_wp2
  go_loopw [3, 8] (fun dv i wr => ∃ k d : Nat, k ≤ C.length ∧ d ≤ k ∧ dv = .int .i64 d ∧ i = .int .i64 k ∧ wr = w ∧ Hid (bsL d (C.drop k) = bsL 0 C)) (fun _ i _ => C.length - (intOf i).toNat)
  case atStart => exact ⟨0, 0, Nat.zero_le _, Nat.zero_le _, rfl, rfl, rfl, hide rfl⟩
  case round =>
    obtain ⟨k, d, hk, hd, rfl, rfl, rfl, HS⟩ := hrel
    by_cases hlt : k < C.length
    · have hlt' : (k : Int) < (C.length : Int) := by omega
      obtain ⟨b, off, rfl, c1⟩ := unhide HC k hlt
      have e := unhide HS
      rw [drop_nth C k hlt, bsL] at e
      have E := hide e
      clear e
      obtain ⟨c, ec⟩ : ∃ c, c = nth C k := ⟨_, rfl⟩
      rw [← ec] at c1 E
      clear ec
      by_cases h7 : c = 7
      · have y7 : (c == 7) = true := by simpa using h7
        have R : Hid (bsL 0 C = 0) := hide (by have := unhide E; rw [if_pos h7] at this; exact this.symm)
        clear h7
        go_wp2
        go_ret
        rw [unhide R]
        exact ⟨rfl, rfl⟩
      have z7 : (c == 7) = false := by simpa using h7
      by_cases hI : 15 ≤ c ∧ c ≤ 17
      · have S' : Hid (bsL (d + 1) (C.drop (k + 1)) = bsL 0 C) := hide (by have := unhide E; rw [if_neg h7, if_pos hI] at this; exact this)
        have yI : decide (15 ≤ c ∧ c ≤ 17) = true := decide_eq_true hI
        clear E h7
        go_wp2_with fail
        refine (isIso_any c _).mono ?_
        rintro e w1 ⟨rfl, rfl⟩
        rw [yI]
        clear hI yI
        go_wp2
        go_roundw
        case rel => exact ⟨k + 1, d + 1, by omega, by omega, by go_num, by go_num, trivial, S'⟩
        case measure => simp [intOf]; omega
      have yI : decide (15 ≤ c ∧ c ≤ 17) = false := decide_eq_false hI
      by_cases hP : c = 18 ∧ 0 < d
      · obtain ⟨p1, p2⟩ := hP
        have S' : Hid (bsL (d - 1) (C.drop (k + 1)) = bsL 0 C) := hide (by have := unhide E; rw [if_neg h7, if_neg hI, if_pos ⟨p1, p2⟩] at this; exact this)
        have y18 : (c == 18) = true := by simpa using p1
        have p2' : (0 : Int) < (d : Int) := by omega
        obtain ⟨d', ed⟩ : ∃ d', d = d' + 1 := ⟨d - 1, by omega⟩
        clear E h7 p1
        go_wp2_with fail
        refine (isIso_any c _).mono ?_
        rintro e w1 ⟨rfl, rfl⟩
        rw [yI]
        clear hI yI
        go_wp2
        go_roundw
        case rel => exact ⟨k + 1, d - 1, by omega, by omega, by go_num, by go_num, trivial, S'⟩
        case measure => simp [intOf]; omega
      by_cases hd0 : d = 0
      · have yd : ((d : Int) == 0) = true := by simp [hd0]
        have nd : ¬ (0 : Int) < (d : Int) := by omega
        by_cases q1 : c = 1
        · have y1 : (c == 1) = true := by simpa using q1
          have z18 : (c == 18) = false := by simp; omega
          have R : Hid (bsL 0 C = 0) := hide (by have := unhide E; rw [if_neg h7, if_neg hI, if_neg hP, if_pos ⟨hd0, q1⟩] at this; exact this.symm)
          clear E h7 q1 hP hd0
          go_wp2_with fail
          refine (isIso_any c _).mono ?_
          rintro e w1 ⟨rfl, rfl⟩
          rw [yI]
          clear hI yI
          go_wp2
          go_ret
          rw [unhide R]
          exact ⟨rfl, rfl⟩
        have z1 : (c == 1) = false := by simpa using q1
        by_cases q2 : c = 2
        · have y2 : (c == 2) = true := by simpa using q2
          have z18 : (c == 18) = false := by simp; omega
          have R : Hid (bsL 0 C = 1) := hide (by have := unhide E; rw [if_neg h7, if_neg hI, if_neg hP, if_neg (by omega), if_pos ⟨hd0, q2⟩] at this; exact this.symm)
          clear E h7 q1 q2 hP hd0
          go_wp2_with fail
          refine (isIso_any c _).mono ?_
          rintro e w1 ⟨rfl, rfl⟩
          rw [yI]
          clear hI yI
          go_wp2
          go_ret
          rw [unhide R]
          exact ⟨rfl, rfl⟩
        have z2 : (c == 2) = false := by simpa using q2
        have S' : Hid (bsL d (C.drop (k + 1)) = bsL 0 C) := hide (by have := unhide E; rw [if_neg h7, if_neg hI, if_neg hP, if_neg (by omega), if_neg (by omega)] at this; exact this)
        cases h18 : (c == 18)
        · clear E h7 q1 q2 hP hd0
          go_wp2_with fail
          refine (isIso_any c _).mono ?_
          rintro e w1 ⟨rfl, rfl⟩
          rw [yI]
          clear hI yI
          go_wp2
          go_roundw
          case rel => exact ⟨k + 1, d, by omega, by omega, rfl, by go_num, trivial, S'⟩
          case measure => simp [intOf]; omega
        · clear E h7 q1 q2 hP hd0
          go_wp2_with fail
          refine (isIso_any c _).mono ?_
          rintro e w1 ⟨rfl, rfl⟩
          rw [yI]
          clear hI yI
          go_wp2
          go_roundw
          case rel => exact ⟨k + 1, d, by omega, by omega, rfl, by go_num, trivial, S'⟩
          case measure => simp [intOf]; omega
      · have zd : ((d : Int) == 0) = false := by simp; omega
        have z18 : (c == 18) = false := by simp; omega
        have S' : Hid (bsL d (C.drop (k + 1)) = bsL 0 C) := hide (by have := unhide E; rw [if_neg h7, if_neg hI, if_neg hP, if_neg (by omega), if_neg (by omega)] at this; exact this)
        clear E h7 hP
        go_wp2_with fail
        refine (isIso_any c _).mono ?_
        rintro e w1 ⟨rfl, rfl⟩
        rw [yI]
        clear hI yI
        go_wp2
        go_roundw
        case rel => exact ⟨k + 1, d, by omega, by omega, rfl, by go_num, trivial, S'⟩
        case measure => simp [intOf]; omega
    · obtain rfl : k = C.length := by omega
      have R : Hid (bsL 0 C = 0) := hide (by have := unhide HS; rw [List.drop_length, bsL] at this; exact this.symm)
      go_wp2
      go_ret
      rw [unhide R]
      exact ⟨rfl, rfl⟩
end Go.Proofs.YtheakbjddonknaaDoor.Bs
