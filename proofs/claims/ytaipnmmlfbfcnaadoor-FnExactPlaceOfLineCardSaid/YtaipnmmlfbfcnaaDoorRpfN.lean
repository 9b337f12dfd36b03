/- Names of marks, marks that are right, as both sides ask. -/
import Derived.Test.YtaipnmmlfbfcnaaDoorRpfP
import Derived.Laws.IdiomStrings
import Derived.Deep.CutBlock
namespace Go.Proofs.YtaipnmmlfbfcnaaDoor.Rop
open Go.RowKit Rwc
set_option linter.unusedVariables false
theorem within_any (p a b : Int) (w : World) : Calls Tryd.prog 32 #[.int .i64 p, .int .i64 a, .int .i64 b] w fun e w' => e = .returned (.bool (decide (a ≤ p) && decide (p ≤ b))) ∧ w' = w := by
  by_cases h1 : a ≤ p
  · by_cases h2 : p ≤ b
    · rw [decide_eq_true h1, decide_eq_true h2]
      go_enter Tryd.func32, Tryd.ntmps32
      go_wp2
      go_ret
      exact ⟨rfl, rfl⟩
    · rw [decide_eq_true h1, decide_eq_false h2]
      go_enter Tryd.func32, Tryd.ntmps32
      go_wp2
      go_ret
      exact ⟨rfl, rfl⟩
  · rw [decide_eq_false h1]
    go_enter Tryd.func32, Tryd.ntmps32
    go_wp2
    go_ret
    exact ⟨by simp, rfl⟩
theorem within_A (n : Nat) (w : World) : Calls Tryd.prog 32 #[.int .i64 (n : Int), .int .i64 97, .int .i64 122] w fun e w' => e = .returned (.bool (isA n)) ∧ w' = w := by
  refine (within_any _ _ _ w).mono ?_
  rintro e w' ⟨rfl, rfl⟩
  refine ⟨?_, rfl⟩
  unfold isA
  congr 2
  congr 1
  · rw [decide_eq_decide]; omega
  · rw [decide_eq_decide]; omega
def isD (n : Nat) : Bool := decide (48 ≤ n) && decide (n ≤ 57)
theorem within_D (n : Nat) (w : World) : Calls Tryd.prog 32 #[.int .i64 (n : Int), .int .i64 48, .int .i64 57] w fun e w' => e = .returned (.bool (isD n)) ∧ w' = w := by
  refine (within_any _ _ _ w).mono ?_
  rintro e w' ⟨rfl, rfl⟩
  refine ⟨?_, rfl⟩
  unfold isD
  congr 2
  congr 1
  · rw [decide_eq_decide]; omega
  · rw [decide_eq_decide]; omega
theorem nm_short (s : ByteArray) (h : s.size = 0) : nmB s = false := by unfold nmB; rw [decide_eq_false (by omega)]; rfl
theorem nm_long (s : ByteArray) (h : 20 < s.size) : nmB s = false := by unfold nmB; rw [decide_eq_false (show ¬ s.size ≤ 20 by omega)]; simp
theorem nm_first (s : ByteArray) (h : isA (bt s 0) = false) : nmB s = false := by unfold nmB; rw [h]; simp
theorem nm_rest (s : ByteArray) (h1 : 0 < s.size) (h2 : s.size ≤ 20) (h : isA (bt s 0) = true) : nmB s = nmR s 1 := by
  unfold nmB
  rw [h, decide_eq_true (show 1 ≤ s.size by omega), decide_eq_true h2]
  rfl
set_option maxRecDepth 100000 in
set_option maxHeartbeats 2000000 in
theorem nameI (s : ByteArray) (w : World) (hs : s.size ≤ 1048576) : Calls Tryd.prog 73 #[.string s] w fun e w' => e = .returned (.bool (nmB s)) ∧ Below w.heap.size w w' := by
  by_cases h0 : s.size = 0
  · obtain rfl := ByteArray.size_eq_zero_iff.1 h0
    have HN := hide (nm_short ByteArray.empty h0)
    generalize nmB ByteArray.empty = R at *
    go_enter Tryd.func73, Tryd.ntmps73
    go_wp2
    go_ret
    exact ⟨by rw [unhide HN]; rfl, Below.refl _ _⟩
  by_cases h20 : 20 < s.size
  · have HN := hide (nm_long s h20)
    generalize nmB s = R at *
    have h0i : ¬ (s.size : Int) = 0 := by omega
    have h20i : (20 : Int) < (s.size : Int) := by omega
    go_enter Tryd.func73, Tryd.ntmps73
    go_wp2
    go_ret
    exact ⟨by rw [unhide HN]; rfl, Below.refl _ _⟩
  have h0i : ¬ (s.size : Int) = 0 := by omega
  have h20i : ¬ (20 : Int) < (s.size : Int) := by omega
  have hlt : (0 : Int) < (s.size : Int) := by omega
  have hzb : ((s.size : Int) == 0) = false := by simpa using h0
  have h20b : decide ((20 : Int) < (s.size : Int)) = false := decide_eq_false h20i
  have f0 : ∀ h, (s[0]'h).toNat = bt s 0 := fun h => bt_get s 0 h
  have hbb := bt_lt s 0
  have C0 := hide (fun W => within_A (bt s 0) W)
  cases hA : isA (bt s 0)
  · have HN := hide (nm_first s hA)
    rw [hA] at C0
    clear hA
    generalize nmB s = R at *
    go_enter Tryd.func73, Tryd.ntmps73
    go_wp2_with (go_at_call 32; refine ((unhide C0) _).mono ?_; rintro e w' ⟨rfl, hw⟩; obtain rfl := hw.symm; clear hw)
    go_ret
    exact ⟨by rw [unhide HN]; rfl, Below.refl _ _⟩
  have HN : Hid (nmB s = nmR s 0) := hide (by rw [nm_rest s (by omega) (by omega) hA, nmR_zero s (by omega) hA])
  rw [hA] at C0
  clear hA
  generalize nmB s = R at *
  have hcv : ∀ W, (convert 9 69 (.string s)).run Tryd.prog W = _ := fun W => run_bytes_of_string (P := Tryd.prog) W 9 69 5 s Tryd.underlying9 Tryd.underlying69 Tryd.underlying5
  have hcell : Hid (∀ cap j, j < s.size → ((w.alloc (.cells (bytesRow s cap) 5 ((bytesRow s cap).size, (bytesRow s cap).size + 1))).drew).cell? ⟨w.heap.size, j, none⟩ = some (.int .u8 (bt s j))) := hide (fun cap j hj => by
    have h1 : ((w.alloc (.cells (bytesRow s cap) 5 ((bytesRow s cap).size, (bytesRow s cap).size + 1))).drew).heap[w.heap.size]? = some (.cells (bytesRow s cap) 5 ((bytesRow s cap).size, (bytesRow s cap).size + 1)) := heap_new w _
    rw [World.cell?]
    simp only [h1]
    rw [bytesRow_at s cap j hj]
    have := bt_get s j hj
    rw [← this]
    rfl)
  have hb : Hid (∀ o, Below w.heap.size w (w.alloc o).drew) := hide (fun o => bdrew ((Below.refl w.heap.size w).alloc (Nat.le_refl _) o) 1)
  go_enter Tryd.func73, Tryd.ntmps73
  go_upto_block 0 with (go_at_call 32; refine ((unhide C0) _).mono ?_; rintro e w' ⟨rfl, hw⟩; obtain rfl := hw.symm; clear hw)
  generalize grownCap w s.size 0 5 = cap at *
  have hcell2 := hide ((unhide hcell) cap)
  have hb2 := hide ((unhide hb) (.cells (bytesRow s cap) 5 ((bytesRow s cap).size, (bytesRow s cap).size + 1)))
  clear hcell hb hcv C0 f0 hbb
  generalize (w.alloc (.cells (bytesRow s cap) 5 ((bytesRow s cap).size, (bytesRow s cap).size + 1))).drew = W1 at *
  go_wp2
  go_loopw [4, 23] (fun bv iv wr => ∃ i : Nat, i ≤ s.size ∧ iv = .int .i64 (i : Int) ∧ Hid (R = nmR s i) ∧ wr = W1) (fun _ iv _ => (s.size - intOf iv).toNat)
  case atStart => exact ⟨0, by omega, rfl, HN, rfl⟩
  case round =>
    obtain ⟨i, hi, rfl, HR, rfl⟩ := hrel
    by_cases h : i < s.size
    · have c := (unhide hcell2) i h
      have hbb := bt_lt s i
      have C1 := hide (fun W => within_A (bt s i) W)
      have C2 := hide (fun W => within_D (bt s i) W)
      have H3 : Hid (isB (bt s i) = (isA (bt s i) || isD (bt s i) || bt s i == 45)) := hide rfl
      have HY := hide (nmR_yes s i h)
      have HX := hide (nmR_no s i h)
      generalize bt s i = x at *
      cases hA : isA x
      · rw [hA] at C1 H3
        cases hD : isD x
        · rw [hD] at C2 H3
          by_cases h45 : x = 45
          · have hq : (((x : Nat) : Int) != 45) = false := by subst h45; rfl
            have HR2 : Hid (R = nmR s (i + 1)) := hide (by rw [unhide HR, (unhide HY) (by rw [unhide H3, h45]; rfl)])
            clear h45 HN hA hD
            go_wp2_with (first | (go_at_call 32; refine ((unhide C1) _).mono ?_; rintro e w' ⟨rfl, hw⟩; obtain rfl := hw.symm; clear hw C1) | (go_at_call 32; refine ((unhide C2) _).mono ?_; rintro e w' ⟨rfl, hw⟩; obtain rfl := hw.symm; clear hw))
            go_roundw
            case rel => exact ⟨i + 1, by omega, by go_num, HR2, by first | rfl | trivial⟩
            case measure => simp [intOf]; omega
          · have hq : (((x : Nat) : Int) != 45) = true := by simp; omega
            have HR2 : Hid (R = false) := hide (by rw [unhide HR, (unhide HX) (by rw [unhide H3]; simpa using h45)])
            clear h45 HN hA hD
            go_wp2_with (first | (go_at_call 32; refine ((unhide C1) _).mono ?_; rintro e w' ⟨rfl, hw⟩; obtain rfl := hw.symm; clear hw C1) | (go_at_call 32; refine ((unhide C2) _).mono ?_; rintro e w' ⟨rfl, hw⟩; obtain rfl := hw.symm; clear hw))
            go_ret
            exact ⟨by rw [unhide HR2]; rfl, unhide hb2⟩
        · rw [hD] at C2 H3
          have HR2 : Hid (R = nmR s (i + 1)) := hide (by rw [unhide HR, (unhide HY) (by rw [unhide H3]; simp)])
          clear HN hA hD
          go_wp2_with (first | (go_at_call 32; refine ((unhide C1) _).mono ?_; rintro e w' ⟨rfl, hw⟩; obtain rfl := hw.symm; clear hw C1) | (go_at_call 32; refine ((unhide C2) _).mono ?_; rintro e w' ⟨rfl, hw⟩; obtain rfl := hw.symm; clear hw))
          go_roundw
          case rel => exact ⟨i + 1, by omega, by go_num, HR2, by first | rfl | trivial⟩
          case measure => simp [intOf]; omega
      · rw [hA] at C1 H3
        have HR2 : Hid (R = nmR s (i + 1)) := hide (by rw [unhide HR, (unhide HY) (by rw [unhide H3]; simp)])
        clear HN hA
        go_wp2_with (go_at_call 32; refine ((unhide C1) _).mono ?_; rintro e w' ⟨rfl, hw⟩; obtain rfl := hw.symm; clear hw)
        go_roundw
        case rel => exact ⟨i + 1, by omega, by go_num, HR2, by first | rfl | trivial⟩
        case measure => simp [intOf]; omega
    · have HR2 : Hid (R = true) := hide (by rw [unhide HR, nmR_end s i h])
      obtain rfl : i = s.size := by omega
      go_wp2
      go_ret
      exact ⟨by rw [unhide HR2]; rfl, unhide hb2⟩
theorem isB_no {x : Nat} (h : isA x = false) (h2 : isD x = false) (h3 : x ≠ 45) : isB x = false := by
  have e : isB x = (isA x || isD x || x == 45) := rfl
  rw [e, h, h2]
  simpa using h3
set_option maxRecDepth 100000 in
set_option maxHeartbeats 2000000 in
theorem nameS (s : ByteArray) (w : World) (hs : s.size ≤ 1048576) : Calls Tryd.prog 40 #[.string s] w fun e w' => e = .returned (.bool (nmB s)) ∧ w' = w := by
  by_cases h0 : s.size < 1
  · have HN := hide (nm_short s (by omega))
    generalize nmB s = R at *
    have h0i : (s.size : Int) < 1 := by omega
    go_enter Tryd.func40, Tryd.ntmps40
    go_wp2
    go_ret
    exact ⟨by rw [unhide HN]; rfl, rfl⟩
  have h0i : ¬ (s.size : Int) < 1 := by omega
  have h0b : decide ((s.size : Int) < 1) = false := decide_eq_false h0i
  by_cases h20 : 20 < s.size
  · have HN := hide (nm_long s h20)
    generalize nmB s = R at *
    have h20i : (20 : Int) < (s.size : Int) := by omega
    go_enter Tryd.func40, Tryd.ntmps40
    go_wp2
    go_ret
    exact ⟨by rw [unhide HN]; rfl, rfl⟩
  have h20i : ¬ (20 : Int) < (s.size : Int) := by omega
  have h20b : decide ((20 : Int) < (s.size : Int)) = false := decide_eq_false h20i
  have hlt : (0 : Int) < (s.size : Int) := by omega
  have f0 : ∀ h, (s[0]'h).toNat = bt s 0 := fun h => bt_get s 0 h
  have hbb := bt_lt s 0
  have HF := hide (nm_first s)
  have HRS := hide (nm_rest s (by omega) (by omega))
  by_cases hA : bt s 0 < 97
  · have HN : Hid (nmB s = false) := hide ((unhide HF) (by unfold isA; rw [decide_eq_false (by omega)]; rfl))
    have hAi : (bt s 0 : Int) < 97 := by omega
    generalize nmB s = R at *
    go_enter Tryd.func40, Tryd.ntmps40
    go_wp2
    go_ret
    exact ⟨by rw [unhide HN]; rfl, rfl⟩
  have hAi : ¬ (bt s 0 : Int) < 97 := by omega
  have hAb : decide ((bt s 0 : Int) < 97) = false := decide_eq_false hAi
  by_cases hZ : 122 < bt s 0
  · have HN : Hid (nmB s = false) := hide ((unhide HF) (by unfold isA; rw [decide_eq_false (show ¬ bt s 0 ≤ 122 by omega)]; simp))
    have hZi : (122 : Int) < (bt s 0 : Int) := by omega
    generalize nmB s = R at *
    go_enter Tryd.func40, Tryd.ntmps40
    go_wp2
    go_ret
    exact ⟨by rw [unhide HN]; rfl, rfl⟩
  have hZi : ¬ (122 : Int) < (bt s 0 : Int) := by omega
  have hZb : decide ((122 : Int) < (bt s 0 : Int)) = false := decide_eq_false hZi
  have HN : Hid (nmB s = nmR s 1) := hide ((unhide HRS) (by unfold isA; rw [decide_eq_true (by omega), decide_eq_true (by omega)]; rfl))
  have HBT := hide (fun i h => bt_get s i h)
  clear HF HRS
  generalize nmB s = R at *
  go_enter Tryd.func40, Tryd.ntmps40
  go_upto_block 0 with fail
  clear f0
  generalize bt s 0 = x0 at *
  go_wp2
  go_loopw [3, 4] (fun iv bv wr => ∃ i : Nat, 1 ≤ i ∧ i ≤ s.size ∧ iv = .int .i64 (i : Int) ∧ Hid (R = nmR s i) ∧ wr = w) (fun iv _ _ => (s.size - intOf iv).toNat)
  case atStart => exact ⟨1, by omega, by omega, rfl, HN, by first | rfl | trivial⟩
  case round =>
    obtain ⟨i, hi1, hi, rfl, HR, rfl⟩ := hrel
    by_cases h : i < s.size
    · have f1 : ∀ h, (s[i]'h).toNat = bt s i := fun h => (unhide HBT) i h
      have hb1 := bt_lt s i
      have HY := hide (nmR_yes s i h)
      have HX := hide (nmR_no s i h)
      generalize bt s i = x at *
      have yes : isB x = true → Hid (R = nmR s (i + 1)) := fun e => hide (by rw [unhide HR, (unhide HY) e])
      have no : isB x = false → Hid (R = false) := fun e => hide (by rw [unhide HR, (unhide HX) e])
      clear HN
      by_cases a : x < 97
      · by_cases b : x < 48
        · by_cases hq : x = 45
          · have c0 : (x : Int) < 97 := by omega
            have c1 : (x : Int) < 48 := by omega
            have cq : ((x : Int) != 45) = false := by subst hq; rfl
            have HR2 := yes (by subst hq; rfl)
            clear yes no
            go_wp2
            go_roundw
            case rel => exact ⟨i + 1, by omega, by omega, by go_num, HR2, by first | rfl | trivial⟩
            case measure => simp [intOf]; omega
          · have c0 : (x : Int) < 97 := by omega
            have c1 : (x : Int) < 48 := by omega
            have cq : ((x : Int) != 45) = true := by simp; omega
            have HR2 := no (isB_no (by unfold isA; rw [decide_eq_false (show ¬ 97 ≤ x by omega)]; rfl) (by unfold isD; rw [decide_eq_false (show ¬ 48 ≤ x by omega)]; rfl) (by omega))
            clear yes no
            go_wp2
            go_ret
            exact ⟨by rw [unhide HR2]; rfl, by first | rfl | trivial⟩
        · by_cases b2 : 57 < x
          · have c0 : (x : Int) < 97 := by omega
            have c1 : ¬ (x : Int) < 48 := by omega
            have c2 : (57 : Int) < (x : Int) := by omega
            have cq : ((x : Int) != 45) = true := by simp; omega
            have HR2 := no (isB_no (by unfold isA; rw [decide_eq_false (show ¬ 97 ≤ x by omega)]; rfl) (by unfold isD; rw [decide_eq_false (show ¬ x ≤ 57 by omega)]; simp) (by omega))
            clear yes no
            go_wp2
            go_ret
            exact ⟨by rw [unhide HR2]; rfl, by first | rfl | trivial⟩
          · have c0 : (x : Int) < 97 := by omega
            have c1 : ¬ (x : Int) < 48 := by omega
            have c2 : ¬ (57 : Int) < (x : Int) := by omega
            have HR2 := yes (by unfold isB; rw [decide_eq_true (show 48 ≤ x by omega), decide_eq_true (show x ≤ 57 by omega)]; simp)
            clear yes no
            go_wp2
            go_roundw
            case rel => exact ⟨i + 1, by omega, by omega, by go_num, HR2, by first | rfl | trivial⟩
            case measure => simp [intOf]; omega
      · by_cases a2 : 122 < x
        · have c0 : ¬ (x : Int) < 97 := by omega
          have c1 : (122 : Int) < (x : Int) := by omega
          have c2 : ¬ (x : Int) < 48 := by omega
          have c3 : (57 : Int) < (x : Int) := by omega
          have cq : ((x : Int) != 45) = true := by simp; omega
          have HR2 := no (isB_no (by unfold isA; rw [decide_eq_false (show ¬ x ≤ 122 by omega)]; simp) (by unfold isD; rw [decide_eq_false (show ¬ x ≤ 57 by omega)]; simp) (by omega))
          clear yes no
          go_wp2
          go_ret
          exact ⟨by rw [unhide HR2]; rfl, by first | rfl | trivial⟩
        · have c0 : ¬ (x : Int) < 97 := by omega
          have c1 : ¬ (122 : Int) < (x : Int) := by omega
          have HR2 := yes (by unfold isB isA; rw [decide_eq_true (show 97 ≤ x by omega), decide_eq_true (show x ≤ 122 by omega)]; rfl)
          clear yes no
          go_wp2
          go_roundw
          case rel => exact ⟨i + 1, by omega, by omega, by go_num, HR2, by first | rfl | trivial⟩
          case measure => simp [intOf]; omega
    · have HR2 : Hid (R = true) := hide (by rw [unhide HR, nmR_end s i h])
      obtain rfl : i = s.size := by omega
      go_wp2
      go_ret
      exact ⟨by rw [unhide HR2]; rfl, by first | rfl | trivial⟩
end Go.Proofs.YtaipnmmlfbfcnaaDoor.Rop
