/- Several texts in one. -/
import Derived.Test.YtiodngmbpnkoeaaDoorME
import Derived.Test.YtiodngmbpnkoeaaDoorCallsK
import Derived.Test.YtiodngmbpnkoeaaDoorFolI
/- Where a word ends, as the program and the specification tell it. -/
namespace Go.Proofs.YtiodngmbpnkoeaaDoor
namespace Cas
open Go.RowKit
theorem catI_any (p : Int) (w : World) (ht : TabAt w) : Calls Tryd.prog 54 #[.int .i64 p] w fun e w' => e = .returned (.int .i64 (Chr.cat p)) ∧ Below w.heap.size w w' := by
  have := implCat p w ht
  rw [Chr.cat_i] at this
  exact this
theorem catS_any (p : Int) (w : World) : Calls Tryd.prog 55 #[.int .i64 p] w fun e w' => e = .returned (.int .i64 (Chr.cat p)) ∧ Below w.heap.size w w' := specCat p w
set_option maxRecDepth 100000 in
theorem hasCase_any (p : Int) (w : World) (ht : TabAt w) : Calls Tryd.prog 32 #[.int .i64 p] w fun e w' => e = .returned (.bool (cas p)) ∧ Below w.heap.size w w' := by
  have C := hide (catI_any p w ht)
  clear ht
  have HE : Hid (cas p = (Chr.cat p == 4 || Chr.cat p == 5 || Chr.cat p == 6)) := hide rfl
  generalize cas p = D at *
  generalize Chr.cat p = c at *
  cases h4 : (c == 4) <;> cases h5 : (c == 5) <;> cases h6 : (c == 6)
  all_goals
    rw [h4, h5, h6] at HE
    go_enter Tryd.func32, Tryd.ntmps32
    go_wp2_with (go_at_call 54; refine (unhide C).mono ?_; rintro e w2 ⟨rfl, hb2⟩)
    go_ret
    exact ⟨by rw [unhide HE]; rfl, hb2⟩
set_option maxRecDepth 100000 in
theorem cased_c (p : Int) (w : World) : Calls Tryd.prog 35 #[.int .i64 p] w fun e w' => e = .returned (.bool (cas p)) ∧ Below w.heap.size w w' := by
  have C := hide (catS_any p w)
  have HE : Hid (cas p = (Chr.cat p == 4 || Chr.cat p == 5 || Chr.cat p == 6)) := hide rfl
  generalize cas p = D at *
  generalize Chr.cat p = c at *
  cases h4 : (c == 4) <;> cases h5 : (c == 5)
  all_goals
    rw [h4, h5] at HE
    go_enter Tryd.func35, Tryd.ntmps35
    go_wp2_with (go_at_call 55; refine (unhide C).mono ?_; rintro e w2 ⟨rfl, hb2⟩)
    go_ret
    exact ⟨by rw [unhide HE]; rfl, hb2⟩

end Cas
end Go.Proofs.YtiodngmbpnkoeaaDoor
/- Where a word ends, as the program tells it. -/
namespace Go.Proofs.YtiodngmbpnkoeaaDoor
namespace Cas
open Go.RowKit
set_option maxRecDepth 100000 in
set_option maxHeartbeats 8000000 in
theorem endsI (b off cap n : Nat) (L : List Int) (w : World) (hb : b < w.heap.size) (hc : ∀ i, i < L.length → w.cell? ⟨b, off + i, none⟩ = some (.int .i64 (nth L i))) (hL : L.length ≤ 65536) (hn : n < L.length) (ht : TabAt w) : Calls Tryd.prog 51 #[.slice (some ⟨b, off, none⟩) L.length cap, .int .i64 (n : Int)] w fun e w' => e = .returned (.bool (endW L n)) ∧ Below w.heap.size w w' := by
  have HC := hide hc
  clear hc
  have HT := hide ht
  clear ht
  have HE : Hid (endW L n = (ahC L n && bhC L (L.length - (n + 1)) (n + 1))) := hide rfl
  generalize endW L n = D at *
  go_enter Tryd.func51, Tryd.ntmps51
  go_wp2_with fail
  go_loopw [5] (fun x wr => ∃ k : Nat, x = .int .i64 ((k : Int) - 1) ∧ k ≤ n ∧ Hid (ahC L k = ahC L n) ∧ Hid (Below w.heap.size w wr)) (fun x _ => ((intOf x) + 1).toNat)
  case atStart => exact ⟨n, by go_num, by omega, hide rfl, hide (Below.refl _ _)⟩
  case round =>
    obtain ⟨k, rfl, hk, HK, TB⟩ := hrel
    cases k with
    | zero =>
      have HA : Hid (ahC L n = false) := hide (by rw [← unhide HK]; rfl)
      rw [show (((0 : Nat) : Int) - 1) = -1 from rfl]
      go_wp2_with fail
      go_loopw [6] (fun x wr => ∃ j : Nat, x = .int .i64 (j : Int) ∧ n + 1 ≤ j ∧ j ≤ L.length ∧ Hid (bhC L (L.length - j) j = bhC L (L.length - (n + 1)) (n + 1)) ∧ Hid (Below w.heap.size w wr)) (fun x _ => L.length - (intOf x).toNat)
      case atStart => exact ⟨n + 1, by go_num, by omega, by omega, hide rfl, TB⟩
      case round =>
        obtain ⟨j, rfl, hj1, hj2, HJ, UB⟩ := hrel
        by_cases hjl : j < L.length
        · have d0 := ((unhide UB).cell (p := ⟨b, off + j, none⟩) hb).trans ((unhide HC) j hjl)
          have hub := Nat.lt_of_lt_of_le hb (unhide UB).size
          have hne : ((j : Int) == (L.length : Int)) = false := by rw [beq_eq_false_iff_ne]; omega
          obtain ⟨z, hz⟩ : ∃ z, nth L j = z := ⟨_, rfl⟩
          have HZ := hide hz
          rw [hz] at d0
          clear hz
          have DC := hide (fun W h => catI_any z W h)
          have DH := hide (fun W h => hasCase_any z W h)
          have el : L.length - j = (L.length - (j + 1)) + 1 := by omega
          cases hmz : (Chr.cat z == 3)
          · have HB2 : Hid (bhC L (L.length - (n + 1)) (n + 1) = !cas z) := hide (by rw [← unhide HJ, el, bh_end (show mk3 (L.getD j 0) = false by unfold mk3; rw [show L.getD j 0 = z from unhide HZ]; exact hmz), show L.getD j 0 = z from unhide HZ])
            clear el
            have HD2 : Hid (D = false) := hide (by rw [unhide HE, unhide HA]; rfl)
            go_wp2_with (go_at_call_of 54 z; refine ((unhide DC) _ ((unhide HT).below (unhide UB))).mono ?_; rintro e w6 ⟨rfl, hb6⟩; have c6 := (hb6.cell (p := ⟨b, off + j, none⟩) hub).trans d0; have g6 := Nat.lt_of_lt_of_le hub hb6.size; have U6 := hide (join2 (unhide UB) hb6); clear hb6)
            go_ret
            exact ⟨by rw [unhide HD2]; rfl, unhide U6⟩
          · have HJ2 : Hid (bhC L (L.length - (j + 1)) (j + 1) = bhC L (L.length - (n + 1)) (n + 1)) := hide (by rw [← unhide HJ, el, bh_on (show mk3 (L.getD j 0) = true by unfold mk3; rw [show L.getD j 0 = z from unhide HZ]; exact hmz)])
            clear el
            go_wp2_with (go_at_call_of 54 z; refine ((unhide DC) _ ((unhide HT).below (unhide UB))).mono ?_; rintro e w6 ⟨rfl, hb6⟩; have U6 := hide (join2 (unhide UB) hb6); clear hb6)
            go_roundw
            case rel => exact ⟨j + 1, by go_num, by omega, by omega, HJ2, U6⟩
            case measure => simp [intOf]; omega
        · have hjj : j = L.length := by omega
          have HB2 : Hid (bhC L (L.length - (n + 1)) (n + 1) = true) := hide (by rw [← unhide HJ, hjj, Nat.sub_self]; rfl)
          have heq : ((j : Int) == (L.length : Int)) = true := by rw [hjj]; simp
          clear hjj
          have HD2 : Hid (D = false) := hide (by rw [unhide HE, unhide HA]; rfl)
          go_wp2
          go_ret
          exact ⟨by rw [unhide HD2]; rfl, unhide UB⟩
    | succ k =>
      have c0 := ((unhide TB).cell (p := ⟨b, off + k, none⟩) hb).trans ((unhide HC) k (by omega))
      have hbr := Nat.lt_of_lt_of_le hb (unhide TB).size
      have hk1 : ((k + 1 : Nat) : Int) - 1 = (k : Int) := by omega
      obtain ⟨y, hy⟩ : ∃ y, nth L k = y := ⟨_, rfl⟩
      have HY := hide hy
      rw [hy] at c0
      clear hy
      have CC := hide (fun W h => catI_any y W h)
      have YH := hide (fun W h => hasCase_any y W h)
      cases hmy : (Chr.cat y == 3)
      · have HA : Hid (ahC L n = cas y) := hide (by rw [← unhide HK, ah_end (show mk3 (L.getD k 0) = false by unfold mk3; rw [show L.getD k 0 = y from unhide HY]; exact hmy), show L.getD k 0 = y from unhide HY])
        go_wp2_with (go_at_call 54; refine ((unhide CC) _ ((unhide HT).below (unhide TB))).mono ?_; rintro e w5 ⟨rfl, hb5⟩; have T5 := hide (join2 (unhide TB) hb5); clear hb5)
        go_loopw [6] (fun x wr => ∃ j : Nat, x = .int .i64 (j : Int) ∧ n + 1 ≤ j ∧ j ≤ L.length ∧ Hid (bhC L (L.length - j) j = bhC L (L.length - (n + 1)) (n + 1)) ∧ Hid (Below w.heap.size w wr)) (fun x _ => L.length - (intOf x).toNat)
        case atStart => exact ⟨n + 1, by go_num, by omega, by omega, hide rfl, T5⟩
        case round =>
          obtain ⟨j, rfl, hj1, hj2, HJ, UB⟩ := hrel
          by_cases hjl : j < L.length
          · have d0 := ((unhide UB).cell (p := ⟨b, off + j, none⟩) hb).trans ((unhide HC) j hjl)
            have hub := Nat.lt_of_lt_of_le hb (unhide UB).size
            have hne : ((j : Int) == (L.length : Int)) = false := by rw [beq_eq_false_iff_ne]; omega
            obtain ⟨z, hz⟩ : ∃ z, nth L j = z := ⟨_, rfl⟩
            have HZ := hide hz
            rw [hz] at d0
            clear hz
            have DC := hide (fun W h => catI_any z W h)
            have DH := hide (fun W h => hasCase_any z W h)
            have el : L.length - j = (L.length - (j + 1)) + 1 := by omega
            cases hmz : (Chr.cat z == 3)
            · have HB2 : Hid (bhC L (L.length - (n + 1)) (n + 1) = !cas z) := hide (by rw [← unhide HJ, el, bh_end (show mk3 (L.getD j 0) = false by unfold mk3; rw [show L.getD j 0 = z from unhide HZ]; exact hmz), show L.getD j 0 = z from unhide HZ])
              clear el
              have yc := ((unhide UB).cell (p := ⟨b, off + k, none⟩) hb).trans ((unhide HC) k (by omega))
              rw [unhide HY] at yc
              cases hcy : cas y
              · rw [hcy] at YH
                have HD2 : Hid (D = false) := hide (by rw [unhide HE, unhide HA, hcy]; rfl)
                go_wp2_with (first | (go_at_call_of 54 z; refine ((unhide DC) _ ((unhide HT).below (unhide UB))).mono ?_; rintro e w6 ⟨rfl, hb6⟩; have c6 := (hb6.cell (p := ⟨b, off + j, none⟩) hub).trans d0; have g6 := Nat.lt_of_lt_of_le hub hb6.size; have U6 := hide (join2 (unhide UB) hb6); have y6 := (hb6.cell (p := ⟨b, off + k, none⟩) hub).trans yc; clear hb6) | (go_at_call_of 32 y; refine ((unhide YH) _ ((unhide HT).below (unhide U6))).mono ?_; rintro e w7 ⟨rfl, hb7⟩; have c7 := (hb7.cell (p := ⟨b, off + j, none⟩) g6).trans c6; have g7 := Nat.lt_of_lt_of_le g6 hb7.size; have U7 := hide (join2 (unhide U6) hb7); clear hb7))
                go_ret
                exact ⟨by rw [unhide HD2]; rfl, unhide U7⟩
              · rw [hcy] at YH
                have HD2 : Hid (D = !cas z) := hide (by rw [unhide HE, unhide HA, hcy, unhide HB2]; rfl)
                go_wp2_with (first | (go_at_call_of 54 z; refine ((unhide DC) _ ((unhide HT).below (unhide UB))).mono ?_; rintro e w6 ⟨rfl, hb6⟩; have c6 := (hb6.cell (p := ⟨b, off + j, none⟩) hub).trans d0; have g6 := Nat.lt_of_lt_of_le hub hb6.size; have U6 := hide (join2 (unhide UB) hb6); have y6 := (hb6.cell (p := ⟨b, off + k, none⟩) hub).trans yc; clear hb6) | (go_at_call_of 32 y; refine ((unhide YH) _ ((unhide HT).below (unhide U6))).mono ?_; rintro e w7 ⟨rfl, hb7⟩; have c7 := (hb7.cell (p := ⟨b, off + j, none⟩) g6).trans c6; have g7 := Nat.lt_of_lt_of_le g6 hb7.size; have U7 := hide (join2 (unhide U6) hb7); clear hb7) | (go_at_call_of 32 z; refine ((unhide DH) _ ((unhide HT).below (unhide U7))).mono ?_; rintro e w8 ⟨rfl, hb8⟩; have U8 := hide (join2 (unhide U7) hb8); clear hb8))
                go_ret
                exact ⟨by rw [unhide HD2]; rfl, unhide U8⟩
            · have HJ2 : Hid (bhC L (L.length - (j + 1)) (j + 1) = bhC L (L.length - (n + 1)) (n + 1)) := hide (by rw [← unhide HJ, el, bh_on (show mk3 (L.getD j 0) = true by unfold mk3; rw [show L.getD j 0 = z from unhide HZ]; exact hmz)])
              clear el
              go_wp2_with (go_at_call_of 54 z; refine ((unhide DC) _ ((unhide HT).below (unhide UB))).mono ?_; rintro e w6 ⟨rfl, hb6⟩; have U6 := hide (join2 (unhide UB) hb6); clear hb6)
              go_roundw
              case rel => exact ⟨j + 1, by go_num, by omega, by omega, HJ2, U6⟩
              case measure => simp [intOf]; omega
          · have hjj : j = L.length := by omega
            have HB2 : Hid (bhC L (L.length - (n + 1)) (n + 1) = true) := hide (by rw [← unhide HJ, hjj, Nat.sub_self]; rfl)
            have heq : ((j : Int) == (L.length : Int)) = true := by rw [hjj]; simp
            clear hjj
            have yc := ((unhide UB).cell (p := ⟨b, off + k, none⟩) hb).trans ((unhide HC) k (by omega))
            have hub := Nat.lt_of_lt_of_le hb (unhide UB).size
            rw [unhide HY] at yc
            have HD2 : Hid (D = cas y) := hide (by rw [unhide HE, unhide HA, unhide HB2]; simp)
            cases hcy : cas y
            all_goals
              rw [hcy] at YH HD2
              go_wp2_with (go_at_call_of 32 y; refine ((unhide YH) _ ((unhide HT).below (unhide UB))).mono ?_; rintro e w7 ⟨rfl, hb7⟩; have U7 := hide (join2 (unhide UB) hb7); clear hb7)
              go_ret
              exact ⟨by rw [unhide HD2]; rfl, unhide U7⟩
      · have HK2 : Hid (ahC L k = ahC L n) := hide (by rw [← unhide HK, ah_on (show mk3 (L.getD k 0) = true by unfold mk3; rw [show L.getD k 0 = y from unhide HY]; exact hmy)])
        go_wp2_with (go_at_call 54; refine ((unhide CC) _ ((unhide HT).below (unhide TB))).mono ?_; rintro e w5 ⟨rfl, hb5⟩; have T5 := hide (join2 (unhide TB) hb5); clear hb5)
        go_roundw
        case rel => exact ⟨k, by go_num, by omega, HK2, T5⟩
        case measure => simp [intOf]
end Cas
end Go.Proofs.YtiodngmbpnkoeaaDoor
/- Where a word ends, as the specification tells it. -/
namespace Go.Proofs.YtiodngmbpnkoeaaDoor
namespace Cas
open Go.RowKit
set_option maxRecDepth 100000 in
set_option maxHeartbeats 8000000 in
theorem endsS (b off cap n : Nat) (L : List Int) (w : World) (hb : b < w.heap.size) (hc : ∀ i, i < L.length → w.cell? ⟨b, off + i, none⟩ = some (.int .i64 (nth L i))) (hL : L.length ≤ 65536) (hn : n < L.length) : Calls Tryd.prog 53 #[.slice (some ⟨b, off, none⟩) L.length cap, .int .i64 (n : Int)] w fun e w' => e = .returned (.bool (endW L n)) ∧ Below w.heap.size w w' := by
  have HC := hide hc
  clear hc
  have HE : Hid (endW L n = (ahC L n && bhC L (L.length - (n + 1)) (n + 1))) := hide rfl
  generalize endW L n = D at *
  go_enter Tryd.func53, Tryd.ntmps53
  go_wp2_with fail
  go_loopw [5] (fun x wr => ∃ k : Nat, x = .int .i64 ((k : Int) - 1) ∧ k ≤ n ∧ Hid (ahC L k = ahC L n) ∧ Hid (Below w.heap.size w wr)) (fun x _ => ((intOf x) + 1).toNat)
  case atStart => exact ⟨n, by go_num, by omega, hide rfl, hide (Below.refl _ _)⟩
  case round =>
    obtain ⟨k, rfl, hk, HK, TB⟩ := hrel
    cases k with
    | zero =>
      have HA : Hid (ahC L n = false) := hide (by rw [← unhide HK]; rfl)
      rw [show (((0 : Nat) : Int) - 1) = -1 from rfl]
      go_wp2_with fail
      go_loopw [6] (fun x wr => ∃ j : Nat, x = .int .i64 (j : Int) ∧ n + 1 ≤ j ∧ j ≤ L.length ∧ Hid (bhC L (L.length - j) j = bhC L (L.length - (n + 1)) (n + 1)) ∧ Hid (Below w.heap.size w wr)) (fun x _ => L.length - (intOf x).toNat)
      case atStart => exact ⟨n + 1, by go_num, by omega, by omega, hide rfl, TB⟩
      case round =>
        obtain ⟨j, rfl, hj1, hj2, HJ, UB⟩ := hrel
        by_cases hjl : j < L.length
        · have d0 := ((unhide UB).cell (p := ⟨b, off + j, none⟩) hb).trans ((unhide HC) j hjl)
          have hub := Nat.lt_of_lt_of_le hb (unhide UB).size
          have hne : ((j : Int) == (L.length : Int)) = false := by rw [beq_eq_false_iff_ne]; omega
          obtain ⟨z, hz⟩ : ∃ z, nth L j = z := ⟨_, rfl⟩
          have HZ := hide hz
          rw [hz] at d0
          clear hz
          have DC := hide (fun W => catS_any z W)
          have DH := hide (fun W => cased_c z W)
          have el : L.length - j = (L.length - (j + 1)) + 1 := by omega
          cases hmz : (Chr.cat z == 3)
          · have HB2 : Hid (bhC L (L.length - (n + 1)) (n + 1) = !cas z) := hide (by rw [← unhide HJ, el, bh_end (show mk3 (L.getD j 0) = false by unfold mk3; rw [show L.getD j 0 = z from unhide HZ]; exact hmz), show L.getD j 0 = z from unhide HZ])
            clear el
            have HD2 : Hid (D = false) := hide (by rw [unhide HE, unhide HA]; rfl)
            go_wp2_with (go_at_call_of 55 z; refine ((unhide DC) _).mono ?_; rintro e w6 ⟨rfl, hb6⟩; have c6 := (hb6.cell (p := ⟨b, off + j, none⟩) hub).trans d0; have g6 := Nat.lt_of_lt_of_le hub hb6.size; have U6 := hide (join2 (unhide UB) hb6); clear hb6)
            go_ret
            exact ⟨by rw [unhide HD2]; rfl, unhide U6⟩
          · have HJ2 : Hid (bhC L (L.length - (j + 1)) (j + 1) = bhC L (L.length - (n + 1)) (n + 1)) := hide (by rw [← unhide HJ, el, bh_on (show mk3 (L.getD j 0) = true by unfold mk3; rw [show L.getD j 0 = z from unhide HZ]; exact hmz)])
            clear el
            go_wp2_with (go_at_call_of 55 z; refine ((unhide DC) _).mono ?_; rintro e w6 ⟨rfl, hb6⟩; have U6 := hide (join2 (unhide UB) hb6); clear hb6)
            go_roundw
            case rel => exact ⟨j + 1, by go_num, by omega, by omega, HJ2, U6⟩
            case measure => simp [intOf]; omega
        · have hjj : j = L.length := by omega
          have HB2 : Hid (bhC L (L.length - (n + 1)) (n + 1) = true) := hide (by rw [← unhide HJ, hjj, Nat.sub_self]; rfl)
          have heq : ((j : Int) == (L.length : Int)) = true := by rw [hjj]; simp
          clear hjj
          have HD2 : Hid (D = false) := hide (by rw [unhide HE, unhide HA]; rfl)
          go_wp2
          go_ret
          exact ⟨by rw [unhide HD2]; rfl, unhide UB⟩
    | succ k =>
      have c0 := ((unhide TB).cell (p := ⟨b, off + k, none⟩) hb).trans ((unhide HC) k (by omega))
      have hbr := Nat.lt_of_lt_of_le hb (unhide TB).size
      have hk1 : ((k + 1 : Nat) : Int) - 1 = (k : Int) := by omega
      obtain ⟨y, hy⟩ : ∃ y, nth L k = y := ⟨_, rfl⟩
      have HY := hide hy
      rw [hy] at c0
      clear hy
      have CC := hide (fun W => catS_any y W)
      have YH := hide (fun W => cased_c y W)
      cases hmy : (Chr.cat y == 3)
      · have HA : Hid (ahC L n = cas y) := hide (by rw [← unhide HK, ah_end (show mk3 (L.getD k 0) = false by unfold mk3; rw [show L.getD k 0 = y from unhide HY]; exact hmy), show L.getD k 0 = y from unhide HY])
        go_wp2_with (go_at_call 55; refine ((unhide CC) _).mono ?_; rintro e w5 ⟨rfl, hb5⟩; have T5 := hide (join2 (unhide TB) hb5); clear hb5)
        go_loopw [6] (fun x wr => ∃ j : Nat, x = .int .i64 (j : Int) ∧ n + 1 ≤ j ∧ j ≤ L.length ∧ Hid (bhC L (L.length - j) j = bhC L (L.length - (n + 1)) (n + 1)) ∧ Hid (Below w.heap.size w wr)) (fun x _ => L.length - (intOf x).toNat)
        case atStart => exact ⟨n + 1, by go_num, by omega, by omega, hide rfl, T5⟩
        case round =>
          obtain ⟨j, rfl, hj1, hj2, HJ, UB⟩ := hrel
          by_cases hjl : j < L.length
          · have d0 := ((unhide UB).cell (p := ⟨b, off + j, none⟩) hb).trans ((unhide HC) j hjl)
            have hub := Nat.lt_of_lt_of_le hb (unhide UB).size
            have hne : ((j : Int) == (L.length : Int)) = false := by rw [beq_eq_false_iff_ne]; omega
            obtain ⟨z, hz⟩ : ∃ z, nth L j = z := ⟨_, rfl⟩
            have HZ := hide hz
            rw [hz] at d0
            clear hz
            have DC := hide (fun W => catS_any z W)
            have DH := hide (fun W => cased_c z W)
            have el : L.length - j = (L.length - (j + 1)) + 1 := by omega
            cases hmz : (Chr.cat z == 3)
            · have HB2 : Hid (bhC L (L.length - (n + 1)) (n + 1) = !cas z) := hide (by rw [← unhide HJ, el, bh_end (show mk3 (L.getD j 0) = false by unfold mk3; rw [show L.getD j 0 = z from unhide HZ]; exact hmz), show L.getD j 0 = z from unhide HZ])
              clear el
              have yc := ((unhide UB).cell (p := ⟨b, off + k, none⟩) hb).trans ((unhide HC) k (by omega))
              rw [unhide HY] at yc
              cases hcy : cas y
              · rw [hcy] at YH
                have HD2 : Hid (D = false) := hide (by rw [unhide HE, unhide HA, hcy]; rfl)
                go_wp2_with (first | (go_at_call_of 55 z; refine ((unhide DC) _).mono ?_; rintro e w6 ⟨rfl, hb6⟩; have c6 := (hb6.cell (p := ⟨b, off + j, none⟩) hub).trans d0; have g6 := Nat.lt_of_lt_of_le hub hb6.size; have U6 := hide (join2 (unhide UB) hb6); have y6 := (hb6.cell (p := ⟨b, off + k, none⟩) hub).trans yc; clear hb6) | (go_at_call_of 35 y; refine ((unhide YH) _).mono ?_; rintro e w7 ⟨rfl, hb7⟩; have c7 := (hb7.cell (p := ⟨b, off + j, none⟩) g6).trans c6; have g7 := Nat.lt_of_lt_of_le g6 hb7.size; have U7 := hide (join2 (unhide U6) hb7); clear hb7))
                go_ret
                exact ⟨by rw [unhide HD2]; rfl, unhide U7⟩
              · rw [hcy] at YH
                have HD2 : Hid (D = !cas z) := hide (by rw [unhide HE, unhide HA, hcy, unhide HB2]; rfl)
                go_wp2_with (first | (go_at_call_of 55 z; refine ((unhide DC) _).mono ?_; rintro e w6 ⟨rfl, hb6⟩; have c6 := (hb6.cell (p := ⟨b, off + j, none⟩) hub).trans d0; have g6 := Nat.lt_of_lt_of_le hub hb6.size; have U6 := hide (join2 (unhide UB) hb6); have y6 := (hb6.cell (p := ⟨b, off + k, none⟩) hub).trans yc; clear hb6) | (go_at_call_of 35 y; refine ((unhide YH) _).mono ?_; rintro e w7 ⟨rfl, hb7⟩; have c7 := (hb7.cell (p := ⟨b, off + j, none⟩) g6).trans c6; have g7 := Nat.lt_of_lt_of_le g6 hb7.size; have U7 := hide (join2 (unhide U6) hb7); clear hb7) | (go_at_call_of 35 z; refine ((unhide DH) _).mono ?_; rintro e w8 ⟨rfl, hb8⟩; have U8 := hide (join2 (unhide U7) hb8); clear hb8))
                go_ret
                exact ⟨by rw [unhide HD2]; rfl, unhide U8⟩
            · have HJ2 : Hid (bhC L (L.length - (j + 1)) (j + 1) = bhC L (L.length - (n + 1)) (n + 1)) := hide (by rw [← unhide HJ, el, bh_on (show mk3 (L.getD j 0) = true by unfold mk3; rw [show L.getD j 0 = z from unhide HZ]; exact hmz)])
              clear el
              go_wp2_with (go_at_call_of 55 z; refine ((unhide DC) _).mono ?_; rintro e w6 ⟨rfl, hb6⟩; have U6 := hide (join2 (unhide UB) hb6); clear hb6)
              go_roundw
              case rel => exact ⟨j + 1, by go_num, by omega, by omega, HJ2, U6⟩
              case measure => simp [intOf]; omega
          · have hjj : j = L.length := by omega
            have HB2 : Hid (bhC L (L.length - (n + 1)) (n + 1) = true) := hide (by rw [← unhide HJ, hjj, Nat.sub_self]; rfl)
            have heq : ((j : Int) == (L.length : Int)) = true := by rw [hjj]; simp
            clear hjj
            have yc := ((unhide UB).cell (p := ⟨b, off + k, none⟩) hb).trans ((unhide HC) k (by omega))
            have hub := Nat.lt_of_lt_of_le hb (unhide UB).size
            rw [unhide HY] at yc
            have HD2 : Hid (D = cas y) := hide (by rw [unhide HE, unhide HA, unhide HB2]; simp)
            cases hcy : cas y
            all_goals
              rw [hcy] at YH HD2
              go_wp2_with (go_at_call_of 35 y; refine ((unhide YH) _).mono ?_; rintro e w7 ⟨rfl, hb7⟩; have U7 := hide (join2 (unhide UB) hb7); clear hb7)
              go_ret
              exact ⟨by rw [unhide HD2]; rfl, unhide U7⟩
      · have HK2 : Hid (ahC L k = ahC L n) := hide (by rw [← unhide HK, ah_on (show mk3 (L.getD k 0) = true by unfold mk3; rw [show L.getD k 0 = y from unhide HY]; exact hmy)])
        go_wp2_with (go_at_call 55; refine ((unhide CC) _).mono ?_; rintro e w5 ⟨rfl, hb5⟩; have T5 := hide (join2 (unhide TB) hb5); clear hb5)
        go_roundw
        case rel => exact ⟨k, by go_num, by omega, HK2, T5⟩
        case measure => simp [intOf]

end Cas
end Go.Proofs.YtiodngmbpnkoeaaDoor
