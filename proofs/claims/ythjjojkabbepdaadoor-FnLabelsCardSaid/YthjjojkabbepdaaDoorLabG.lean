/- A number read back, as the program reads it. -/
import Derived.Test.YthjjojkabbepdaaDoorLabL
import Derived.Test.YthjjojkabbepdaaDoorLabD
namespace Go.Proofs.YthjjojkabbepdaaDoor.Lab
open Go.RowKit
set_option linter.unusedVariables false
theorem dec_ascii {s : ByteArray} {i : Nat} (h : bt s i < 128) : dP s i = bt s i ∧ dN s i = 1 := by
  unfold dP dN
  rw [decode_dec]
  unfold dec
  rw [if_pos h]
  exact ⟨rfl, rfl⟩
theorem tk_eq {acc wt q' t q : Int} (h : acc + wt * q' = q) : (acc + dgt q' t * wt) + (wt * (36 - t)) * lft q' t = q := by
  have e : q' = dgt q' t + (36 - t) * lft q' t := by
    unfold dgt lft
    have := Int.emod_add_mul_ediv (q' - t) (36 - t)
    omega
  rw [← h]
  conv => rhs; rw [e]
  rw [Int.mul_add, Int.mul_comm wt (dgt q' t), Int.mul_assoc]
  omega
set_option maxRecDepth 100000 in
theorem digitOfI (d : Int) (w : World) (h0 : 0 ≤ d) (h1 : d < 36) : Calls Tryd.prog 66 #[.int .i32 (dig d)] w fun e w' => e = .returned (.int .i64 d) ∧ w' = w := by
  by_cases h : d < 26
  · rw [show dig d = 97 + d by unfold dig; rw [if_pos h]]
    go_enter Tryd.func66, Tryd.ntmps66
    go_wp2
    go_ret
    exact ⟨ret_int (by first | rfl | omega), rfl⟩
  · rw [show dig d = 22 + d by unfold dig; rw [if_neg h]]
    have hU : undef = Value.tuple #[] := rfl
    have h97 : ¬ (97 : Int) ≤ 22 + d := by omega
    have h48 : (48 : Int) ≤ 22 + d := by omega
    have h57 : 22 + d ≤ 57 := by omega
    go_enter Tryd.func66, Tryd.ntmps66
    go_wp2
    go_ret
    exact ⟨ret_int (by first | rfl | omega), rfl⟩
theorem nums_at {X R : List Int} {c : Int} {j : Nat} (hj : X.length = j) (hb : ∀ x ∈ X ++ c :: R, 0 ≤ x ∧ x < 256) : (bt (strOfNums (X ++ c :: R)) j : Int) = c := by
  rw [bt_nums _ j (by simp; omega) hb]
  subst hj
  simp
set_option maxRecDepth 100000 in
set_option maxHeartbeats 4000000 in
theorem takeI (A : Nat) (q b : Int) (a : Bool) (R : List Int) (w : World) (hB : Bx w A b a) (h0 : 0 ≤ q) (h1 : q ≤ 1115226111) (hb0 : 0 ≤ b) (hb1 : b ≤ 100000000000) (hR : ∀ x ∈ R, 0 ≤ x ∧ x < 256) (hRl : R.length ≤ 100000) :
    Calls Tryd.prog 57 #[.pointer (some ⟨A, 0, none⟩), .string (strOfNums (num q b 36 ++ R))] w fun e w' => e = .returned (.tuple #[.int .i64 q, .int .i64 ((num q b 36).length : Int)]) ∧ Below w.heap.size w w' := by
  have hnl := num_len (b := b) (k := 36) h0 (by omega)
  have HAll : Hid (∀ x ∈ num q b 36 ++ R, 0 ≤ x ∧ x < 256) := hide (fun x hx => by
    rcases List.mem_append.1 hx with hx | hx
    · have := num_bd (b := b) (k := 36) h0 x hx
      omega
    · exact hR x hx)
  have hsz : (strOfNums (num q b 36 ++ R)).size ≤ 200000 := by rw [strOfNums_size, List.length_append]; omega
  have HSZ : Hid ((strOfNums (num q b 36 ++ R)).size = (num q b 36).length + R.length) := hide (by rw [strOfNums_size, List.length_append])
  have HDig := hide (num_bd (q := q) (b := b) (k := 36) h0)
  obtain ⟨s, hs⟩ : ∃ s, strOfNums (num q b 36 ++ R) = s := ⟨_, rfl⟩
  have HSS := hide hs
  rw [hs] at hsz HSZ ⊢
  clear hs hR hnl
  have HBx := hide hB
  clear hB
  have HB0 : Hid (Below w.heap.size w (w.iter s 0)) := hide ((Below.refl _ _).alloc (Nat.le_refl _) _)
  have HI0 : Hid ((w.iter s 0).heap[w.heap.size]? = some (.stringIter s 0)) := hide (World.iter_heap w s 0)
  go_enter Tryd.func57, Tryd.ntmps57
  go_wp2
  go_loopw [4, 6] (fun dv wv wr => ∃ (j : Nat) (X : List Int) (q' acc wt : Int), dv = .int .i64 acc ∧ wv = .int .i64 wt ∧ X.length = j ∧ Hid (X ++ num q' b (36 * ((j : Int) + 1)) = num q b 36) ∧ 0 ≤ q' ∧ q' ≤ q ∧ 0 ≤ acc ∧ 1 ≤ wt ∧ Hid (acc + wt * q' = q) ∧ j ≤ 100 ∧ Hid (wr.heap[w.heap.size]? = some (.stringIter s j)) ∧ Hid (Below w.heap.size w wr)) (fun _ _ wr => s.size - wr.iterPos w.heap.size)
  case atStart => exact ⟨0, [], q, 0, 1, rfl, rfl, rfl, hide rfl, h0, by omega, by omega, by omega, hide (by omega), by omega, HI0, HB0⟩
  case round =>
    obtain ⟨j, X, q', acc, wt, rfl, rfl, hXj, HN, q0, q1, a0, w1, HW, hj, HI, HB⟩ := hrel
    clear HB0 HI0
    have HM := hide (iterPos_of (unhide HI))
    have hBs := (unhide HB).size
    have ht := thr_bd (36 * ((j : Int) + 1)) b
    have HBr := hide (show Bx wr A b a from ((unhide HB).block A (unhide HBx).lt).trans (unhide HBx))
    have hnl := num_len (b := b) (k := 36) h0 (by omega)
    have hex : ∃ d Y, num q' b (36 * ((j : Int) + 1)) = dig d :: Y ∧ 0 ≤ d ∧ d < 36 ∧ ((q' < thr (36 * ((j : Int) + 1)) b ∧ d = q' ∧ Y = []) ∨ (thr (36 * ((j : Int) + 1)) b ≤ q' ∧ d = dgt q' (thr (36 * ((j : Int) + 1)) b) ∧ Y = num (lft q' (thr (36 * ((j : Int) + 1)) b)) b (36 * ((j : Int) + 1) + 36))) := by
      by_cases hlt : q' < thr (36 * ((j : Int) + 1)) b
      · exact ⟨q', [], num_last hlt, q0, by omega, .inl ⟨hlt, rfl, rfl⟩⟩
      · have hg := dgt_bd (q := q') (t := thr (36 * ((j : Int) + 1)) b) (by omega) ht.1 ht.2
        exact ⟨_, _, num_more (by omega), hg.1, hg.2, .inr ⟨by omega, rfl, rfl⟩⟩
    obtain ⟨d, Y, hnum, d0, d1, hcase⟩ := hex
    have hlen : j + 1 ≤ (num q b 36).length := by rw [← unhide HN, hnum, List.length_append]; simp; omega
    have hlt : j < s.size := by have := unhide HSZ; omega
    have hall : X ++ dig d :: (Y ++ R) = num q b 36 ++ R := by rw [← unhide HN, hnum]; simp
    have hbj : (bt s j : Int) = dig d := by
      rw [← unhide HSS, ← hall]
      exact nums_at hXj (by rw [hall]; exact unhide HAll)
    have hdb := dig_bd d0 d1
    obtain ⟨hdP, hdN⟩ := dec_ascii (s := s) (i := j) (by omega)
    have hnx : ∀ ty, (Instr.next (.pointer (some ⟨w.heap.size, 0, none⟩)) true ty).run Tryd.prog wr = .ok (.tuple #[.bool true, .int .i64 j, .int .i32 (dig d)]) (wr.iterAt w.heap.size s (j + 1)) := fun ty => by
      have := Lib.run_next_any_at (P := Tryd.prog) wr _ s j ty (unhide HI) hlt
      rw [show (Utf8.decode s j).1 = dP s j from rfl, show (Utf8.decode s j).2 = dN s j from rfl, hdP, hdN, hbj] at this
      exact this
    obtain ⟨w2, hw2⟩ : ∃ w2, wr.iterAt w.heap.size s (j + 1) = w2 := ⟨_, rfl⟩
    rw [hw2] at hnx
    have HI2 : Hid (w2.heap[w.heap.size]? = some (.stringIter s (j + 1))) := hide (by rw [← hw2]; exact Lib.iterAt_heap wr _ s j _ (unhide HI))
    have HB2 : Hid (Below w.heap.size w w2) := hide (by rw [← hw2]; exact Lib.below_iterAt (unhide HB) (Nat.le_refl _) _ _)
    have HM3 := hide (iterPos_of (unhide HI2))
    have HBx2 := hide (show Bx w2 A b a from ((unhide HB2).block A (unhide HBx).lt).trans (unhide HBx))
    have CD := hide (fun W => digitOfI d W d0 d1)
    have CT := hide (thrI A j b a w2 (unhide HBx2) (by omega) hb0 (by omega))
    clear hw2 hbj hdP hdN hall hdb
    rcases hcase with ⟨hlq, hd, hY⟩ | ⟨hge, hd, hY⟩
    · subst hd
      have HL : Hid ((num q b 36).length = j + 1) := hide (by rw [← unhide HN, hnum, hY, List.length_append, hXj]; rfl)
      have hprod : 0 ≤ d * wt := Int.mul_nonneg d0 (by omega)
      have hpe : acc + d * wt = q := by rw [Int.mul_comm]; exact unhide HW
      have hpm : wrap64 (d * wt) = d * wt := by unfold wrap64; omega
      have hps : wrap64 (acc + d * wt) = acc + d * wt := by unfold wrap64; omega
      have HPE := hide hpe
      clear hnum hY hpe
      generalize thr (36 * ((j : Int) + 1)) b = t at *
      obtain ⟨t0, t1⟩ := ht
      have hdn : ¬ d < 0 := by omega
      have hdm : ¬ (1115226112 : Int) < acc + d * wt := by rw [unhide HPE]; omega
      go_wp2_with (first
        | (go_at_call 66; refine ((unhide CD) _).mono ?_; rintro e w' ⟨rfl, hw⟩; obtain rfl := hw.symm; clear hw)
        | (go_at_call 51; refine (unhide CT).mono ?_; rintro e w' ⟨rfl, hw⟩; obtain rfl := hw.symm; clear hw))
      go_ret2
      exact ⟨by rw [unhide HL, unhide HPE]; simp, unhide HB2⟩
    · have hl := lft_bd (q := q') (t := thr (36 * ((j : Int) + 1)) b) hge ht.1 ht.2
      have hdt : thr (36 * ((j : Int) + 1)) b ≤ d := by
        rw [hd]
        unfold dgt
        have := Int.emod_nonneg (q' - thr (36 * ((j : Int) + 1)) b) (show 36 - thr (36 * ((j : Int) + 1)) b ≠ 0 by omega)
        omega
      have hstep := tk_eq (t := thr (36 * ((j : Int) + 1)) b) (unhide HW)
      rw [← hd] at hstep
      have hwq : wt ≤ q := by
        have e1 : wt * 1 ≤ wt * q' := Int.mul_le_mul_of_nonneg_left (by omega) (by omega)
        have e2 := unhide HW
        omega
      have hXN : Hid ((X ++ [dig d]) ++ num (lft q' (thr (36 * ((j : Int) + 1)) b)) b (36 * (((j + 1 : Nat) : Int) + 1)) = num q b 36) := hide (by
        rw [← unhide HN, hnum, hY, show 36 * ((j : Int) + 1) + 36 = 36 * (((j + 1 : Nat) : Int) + 1) by omega]
        simp)
      have hprod : 0 ≤ d * wt := Int.mul_nonneg d0 (by omega)
      have hw36 : wt * (36 - thr (36 * ((j : Int) + 1)) b) ≤ wt * 35 := Int.mul_le_mul_of_nonneg_left (by omega) (by omega)
      have hw0 : wt * 1 ≤ wt * (36 - thr (36 * ((j : Int) + 1)) b) := Int.mul_le_mul_of_nonneg_left (by omega) (by omega)
      have hrest : 0 ≤ wt * (36 - thr (36 * ((j : Int) + 1)) b) * lft q' (thr (36 * ((j : Int) + 1)) b) := Int.mul_nonneg (by omega) hl.1
      have hpm : wrap64 (d * wt) = d * wt := by unfold wrap64; omega
      have hps : wrap64 (acc + d * wt) = acc + d * wt := by unfold wrap64; omega
      have hpw : wrap64 (wt * (36 - thr (36 * ((j : Int) + 1)) b)) = wt * (36 - thr (36 * ((j : Int) + 1)) b) := by unfold wrap64; omega
      have hdn : ¬ d < 0 := by omega
      have hdm : ¬ (1115226112 : Int) < acc + d * wt := by omega
      have HST := hide hstep
      have hac : 0 ≤ acc + d * wt := by omega
      have hw1' : 1 ≤ wt * (36 - thr (36 * ((j : Int) + 1)) b) := by omega
      obtain ⟨l0, l1, _⟩ := hl
      have hlq : lft q' (thr (36 * ((j : Int) + 1)) b) ≤ q := by omega
      clear hnum hY hd hstep hrest hw36 hw0 hge
      generalize lft q' (thr (36 * ((j : Int) + 1)) b) = q2 at *
      generalize thr (36 * ((j : Int) + 1)) b = t at *
      obtain ⟨t0, t1⟩ := ht
      have hdt' : ¬ d < t := by omega
      go_wp2_with (first
        | (go_at_call 66; refine ((unhide CD) _).mono ?_; rintro e w' ⟨rfl, hw⟩; obtain rfl := hw.symm; clear hw)
        | (go_at_call 51; refine (unhide CT).mono ?_; rintro e w' ⟨rfl, hw⟩; obtain rfl := hw.symm; clear hw))
      go_roundw
      case rel => exact ⟨j + 1, X ++ [dig d], q2, acc + d * wt, wt * (36 - t), rfl, by rw [hpw], by simp; exact hXj, hXN, l0, hlq, hac, hw1', HST, by omega, HI2, HB2⟩
      case measure => rw [unhide HM, unhide HM3]; omega
end Go.Proofs.YthjjojkabbepdaaDoor.Lab
