/- Folding of a row of points, as the specification tells it; the law of Fold. -/
import Derived.Test.YtamigjljgepfiaaGreatDoorFolI
import Derived.Test.YtamigjljgepfiaaGreatDoorMN
namespace Go.Proofs.YtamigjljgepfiaaGreatDoor
namespace Cas
open Go.RowKit
set_option maxRecDepth 100000 in
theorem sharp_any (p : Int) (w : World) (h0 : 0 ≤ p) (h1 : p ≤ 1114111) : Calls Tryz.prog 23 #[.int .i64 p] w fun e w' => e = .returned (.tuple #[.int .i64 (bl p), .bool (decide (0 < bl p) && (p == bl p + 96))]) ∧ w' = w := by
  have CB := hide (fun W => block_any p W h0 h1)
  obtain ⟨b0, b1⟩ := bl_in h0 h1
  obtain ⟨b, hb⟩ : ∃ b, bl p = b := ⟨_, rfl⟩
  rw [hb] at CB b0 b1 ⊢
  clear hb
  by_cases c : 0 < b
  · rw [show decide (0 < b) = true by simp [c], Bool.true_and]
    go_enter Tryz.func23, Tryz.ntmps23
    go_wp2_with (go_at_call 24; refine ((unhide CB) _).mono ?_; rintro e w9 ⟨rfl, hw9⟩; obtain rfl := hw9.symm; clear hw9)
    go_ret2
    exact ⟨rfl, rfl⟩
  · rw [show decide (0 < b) = false by simp; omega, Bool.false_and]
    go_enter Tryz.func23, Tryz.ntmps23
    go_wp2_with (go_at_call 24; refine ((unhide CB) _).mono ?_; rintro e w9 ⟨rfl, hw9⟩; obtain rfl := hw9.symm; clear hw9)
    go_ret2
    exact ⟨rfl, rfl⟩
set_option maxRecDepth 100000 in
set_option maxHeartbeats 4000000 in
theorem foldS (v : Value) (L : List Int) (w : World) (hv : IntsAt w v L) (hL : L.length ≤ 270000) (hp : ∀ p ∈ L, isPt p = true) : Calls Tryz.prog 8 #[v] w fun e w' =>
    ∃ v', e = .returned v' ∧ w'.ownsRow w.heap.size 2 1 v' (L.flatMap fo1).length ((L.flatMap fo1).map (Value.int .i64)) ∧ Below w.heap.size w w' := by
  obtain ⟨i0, hi, hz0, hz1, hz2⟩ := info_parts info2
  have HV := hide hv
  have HP := hide hp
  obtain ⟨a, cap, rfl, _⟩ := hv
  clear hp
  have HO0 : Hid ((w.alloc (.cells #[] 2)).ownsRow w.heap.size 2 1 (.slice (some ⟨w.heap.size, 0, none⟩) 0 0) ((L.take 0).flatMap fo1).length (((L.take 0).flatMap fo1).map (Value.int .i64))) := hide (World.ownsRow_lit w #[] 0 (Nat.le_refl _) (by unfold maxLen; omega) rfl)
  have HB0 : Hid (Below w.heap.size w (w.alloc (.cells #[] 2))) := hide (below1 _ _)
  go_enter Tryz.func8, Tryz.ntmps8
  go_wp2
  go_loopw [3, 4] (fun v' x wr => ∃ k : Nat, x = .int .i64 k ∧ k ≤ L.length ∧ Hid (wr.ownsRow w.heap.size 2 1 v' ((L.take k).flatMap fo1).length (((L.take k).flatMap fo1).map (Value.int .i64))) ∧ Hid (Below w.heap.size w wr)) (fun _ x _ => L.length - (intOf x).toNat)
  case atStart => exact ⟨0, rfl, by omega, HO0, HB0⟩
  case round =>
    obtain ⟨k, rfl, hk, HO, HB⟩ := hrel
    clear HO0 HB0
    have hBs := (unhide HB).size
    have hkl := flat_take_len L k fo_len
    by_cases hlt : k < L.length
    · obtain ⟨b, off, cp, he, hbw, hc⟩ := rd_at (unhide HV) (by omega)
      cases he
      have kc := ((unhide HB).cell (p := ⟨b, off + k, none⟩) hbw).trans (hc k hlt)
      have hbr : b < wr.heap.size := by omega
      have HPT := hide (pt_of ((unhide HP) _ (mem_nth hlt)))
      have HS := hide (flat_take (f := fo1) L k hlt)
      obtain ⟨p, hpk⟩ : ∃ p, nth L k = p := ⟨_, rfl⟩
      rw [show L.getD k 0 = p from hpk] at HS
      rw [hpk] at kc HPT
      clear hc hpk
      have hp0 := (unhide HPT).1
      have hp1 := (unhide HPT).2.1
      have CS := hide (fun W => sharp_any p W hp0 hp1)
      have CB := hide (fun W => block_any p W hp0 hp1)
      have CL := hide (fun W => lower_any p W hp0 hp1)
      obtain ⟨bb0, bb1⟩ := bl_in hp0 hp1
      obtain ⟨r, hr⟩ : ∃ r, p % 256 = r := ⟨_, rfl⟩
      have er : p.tmod 256 = r := by rw [Int.tmod_eq_emod_of_nonneg hp0]; exact hr
      have HF : Hid (fo1 p = if 0 < bl p ∧ p = bl p + 96 then [bl p + 50, bl p + 50] else if 0 < bl p ∧ p % 256 = 97 then [bl p + 50] else [lowS p]) := hide rfl
      rw [hr] at HF
      obtain ⟨q, hq⟩ : ∃ q, bl p = q := ⟨_, rfl⟩
      rw [hq] at CS CB HF bb0 bb1
      clear hq hr
      by_cases c1 : 0 < q ∧ p = q + 96
      · rw [if_pos c1] at HF
        rw [show (decide (0 < q) && (p == q + 96)) = true by simp [c1.1, c1.2]] at CS
        clear c1
        go_wp2_with (first | (go_at_call 23; refine ((unhide CS) _).mono ?_; rintro e w9 ⟨rfl, hw9⟩; obtain rfl := hw9.symm; clear hw9) | (at_builtin; refine wpList_append_own _ rfl _ _ 27 rfl w.heap.size 2 i0 (.int .i64 0) 1 8 Tryz.underlying27 hi hz0 hz1 hz2 rfl (by decide) _ _ _ rfl (owned_alloc (unhide HO) _) ⟨wr.heap.size, 0, none⟩ 2 2 [.int .i64 (q + 50), .int .i64 (q + 50)] rfl rfl (two_new _ _ _ _) (by intro u hu; simp at hu; rcases hu with rfl | rfl <;> rfl) (by unfold maxLen; omega) (by omega) (by simp; omega) ?_))
        intro v' w3 hown' hgrow _
        have R := hide (row_many (R := (L.take k).flatMap fo1) (S := [q + 50, q + 50]) (unhide HB) (Below.refl _ _) (by omega) (unhide HO) hown' (by simp) hgrow)
        clear hown' hgrow
        go_wp2
        go_roundw
        case rel => exact ⟨k + 1, by go_num, by omega, hide (by rw [unhide HS, unhide HF]; exact (unhide R).1), hide (unhide R).2⟩
        case measure => simp [intOf]; omega
      · rw [if_neg c1] at HF
        rw [show (decide (0 < q) && (p == q + 96)) = false by simp; intro h e; exact c1 ⟨h, e⟩] at CS
        clear c1
        by_cases c2 : 0 < q ∧ r = 97
        · rw [if_pos c2] at HF
          obtain ⟨c2, c3⟩ := c2
          have c3' : (r == 97) = true := by simp [c3]
          clear c3
          go_wp2_with (first | (go_at_call 23; refine ((unhide CS) _).mono ?_; rintro e w9 ⟨rfl, hw9⟩; obtain rfl := hw9.symm; clear hw9) | (go_at_call 24; refine ((unhide CB) _).mono ?_; rintro e w9 ⟨rfl, hw9⟩; obtain rfl := hw9.symm; clear hw9) | (at_builtin; refine wpList_append_own _ rfl _ _ 27 rfl w.heap.size 2 i0 (.int .i64 0) 1 8 Tryz.underlying27 hi hz0 hz1 hz2 rfl (by decide) _ _ _ rfl (owned_alloc (unhide HO) _) ⟨wr.heap.size, 0, none⟩ 1 1 [.int .i64 (q + 50)] rfl rfl (cell_one_new _ _ _) (by intro u hu; simp at hu; subst hu; rfl) (by unfold maxLen; omega) (by omega) (by simp; omega) ?_))
          intro v' w3 hown' hgrow _
          have R := hide (row_many (R := (L.take k).flatMap fo1) (S := [q + 50]) (unhide HB) (Below.refl _ _) (by omega) (unhide HO) hown' (by simp) hgrow)
          clear hown' hgrow
          go_wp2
          go_roundw
          case rel => exact ⟨k + 1, by go_num, by omega, hide (by rw [unhide HS, unhide HF]; exact (unhide R).1), hide (unhide R).2⟩
          case measure => simp [intOf]; omega
        · rw [if_neg c2] at HF
          have d : ¬ 0 < q ∨ (0 < q ∧ (r == 97) = false) := by
            by_cases h : 0 < q
            · exact .inr ⟨h, by simp; intro e; exact c2 ⟨h, e⟩⟩
            · exact .inl h
          clear c2
          generalize lowS p = z at *
          rcases d with d | ⟨d, d2⟩
          all_goals
            go_wp2_with (first | (go_at_call 23; refine ((unhide CS) _).mono ?_; rintro e w9 ⟨rfl, hw9⟩; obtain rfl := hw9.symm; clear hw9) | (go_at_call 24; refine ((unhide CB) _).mono ?_; rintro e w9 ⟨rfl, hw9⟩; obtain rfl := hw9.symm; clear hw9) | (go_at_call 25; refine ((unhide CL) _).mono ?_; rintro e w3 ⟨rfl, hb3⟩; have O3 := hide (ownsRow_below (unhide HO) hb3); have B3 := hide (hb3.mono hBs); have z3 := hb3.size; clear hb3) | (at_builtin; refine wpList_append_own _ rfl _ _ 27 rfl w.heap.size 2 i0 (.int .i64 0) 1 8 Tryz.underlying27 hi hz0 hz1 hz2 rfl (by decide) _ _ _ rfl (owned_alloc (unhide O3) _) ⟨w3.heap.size, 0, none⟩ 1 1 [.int .i64 z] rfl rfl (cell_one_new _ _ _) (by intro u hu; simp at hu; subst hu; rfl) (by unfold maxLen; omega) (by omega) (by simp; omega) ?_))
            intro v' w4 hown' hgrow _
            have R := hide (row_many (R := (L.take k).flatMap fo1) (S := [z]) (unhide HB) (unhide B3) (by omega) (unhide O3) hown' (by simp) hgrow)
            clear hown' hgrow
            go_wp2
            go_roundw
            case rel => exact ⟨k + 1, by go_num, by omega, hide (by rw [unhide HS, unhide HF]; exact (unhide R).1), hide (unhide R).2⟩
            case measure => simp [intOf]; omega
    · obtain rfl : k = L.length := by omega
      go_wp2
      go_ret
      refine ⟨_, rfl, ?_, unhide HB⟩
      have := unhide HO
      rw [List.take_length] at this
      exact this
/-- What Fold tells of a text. -/
def foldT (s : ByteArray) : List Int := Go.Proofs.YtamigjljgepfiaaGreatDoor.small (textL ((ptsOut s).flatMap fo1))
theorem ptsOut_pt (s : ByteArray) : ∀ p ∈ ptsOut s, isPt p = true := by
  unfold ptsOut
  split
  · intro p hp; cases hp
  · exact pts_pt s
theorem fold_len (s : ByteArray) : ((ptsOut s).flatMap fo1).length ≤ 131072 := by
  have h1 := flat_len (ptsOut s) fo_len
  have h2 := ptsOut_le s
  omega
end Cas
end Go.Proofs.YtamigjljgepfiaaGreatDoor
