/- Labels, as the specification writes them: a number, a label. -/
import Derived.Test.YthjjojkabbepdaaDoorLabS
namespace Go.Proofs.YthjjojkabbepdaaDoor.Lab
open Go.RowKit
set_option linter.unusedVariables false
theorem by_lit (w : World) : By w.heap.size (w.alloc (.cells #[] 5)) (.slice (some ⟨w.heap.size, 0, none⟩) 0 0) [] := World.ownsRow_lit w #[] 0 (Nat.le_refl _) (by unfold maxLen; omega) rfl
theorem by_grown {lo : Nat} {w1 w2 : World} {v : Value} {M : List Int} (hO : By lo w1 v M) (hl : lo ≤ w1.heap.size) (hg : w1.grownBy w2 v.ownBlock) : Below lo w1 w2 := (Below.refl lo w1).grown hg hl (fun k e => (hO.lt k e).1)
theorem by_read {lo : Nat} {w : World} {v : Value} {M : List Int} (h : By lo w v M) (hM : M ≠ []) : ∃ g c, v = .slice (some ⟨g, 0, none⟩) M.length c ∧ ∀ (j : Nat) (u : Value), (M.map (Value.int .u8))[j]? = some u → w.cell? ((⟨g, 0, none⟩ : Addr).add j) = some u := by
  rcases h.2 with ⟨_, hn⟩ | ⟨g, cap, cur, hv, hg, hh, r⟩
  · exact absurd (List.length_eq_zero_iff.1 hn) hM
  · refine ⟨g, cap, hv, fun j u hj => ?_⟩
    have hjl : j < M.length := by
      have := (List.getElem?_eq_some_iff.1 hj).1
      simpa using this
    subst hv
    have e : (⟨g, 0, none⟩ : Addr).add j = ⟨g, j, none⟩ := by unfold Addr.add; split <;> simp_all
    have hc := h.cellAt j (by omega)
    rw [e, hc, hj]
theorem by_ones (M : List Int) : ∀ u ∈ M.map (Value.int .u8), u.oneCell' = true := by
  intro u hu
  obtain ⟨x, _, rfl⟩ := List.mem_map.1 hu
  rfl
theorem num_ne (q b k : Int) : num q b k ≠ [] := by
  by_cases h : q < thr k b
  · rw [num_last h]; simp
  · rw [num_more (by omega)]; simp
set_option maxRecDepth 100000 in
set_option maxHeartbeats 2000000 in
theorem numberS (q b : Int) (w : World) (h0 : 0 ≤ q) (h1 : q ≤ 2000000000) (hb0 : 0 ≤ b) (hb1 : b ≤ 100000000000) :
    Calls Tryd.prog 40 #[.int .i64 q, .int .i64 b] w fun e w' => ∃ v, e = .returned v ∧ By w.heap.size w' v (num q b 36) ∧ Below w.heap.size w w' := by
  obtain ⟨i0, hi, hz0, hz1, hz2⟩ := info_parts infoB
  have HO0 := hide (by_lit w)
  have HB0 : Hid (Below w.heap.size w (w.alloc (.cells #[] 5))) := hide (al1 _ _)
  go_enter Tryd.func40, Tryd.ntmps40
  go_wp2
  go_loopw [5, 6, 7] (fun ov qv kv wr => ∃ (M : List Int) (q' k' : Int), qv = .int .i64 q' ∧ kv = .int .i64 k' ∧ 0 ≤ q' ∧ 36 ≤ k' ∧ k' + 36 * q' ≤ 36 + 36 * q ∧ (M.length : Int) + q' ≤ q ∧ Hid (M ++ num q' b k' = num q b 36) ∧ Hid (By w.heap.size wr ov M) ∧ Hid (Below w.heap.size w wr)) (fun _ qv _ _ => (intOf qv).toNat)
  case atStart => exact ⟨[], q, 36, rfl, rfl, h0, by omega, by omega, by simp, hide rfl, HO0, HB0⟩
  case round =>
    obtain ⟨M, q', k', rfl, rfl, q0, k0, k1, m1, HN, HO, HB⟩ := hrel
    clear HO0 HB0
    have hBs := (unhide HB).size
    have ht := thr_bd k' b
    have CL := hide (fun W => leastS k' b W (by omega) (by omega) hb0 (by omega))
    by_cases hlt : q' < thr k' b
    · have HS := hide (num_last hlt)
      have CD := hide (fun W => digitS q' W q0 (by omega))
      generalize thr k' b = t at *
      generalize dig q' = z at *
      obtain ⟨t0, t1⟩ := ht
      go_wp2_with (first
        | (go_at_call 48; refine ((unhide CL) _).mono ?_; rintro e w' ⟨rfl, hw⟩; obtain rfl := hw.symm; clear hw)
        | (go_at_call 55; refine ((unhide CD) _).mono ?_; rintro e w' ⟨rfl, hw⟩; obtain rfl := hw.symm; clear hw)
        | (at_builtin; refine wpList_appG _ rfl _ _ 22 rfl w.heap.size 5 i0 (.int .u8 0) 1 1 Tryd.underlying22 hi hz0 hz1 hz2 rfl (by decide) _ _ _ rfl (By.alloc (unhide HO) _) ⟨wr.heap.size, 0, none⟩ 1 1 [.int .u8 z] rfl rfl (one_new _ _) (one_oneB _) ?c3 ?c4 ?c5 ?_))
      case c3 => unfold maxLen; omega
      case c4 => omega
      case c5 => simp; omega
      intro v' w2 hown' hgrow hnew
      have HO2 := hide (By.snoc (N := [z]) hown' rfl)
      have HB2 := hide (((unhide HB).trans ((al1 wr _).mono hBs)).trans (by_grown (By.below (unhide HO) (al1 wr _)) (by simp; omega) hgrow))
      clear hown' hgrow hnew
      go_wp2
      go_ret
      exact ⟨_, rfl, by rw [← unhide HN, unhide HS]; exact unhide HO2, unhide HB2⟩
    · have HS := hide (num_more (q := q') (b := b) (k := k') (by omega))
      have hl := lft_bd (q := q') (t := thr k' b) (by omega) ht.1 ht.2
      have hg := dgt_bd (q := q') (t := thr k' b) (by omega) ht.1 ht.2
      have CD := hide (fun W => digitS (dgt q' (thr k' b)) W hg.1 hg.2)
      have hm : (q' - thr k' b).tmod (36 - thr k' b) = (q' - thr k' b) % (36 - thr k' b) := Int.tmod_eq_emod_of_nonneg (by omega)
      have hd : (q' - thr k' b).tdiv (36 - thr k' b) = lft q' (thr k' b) := Int.tdiv_eq_ediv_of_nonneg (by omega)
      have hr0 := Int.emod_nonneg (q' - thr k' b) (show 36 - thr k' b ≠ 0 by omega)
      have hr1 := Int.emod_lt_of_pos (q' - thr k' b) (show 0 < 36 - thr k' b by omega)
      have hdg : dgt q' (thr k' b) = thr k' b + (q' - thr k' b) % (36 - thr k' b) := rfl
      have hz : (36 - thr k' b == 0) = false := by rw [beq_eq_false_iff_ne]; omega
      generalize thr k' b = t at *
      obtain ⟨t0, t1⟩ := ht
      obtain ⟨l0, l1, _⟩ := hl
      generalize (q' - t) % (36 - t) = r at *
      generalize lft q' t = q2 at *
      generalize dig (dgt q' t) = z at *
      rw [hdg] at CD
      clear hdg hg
      go_wp2_with (first
        | (go_at_call 48; refine ((unhide CL) _).mono ?_; rintro e w' ⟨rfl, hw⟩; obtain rfl := hw.symm; clear hw)
        | (go_at_call 55; refine ((unhide CD) _).mono ?_; rintro e w' ⟨rfl, hw⟩; obtain rfl := hw.symm; clear hw)
        | (at_builtin; refine wpList_appG _ rfl _ _ 22 rfl w.heap.size 5 i0 (.int .u8 0) 1 1 Tryd.underlying22 hi hz0 hz1 hz2 rfl (by decide) _ _ _ rfl (By.alloc (unhide HO) _) ⟨wr.heap.size, 0, none⟩ 1 1 [.int .u8 z] rfl rfl (one_new _ _) (one_oneB _) ?c3 ?c4 ?c5 ?_))
      case c3 => unfold maxLen; omega
      case c4 => omega
      case c5 => simp; omega
      intro v' w2 hown' hgrow hnew
      have HO2 := hide (By.snoc (N := [z]) hown' rfl)
      have HB2 := hide (((unhide HB).trans ((al1 wr _).mono hBs)).trans (by_grown (By.below (unhide HO) (al1 wr _)) (by simp; omega) hgrow))
      clear hown' hgrow hnew
      go_wp2
      go_roundw
      case rel => exact ⟨M ++ [z], q2, k' + 36, rfl, rfl, l0, by omega, by omega, by simp; omega, hide (by rw [← unhide HN, unhide HS]; simp), HO2, HB2⟩
      case measure => simp [intOf]; omega
end Go.Proofs.YthjjojkabbepdaaDoor.Lab
