/- slices.Concat of blocks. -/
import Derived.Test.YtnfdkcphmolkiaaBldG
import Derived.Test.YtnfdkcphmolkiaaPlaT
namespace Go.Proofs.Ytnfdkcphmolkiaa
open Go.RowKit
theorem flat_take (T : List (List Int)) (k : Nat) (h : k < T.length) : (T.take (k + 1)).flatten = (T.take k).flatten ++ tb T k := by
  rw [List.take_succ_eq_append_getElem h, List.flatten_append]
  have : tb T k = T[k] := by simp [tb, List.getD, h]
  rw [this]
  simp
theorem flat_take_len (T : List (List Int)) (h : ∀ b ∈ T, b.length = 64) (k : Nat) (hk : k ≤ T.length) : (T.take k).flatten.length = k * 64 := by
  rw [flat_len _ (fun b hb => h b (List.mem_of_mem_take hb)), List.length_take]
  omega
theorem blk_src {w : World} {g off : Nat} {b : List Int} (hl : b.length = 64) (hc : ∀ j, j < 64 → w.cell? ⟨g, off + j, none⟩ = some (.int .i64 (nth b j))) : ∀ j u, (b.map (Value.int .i64))[j]? = some u → w.cell? ((⟨g, off, none⟩ : Addr).add j) = some u := by
  intro j u hj
  rw [List.getElem?_map] at hj
  by_cases h : j < 64
  · have h2 : b[j]? = some (nth b j) := by simp [nth, List.getD, hl, h]
    rw [h2] at hj
    simp at hj
    have : (⟨g, off, none⟩ : Addr).add j = ⟨g, off + j, none⟩ := by unfold Addr.add; split <;> simp_all
    rw [this, hc j h, ← hj]
  · rw [List.getElem?_eq_none (by omega)] at hj
    simp at hj
theorem nums_one (l : List Int) : ∀ u ∈ l.map (Value.int .i64), u.oneCell' = true := by
  intro u hu
  obtain ⟨x, _, rfl⟩ := List.mem_map.1 hu
  rfl
set_option maxHeartbeats 4000000 in
set_option maxRecDepth 100000 in
theorem concat_any (w : World) (B N : Nat) (T : List (List Int)) (V : Value) (bs : List Value) (hV : w.ownsRow B 24 1 V T.length bs) (hb : ∀ i, i < T.length → ∃ v, bs[i]? = some v ∧ BlkAt w N v (tb T i)) (hN : N ≤ w.heap.size) (h0 : 0 < T.length) (h5 : T.length ≤ 512) :
    Calls Try.prog 57 #[V] w fun e w' => ∃ v', e = .returned v' ∧ w'.ownsRow w.heap.size 2 1 v' (T.length * 64) (T.flatten.map (Value.int .i64)) ∧ Below w.heap.size w w' := by
  obtain ⟨i0, hi, hz0, hz1, hz2⟩ := info_parts info2
  obtain ⟨gb, cb, hv⟩ := own_at hV h0
  subst hv
  have h64 : ∀ b ∈ T, b.length = 64 := fun b hbm => by
    obtain ⟨i, hi, e⟩ := tb_of_mem hbm
    obtain ⟨v, _, hk⟩ := hb i hi
    rw [← e]; exact hk.1
  have H64 := hide h64
  have HV := hide hV
  have HB := hide hb
  have hgl : gb < w.heap.size := (World.ownsRow.lt hV gb rfl).2
  have HRd : Hid (∀ (W : World) (i : Nat), Below w.heap.size w W → i < T.length → ∃ g off cap, W.cell? ⟨gb, i, none⟩ = some (.slice (some ⟨g, off, none⟩) 64 cap) ∧ ∀ j, j < 64 → W.cell? ⟨g, off + j, none⟩ = some (.int .i64 (nth (tb T i) j))) := hide (fun W i hW hi => by
    obtain ⟨v, hv, _, g, off, cap, rfl, hgN, hc⟩ := (unhide HB) i hi
    refine ⟨g, off, cap, ?_, fun j hj => (hW.cell (p := ⟨g, off + j, none⟩) (by show g < w.heap.size; omega)).trans (hc j hj)⟩
    exact (hW.cell (p := ⟨gb, i, none⟩) hgl).trans ((World.ownsRow.cellAt (unhide HV) i (by omega)).trans hv))
  clear hV hb h64
  go_enter Try.func57, Try.ntmps57
  go_wp2
  go_loop [3, 11] (fun sz iv => ∃ k : Nat, k ≤ T.length ∧ iv = .int .i64 k ∧ sz = .int .i64 ((k * 64 : Nat) : Int)) (fun _ i => T.length - (intOf i).toNat)
  case atStart => exact ⟨0, Nat.zero_le _, rfl, rfl⟩
  case round =>
    obtain ⟨k, hk, rfl, rfl⟩ := hrel
    by_cases hlt : k < T.length
    · have hlt' : (k : Int) < (T.length : Int) := by omega
      obtain ⟨g, off, cap, c0, _⟩ := (unhide HRd) w k (Below.refl _ _) hlt
      have hpos : ¬ (((k * 64 : Nat) : Int) + 64 < 0) := by omega
      go_wp2
      go_round
      case rel => exact ⟨k + 1, by omega, by go_num, by rw [show ((k + 1) * 64 : Nat) = k * 64 + 64 by omega]; go_num⟩
      case measure => simp [intOf]; omega
    · obtain rfl : k = T.length := by omega
      go_wp2_with fail
      refine (grow_any (T.length * 64) _ (by omega) (by omega)).mono ?_
      rintro e w1 ⟨cap1, hc1, rfl, ho, hb⟩
      have O1 : Hid (w1.ownsRow w.heap.size 2 1 (.slice (some ⟨w.heap.size, 0, none⟩) 0 cap1) (0 * 64) (((T.take 0).flatten).map (Value.int .i64))) := hide ho
      have B1 := hide hb
      clear ho hb
      go_wp2
      go_loopw [6, 27] (fun sv iv wr => ∃ k : Nat, k ≤ T.length ∧ iv = .int .i64 k ∧ Hid (wr.ownsRow w.heap.size 2 1 sv (k * 64) (((T.take k).flatten).map (Value.int .i64))) ∧ Hid (Below w.heap.size w wr)) (fun _ i _ => T.length - (intOf i).toNat)
      case atStart => exact ⟨0, Nat.zero_le _, rfl, O1, B1⟩
      case round =>
        obtain ⟨k, hk2, rfl, HO, HW⟩ := hrel
        clear O1 B1
        by_cases hlt2 : k < T.length
        · have hlt' : (k : Int) < (T.length : Int) := by omega
          obtain ⟨g, off, cap, c0, cj⟩ := (unhide HRd) wr k (unhide HW) hlt2
          have hl64 : (tb T k).length = 64 := (unhide H64) _ (tb_mem hlt2)
          have HSr := hide (blk_src hl64 cj)
          have HL := hide hl64
          have HT := hide (flat_take T k hlt2)
          have hBs := (unhide HW).size
          obtain ⟨sa, sc, hsv⟩ := own_form (unhide HO)
          subst hsv
          clear cj hl64
          go_wp2_with (at_builtin; refine wpList_append_own _ rfl _ _ 24 rfl w.heap.size 2 i0 (.int .i64 0) 1 8 Try.underlying24 hi hz0 hz1 hz2 rfl (by decide) _ _ _ rfl (unhide HO) ⟨g, off, none⟩ 64 cap ((tb T k).map (Value.int .i64)) rfl (by rw [List.length_map]; exact unhide HL) (unhide HSr) (nums_one _) (by unfold maxLen; omega) (by omega) hBs ?_)
          intro v' w3 hown' hgrow _
          have R : Hid (w3.ownsRow w.heap.size 2 1 v' ((k + 1) * 64) (((T.take (k + 1)).flatten).map (Value.int .i64))) := hide (by
            rw [unhide HT, List.map_append, show (k + 1) * 64 = k * 64 + 64 by omega]
            rw [List.map_flatten, List.map_take]
            exact hown')
          have W3 := hide ((unhide HW).grown hgrow hBs (fun j hj => ((unhide HO).lt j hj).1))
          clear hown' hgrow
          go_wp2
          go_roundw
          case rel => exact ⟨k + 1, by omega, by go_num, R, W3⟩
          case measure => simp [intOf]; omega
        · obtain rfl : k = T.length := by omega
          have ho := unhide HO
          rw [List.take_length] at ho
          have R := hide ho
          clear ho HO
          go_wp2
          go_ret
          exact ⟨_, rfl, unhide R, unhide HW⟩
end Go.Proofs.Ytnfdkcphmolkiaa
