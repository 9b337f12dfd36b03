/- Case, as the specification tells it. -/
import Derived.Test.YtamigjljgepfiaaGreatDoorMK
namespace Go.Proofs.YtamigjljgepfiaaGreatDoor
namespace Cas
open Go.RowKit

theorem three_none {p : Int} (h : ¬ (65 ≤ p ∧ p ≤ 90)) (h2 : ¬ (97 ≤ p ∧ p ≤ 122)) (h3 : ¬ (8192 ≤ p ∧ p < 9728 ∧ p % 512 < 416)) (h4 : p < 512 ∨ 1280 ≤ p) : three p = none := by
  unfold three; rw [if_neg h, if_neg h2, if_neg h3, if_pos h4]
set_option maxRecDepth 100000 in
set_option maxHeartbeats 4000000 in
theorem three_any (p : Int) (w : World) (h0 : 0 ≤ p) (h1 : p ≤ 1114111) : Calls Tryz.prog 46 #[.int .i64 p] w fun e w' =>
    e = .returned (.tuple #[rowV ((three p).getD (0, 0, 0)), .bool (three p).isSome]) ∧ Below w.heap.size w w' := by
  obtain ⟨n, hn⟩ : ∃ n, p % 256 = n := ⟨_, rfl⟩
  obtain ⟨m, hm⟩ : ∃ m, p % 512 = m := ⟨_, rfl⟩
  have e1 : p.tmod 256 = n := by rw [Int.tmod_eq_emod_of_nonneg h0]; exact hn
  have e2 : p.tmod 512 = m := by rw [Int.tmod_eq_emod_of_nonneg h0]; exact hm
  have b1 : 0 ≤ n ∧ n < 256 := by omega
  have b2 : 0 ≤ m ∧ m < 512 := by omega
  obtain ⟨b10, b11⟩ := b1
  obtain ⟨b20, b21⟩ := b2
  obtain ⟨x, hx⟩ : ∃ x, n % 32 = x := ⟨_, rfl⟩
  obtain ⟨y, hy⟩ : ∃ y, n % 4 = y := ⟨_, rfl⟩
  have e3 : n.tmod 32 = x := by rw [Int.tmod_eq_emod_of_nonneg b10]; exact hx
  have e4 : n.tmod 4 = y := by rw [Int.tmod_eq_emod_of_nonneg b10]; exact hy
  have b3 : 0 ≤ x := by omega
  have b4 : x < 32 := by omega
  have b5 : 0 ≤ y := by omega
  have b6 : y < 4 := by omega
  by_cases c1 : 65 ≤ p ∧ p ≤ 90
  · have HR := hide (show three p = some (p, p, p + 32) by unfold three; rw [if_pos c1])
    obtain ⟨c1, c2⟩ := c1
    clear hn hm hx hy
    go_enter Tryz.func46, Tryz.ntmps46
    go_wp2
    exact bodyPost_ret (v := .tuple #[.agg #[.int .i64 p, .int .i64 p, .int .i64 (p + 32)], .bool true]) (by simp [results, Tryz.results46, go_sem]) rfl ⟨ret_row (unhide HR), below1 _ _⟩
  by_cases c2 : 97 ≤ p ∧ p ≤ 122
  · have HR := hide (show three p = some (p - 32, p - 32, p - 32 + 32) by unfold three; rw [if_neg c1, if_pos c2]; congr; omega)
    obtain ⟨c2, c3⟩ := c2
    have c4 : ¬ p ≤ 90 := by omega
    clear hn hm hx hy c1
    go_enter Tryz.func46, Tryz.ntmps46
    go_wp2
    exact bodyPost_ret (v := .tuple #[.agg #[.int .i64 (p - 32), .int .i64 (p - 32), .int .i64 (p - 32 + 32)], .bool true]) (by simp [results, Tryz.results46, go_sem]) rfl ⟨ret_row (unhide HR), below1 _ _⟩
  have d1 : ¬ 65 ≤ p ∨ ¬ p ≤ 90 := by omega
  have d2 : ¬ 97 ≤ p ∨ ¬ p ≤ 122 := by omega
  by_cases c3 : 8192 ≤ p ∧ p < 9728 ∧ p % 512 < 416
  · obtain ⟨e5, e6, e7⟩ := c3
    rw [hm] at e7
    have g1 : ¬ p ≤ 90 := by omega
    have g2 : ¬ p ≤ 122 := by omega
    by_cases c4 : 208 ≤ m
    · have HR := hide (show three p = some (p - 208, p - 208, p - 208 + 208) by unfold three; rw [if_neg c1, if_neg c2, if_pos (by omega), if_pos (by omega)]; congr; omega)
      clear hn hm hx hy c1 c2 d1 d2
      go_enter Tryz.func46, Tryz.ntmps46
      go_wp2
      exact bodyPost_ret (v := .tuple #[.agg #[.int .i64 (p - 208), .int .i64 (p - 208), .int .i64 (p - 208 + 208)], .bool true]) (by simp [results, Tryz.results46, go_sem]) rfl ⟨ret_row (unhide HR), below1 _ _⟩
    · have HR := hide (show three p = some (p, p, p + 208) by unfold three; rw [if_neg c1, if_neg c2, if_pos (by omega), if_neg (by omega)])
      clear hn hm hx hy c1 c2 d1 d2
      go_enter Tryz.func46, Tryz.ntmps46
      go_wp2
      exact bodyPost_ret (v := .tuple #[.agg #[.int .i64 p, .int .i64 p, .int .i64 (p + 208)], .bool true]) (by simp [results, Tryz.results46, go_sem]) rfl ⟨ret_row (unhide HR), below1 _ _⟩
  by_cases c4 : p < 512 ∨ 1280 ≤ p
  · have HR := hide (three_none c1 c2 c3 c4)
    by_cases k1 : p < 65
    · have k2 : ¬ 65 ≤ p := by omega
      have k3 : ¬ 97 ≤ p := by omega
      have k4 : ¬ 8192 ≤ p := by omega
      have k5 : p < 512 := by omega
      clear hn hm hx hy c1 c2 d1 d2 c3 c4
      go_enter Tryz.func46, Tryz.ntmps46
      go_wp2
      exact bodyPost_ret (v := .tuple #[.agg #[.int .i64 0, .int .i64 0, .int .i64 0], .bool false]) (by simp [results, Tryz.results46, go_sem]) rfl ⟨ret_norow (unhide HR), below1 _ _⟩
    by_cases k1 : p < 97
    · have k2 : 65 ≤ p := by omega
      have k6 : ¬ p ≤ 90 := by omega
      have k3 : ¬ 97 ≤ p := by omega
      have k4 : ¬ 8192 ≤ p := by omega
      have k5 : p < 512 := by omega
      clear hn hm hx hy c1 c2 d1 d2 c3 c4
      go_enter Tryz.func46, Tryz.ntmps46
      go_wp2
      exact bodyPost_ret (v := .tuple #[.agg #[.int .i64 0, .int .i64 0, .int .i64 0], .bool false]) (by simp [results, Tryz.results46, go_sem]) rfl ⟨ret_norow (unhide HR), below1 _ _⟩
    have k2 : 65 ≤ p := by omega
    have k6 : ¬ p ≤ 90 := by omega
    have k3 : 97 ≤ p := by omega
    have k7 : ¬ p ≤ 122 := by omega
    by_cases k8 : p < 512
    · have k4 : ¬ 8192 ≤ p := by omega
      clear hn hm hx hy c1 c2 d1 d2 c3 c4
      go_enter Tryz.func46, Tryz.ntmps46
      go_wp2
      exact bodyPost_ret (v := .tuple #[.agg #[.int .i64 0, .int .i64 0, .int .i64 0], .bool false]) (by simp [results, Tryz.results46, go_sem]) rfl ⟨ret_norow (unhide HR), below1 _ _⟩
    have k9 : 1280 ≤ p := by omega
    by_cases k4 : 8192 ≤ p
    · by_cases k10 : p < 9728
      · have k11 : ¬ m < 416 := by omega
        clear hn hm hx hy c1 c2 d1 d2 c3 c4
        go_enter Tryz.func46, Tryz.ntmps46
        go_wp2
        exact bodyPost_ret (v := .tuple #[.agg #[.int .i64 0, .int .i64 0, .int .i64 0], .bool false]) (by simp [results, Tryz.results46, go_sem]) rfl ⟨ret_norow (unhide HR), below1 _ _⟩
      · clear hn hm hx hy c1 c2 d1 d2 c3 c4
        go_enter Tryz.func46, Tryz.ntmps46
        go_wp2
        exact bodyPost_ret (v := .tuple #[.agg #[.int .i64 0, .int .i64 0, .int .i64 0], .bool false]) (by simp [results, Tryz.results46, go_sem]) rfl ⟨ret_norow (unhide HR), below1 _ _⟩
    · clear hn hm hx hy c1 c2 d1 d2 c3 c4
      go_enter Tryz.func46, Tryz.ntmps46
      go_wp2
      exact bodyPost_ret (v := .tuple #[.agg #[.int .i64 0, .int .i64 0, .int .i64 0], .bool false]) (by simp [results, Tryz.results46, go_sem]) rfl ⟨ret_norow (unhide HR), below1 _ _⟩
  have k2 : 65 ≤ p := by omega
  have k6 : ¬ p ≤ 90 := by omega
  have k3 : 97 ≤ p := by omega
  have k7 : ¬ p ≤ 122 := by omega
  have k8 : ¬ p < 512 := by omega
  have k9 : ¬ 1280 ≤ p := by omega
  have k4 : ¬ 8192 ≤ p := by omega
  by_cases c5 : n < 64
  · have HR := hide (show three p = some (p - n + x, p - n + x, p - n + x + 32) by unfold three; rw [if_neg c1, if_neg c2, if_neg c3, if_neg c4, hn, hx, if_pos c5])
    have g3 : ¬ p - n + x < 0 := by omega
    clear hn hm hx hy c1 c2 d1 d2 c3 c4
    go_enter Tryz.func46, Tryz.ntmps46
    go_wp2
    exact bodyPost_ret (v := .tuple #[.agg #[.int .i64 (p - n + x), .int .i64 (p - n + x), .int .i64 (p - n + x + 32)], .bool true]) (by simp [results, Tryz.results46, go_sem]) rfl ⟨ret_row (unhide HR), below1 _ _⟩
  by_cases c6 : n < 76
  · have HR := hide (show three p = some (p - n + 64 + y, p - n + 64 + y + 4, p - n + 64 + y + 8) by unfold three; rw [if_neg c1, if_neg c2, if_neg c3, if_neg c4, hn, hy, if_neg c5, if_pos c6])
    have g3 : ¬ p - n + 64 + y < 0 := by omega
    clear hn hm hx hy c1 c2 d1 d2 c3 c4
    go_enter Tryz.func46, Tryz.ntmps46
    go_wp2
    exact bodyPost_ret (v := .tuple #[.agg #[.int .i64 (p - n + 64 + y), .int .i64 (p - n + 64 + y + 4), .int .i64 (p - n + 64 + y + 8)], .bool true]) (by simp [results, Tryz.results46, go_sem]) rfl ⟨ret_row (unhide HR), below1 _ _⟩
  · have HR := hide (show three p = none by unfold three; rw [if_neg c1, if_neg c2, if_neg c3, if_neg c4, hn, if_neg c5, if_neg c6])
    clear hn hm hx hy c1 c2 d1 d2 c3 c4
    go_enter Tryz.func46, Tryz.ntmps46
    go_wp2
    exact bodyPost_ret (v := .tuple #[.agg #[.int .i64 0, .int .i64 0, .int .i64 0], .bool false]) (by simp [results, Tryz.results46, go_sem]) rfl ⟨ret_norow (unhide HR), below1 _ _⟩
set_option maxRecDepth 100000 in
set_option maxHeartbeats 1000000 in
theorem lower_any (p : Int) (w : World) (h0 : 0 ≤ p) (h1 : p ≤ 1114111) : Calls Tryz.prog 25 #[.int .i64 p] w fun e w' => e = .returned (.int .i64 (lowS p)) ∧ Below w.heap.size w w' := by
  by_cases c1 : 9728 ≤ p ∧ p ≤ 9753
  · have HR := hide (show lowS p = p - 9728 + 97 by unfold lowS; rw [if_pos c1])
    obtain ⟨c2, c3⟩ := c1
    go_enter Tryz.func25, Tryz.ntmps25
    go_wp2
    go_ret
    exact ⟨by rw [unhide HR]; rfl, Below.refl _ _⟩
  · have CT := hide (fun W => three_any p W h0 h1)
    have d1 : ¬ 9728 ≤ p ∨ (9728 ≤ p ∧ ¬ p ≤ 9753) := by omega
    have HL := hide (show lowS p = (match three p with | some r => r.2.2 | none => p) by unfold lowS; rw [if_neg c1]; rfl)
    clear c1
    cases h3 : three p with
    | some r =>
      obtain ⟨x, y, z⟩ := r
      rw [h3] at CT HL
      unfold rowV at CT
      simp only [Option.getD_some, Option.isSome_some] at CT
      clear h3
      rcases d1 with d1 | ⟨d1, d2⟩
      all_goals
        go_enter Tryz.func25, Tryz.ntmps25
        go_wp2_with (go_at_call 46; refine ((unhide CT) _).mono ?_; rintro e w3 ⟨rfl, hb3⟩)
        go_ret
        exact ⟨by rw [unhide HL]; rfl, hb3.alloc hb3.size _⟩
    | none =>
      rw [h3] at CT HL
      unfold rowV at CT
      simp only [Option.getD_none, Option.isSome_none] at CT
      clear h3
      rcases d1 with d1 | ⟨d1, d2⟩
      all_goals
        go_enter Tryz.func25, Tryz.ntmps25
        go_wp2_with (go_at_call 46; refine ((unhide CT) _).mono ?_; rintro e w3 ⟨rfl, hb3⟩)
        go_ret
        exact ⟨by rw [unhide HL]; rfl, hb3.alloc hb3.size _⟩
theorem bl_in {p : Int} (h0 : 0 ≤ p) (h1 : p ≤ 1114111) : 0 ≤ bl p ∧ bl p ≤ 1114111 := by unfold bl; split <;> omega
set_option maxRecDepth 100000 in
theorem block_any (p : Int) (w : World) (h0 : 0 ≤ p) (h1 : p ≤ 1114111) : Calls Tryz.prog 24 #[.int .i64 p] w fun e w' => e = .returned (.int .i64 (bl p)) ∧ w' = w := by
  by_cases c1 : p < 512
  · have HR := hide (show bl p = 0 by unfold bl; rw [if_pos (.inl c1)])
    go_enter Tryz.func24, Tryz.ntmps24
    go_wp2
    go_ret
    exact ⟨by rw [unhide HR]; rfl, rfl⟩
  by_cases c2 : 1280 ≤ p
  · have HR := hide (show bl p = 0 by unfold bl; rw [if_pos (.inr c2)])
    go_enter Tryz.func24, Tryz.ntmps24
    go_wp2
    go_ret
    exact ⟨by rw [unhide HR]; rfl, rfl⟩
  obtain ⟨q, hq⟩ : ∃ q, p / 256 = q := ⟨_, rfl⟩
  have e1 : p.tdiv 256 = q := by rw [Int.tdiv_eq_ediv_of_nonneg h0]; exact hq
  have b1 : 0 ≤ q := by omega
  have b2 : q ≤ 100 := by omega
  have HR := hide (show bl p = q * 256 by unfold bl; rw [if_neg (by omega), hq])
  clear hq
  go_enter Tryz.func24, Tryz.ntmps24
  go_wp2
  go_ret
  exact ⟨by rw [unhide HR]; rfl, rfl⟩
end Cas
end Go.Proofs.YtamigjljgepfiaaGreatDoor
