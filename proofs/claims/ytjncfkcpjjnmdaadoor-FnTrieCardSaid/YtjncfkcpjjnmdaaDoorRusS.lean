/- Numbers written by runs: the specification's. -/
import Derived.Test.YtjncfkcpjjnmdaaDoorDigS
import Derived.Lib.AppendStr
namespace Go.Proofs.YtjncfkcpjjnmdaaDoor
open Go.RowKit
theorem str_itoa (n : Int) : Lib.strCells (strOfNums (itoaZ n)) = (itoaZ n).map (Value.int .u8) := by
  unfold Lib.strCells itoaZ strOfNums
  simp
theorem size_itoa (n : Int) : (strOfNums (itoaZ n)).size = (itoaZ n).length := strOfNums_size _
theorem below_app {w W W' : World} {o : Obj} {v : Value} {n : Nat} {xs : List Value} (h : Below w.heap.size w W) (ho : W.ownsRow w.heap.size 5 1 v n xs) (hg : (W.alloc o).grownBy W' v.ownBlock) : Below w.heap.size w W' :=
  (h.trans ((one_belowD W o).mono h.size)).grown hg (by have := h.size; simp; omega) (fun m hm => (ho.lt m hm).1)
theorem below_str {w W W' : World} {v : Value} {n : Nat} {xs : List Value} (h : Below w.heap.size w W) (ho : W.ownsRow w.heap.size 5 1 v n xs) (hg : W.grownBy W' v.ownBlock) : Below w.heap.size w W' :=
  h.grown hg h.size (fun m hm => (ho.lt m hm).1)
/-- A byte behind the row. -/
theorem row_byte {W : World} {B : Nat} {v : Value} {acc : List Int} {c : Int} (h : W.ownsRow B 5 1 v (acc.length + 1) (acc.map (Value.int .u8) ++ [.int .u8 c])) : W.ownsRow B 5 1 v (acc ++ [c]).length ((acc ++ [c]).map (Value.int .u8)) := by
  rw [List.length_append, List.map_append]
  exact h
/-- A number behind the row. -/
theorem row_num {W : World} {B : Nat} {v : Value} {acc : List Int} {x : Int} (h : W.ownsRow B 5 1 v (acc.length + (strOfNums (itoaZ x)).size) (acc.map (Value.int .u8) ++ Lib.strCells (strOfNums (itoaZ x)))) : W.ownsRow B 5 1 v (acc ++ itoaZ x).length ((acc ++ itoaZ x).map (Value.int .u8)) := by
  rw [List.length_append, List.map_append, ← str_itoa, ← size_itoa]
  exact h
theorem piece_11 {L : List Int} {i k : Nat} (h1 : 0 < i) (h2 : 1 < k - i) (acc : List Int) : acc ++ pkPiece L i k = acc ++ [44] ++ itoaZ (nth L i) ++ [120] ++ itoaZ ((k - i : Nat) : Int) := by
  unfold pkPiece
  rw [if_pos h1, if_pos h2]
  simp
theorem piece_10 {L : List Int} {i k : Nat} (h1 : 0 < i) (h2 : ¬ 1 < k - i) (acc : List Int) : acc ++ pkPiece L i k = acc ++ [44] ++ itoaZ (nth L i) := by
  unfold pkPiece
  rw [if_pos h1, if_neg h2]
  simp
theorem piece_01 {L : List Int} {i k : Nat} (h1 : ¬ 0 < i) (h2 : 1 < k - i) (acc : List Int) : acc ++ pkPiece L i k = acc ++ itoaZ (nth L i) ++ [120] ++ itoaZ ((k - i : Nat) : Int) := by
  unfold pkPiece
  rw [if_neg h1, if_pos h2]
  simp
theorem piece_00 {L : List Int} {i k : Nat} (h1 : ¬ 0 < i) (h2 : ¬ 1 < k - i) (acc : List Int) : acc ++ pkPiece L i k = acc ++ itoaZ (nth L i) := by
  unfold pkPiece
  rw [if_neg h1, if_neg h2]
  simp
set_option maxHeartbeats 40000000 in
set_option maxRecDepth 100000 in
theorem runsS (v : Value) (L : List Int) (w : World) (h : IntsAt w v L) (hn : L.length ≤ 40000) (hx : ∀ j, j < L.length → -9223372036854775808 ≤ nth L j ∧ nth L j ≤ 9223372036854775807) :
    Calls Tryd.prog 37 #[v] w fun e w' => e = .returned (.string (strOfNums (pkRuns L))) ∧ Below w.heap.size w w' := by
  obtain ⟨i0, hi, hz0, hz1, hz2⟩ := info_parts info5
  obtain ⟨a, cap, rfl, hI⟩ := h
  have HI := hide hI
  have HX := hide hx
  clear hI hx
  have HO0 : Hid ((w.alloc (.cells #[] 5)).ownsRow w.heap.size 5 1 (.slice (some ⟨w.heap.size, 0, none⟩) 0 0) ([] : List Int).length (([] : List Int).map (Value.int .u8))) := hide (World.ownsRow_lit w #[] 0 (Nat.le_refl _) (by unfold maxLen; omega) rfl)
  have HB0 : Hid (Below w.heap.size w (w.alloc (.cells #[] 5))) := hide (one_belowD _ _)
  have HP0 : Hid (([] : List Int) ++ pkRest L 0 = pkRuns L) := hide rfl
  have HPe : Hid (∀ i, L.length ≤ i → pkRest L i = []) := hide (fun i h => pkRest_end h)
  have HPs : Hid (∀ i k, RunTo L i k → ∀ acc, acc ++ pkRest L i = pkRuns L → (acc ++ pkPiece L i k) ++ pkRest L k = pkRuns L) := hide (fun i k h acc e => by rw [List.append_assoc, ← pkRest_step h]; exact e)
  have HPl : Hid (∀ i k, i < k → k ≤ L.length → (pkPiece L i k).length ≤ 44) := hide (fun i k h1 h2 => pkPiece_len L i k (by omega) (unhide HX i (by omega)))
  have HRt : Hid (∀ i k, i < k → k ≤ L.length → (∀ j, i ≤ j → j < k → nth L j = nth L i) → (k = L.length ∨ nth L k ≠ nth L i) → RunTo L i k) := hide (fun i k h1 h2 h3 h4 => ⟨h1, h2, h3, h4⟩)
  generalize hnn : L.length = n at *
  have HNN := hide hnn
  clear hnn
  go_enter Tryd.func37, Tryd.ntmps37
  go_wp2
  go_loopw [3, 4] (fun sv0 iv wr => ∃ (i : Nat) (acc : List Int) (sv : Value), sv = sv0 ∧ i ≤ n ∧ iv = .int .i64 i ∧ acc.length ≤ 44 * i ∧ Hid (wr.ownsRow w.heap.size 5 1 sv acc.length (acc.map (Value.int .u8))) ∧ Hid (acc ++ pkRest L i = pkRuns L) ∧ Hid (Below w.heap.size w wr)) (fun _ iv _ => n - (intOf iv).toNat)
  case atStart => exact ⟨0, [], _, rfl, Nat.zero_le _, rfl, by simp, HO0, HP0, HB0⟩
  case round =>
    obtain ⟨i, acc, sv, hsv, hin, rfl, hal, HO, HP, HB⟩ := hrel
    subst hsv
    clear HO0 HB0 HP0
    by_cases hlt : i < n
    · have hlt' : (i : Int) < (n : Int) := by omega
      have hxi := unhide HX i hlt
      rcases unhide HI with e | ⟨b, off, rfl, hb, hc⟩
      · have h1 := unhide HNN
        rw [e] at h1
        simp at h1
        omega
      have HC := hide hc
      have HCi := hide (hc i hlt)
      have di := ((unhide HB).cell (p := ⟨b, off + i, none⟩) hb).trans (hc i hlt)
      clear hc
      go_wp2
      go_loopw [5] (fun kv wr2 => ∃ k m : Nat, i ≤ k ∧ k ≤ n ∧ kv = .int .i64 k ∧ wr2 = wr.drewN m ∧ Hid (∀ j, i ≤ j → j < k → nth L j = nth L i)) (fun kv _ => n - (intOf kv).toNat)
      case atStart => exact ⟨i, 0, Nat.le_refl _, by omega, rfl, rfl, hide (fun j h1 h2 => by omega)⟩
      case round =>
        obtain ⟨k, m, hik, hkn, rfl, rfl, HR⟩ := hrel
        by_cases hkl : k < n
        · have hkl' : (k : Int) < (n : Int) := by omega
          have dk := ((unhide HB).cell (p := ⟨b, off + k, none⟩) hb).trans (unhide HC k hkl)
          by_cases he : nth L k = nth L i
          · have te : (nth L k == nth L i) = true := by simp [he]
            have HR2 : Hid (∀ j, i ≤ j → j < k + 1 → nth L j = nth L i) := hide (fun j h1 h2 => by
              by_cases e : j = k
              · rw [e]; exact he
              · exact unhide HR j h1 (by omega))
            clear he HR
            generalize nth L k = y at *
            generalize hxx : nth L i = x at *
            clear hxx
            go_wp2_with fail
            go_quiet (fail)
            go_wp2
            go_roundw
            case rel => exact ⟨k + 1, _, by omega, by omega, by go_num, rfl, HR2⟩
            case measure => simp [intOf]; omega
          · have te : (nth L k == nth L i) = false := by simp [he]
            have hik2 : i < k := by
              rcases Nat.lt_or_eq_of_le hik with h | h
              · exact h
              · rw [h] at he
                exact absurd rfl he
            have HRT := hide (unhide HRt i k hik2 hkn (unhide HR) (.inr he))
            have hki : (k : Int) - (i : Int) = ((k - i : Nat) : Int) := by omega
            have CE : Hid (∀ W, Calls Tryd.prog 47 #[.int .i64 ((k : Int) - (i : Int))] W fun e w' => e = .returned (.string (strOfNums (itoaZ ((k - i : Nat) : Int)))) ∧ Below W.heap.size W w') := hide (fun W => by rw [hki]; exact decS _ W (by omega) (by omega))
            have hle := itoaZ_len ((k - i : Nat) : Int) (by omega) (by omega)
            have HO1 : Hid (∀ m', (wr.drewN m').ownsRow w.heap.size 5 1 sv acc.length (acc.map (Value.int .u8))) := hide (fun _ => unhide HO)
            have HB1 : Hid (∀ m', Below w.heap.size w (wr.drewN m')) := hide (fun m' => bdrew (unhide HB) m')
            clear HR he hki
            have dk2 := dk
            generalize nth L k = y at *
            obtain ⟨x, hxx⟩ : ∃ x, x = nth L i := ⟨_, rfl⟩
            rw [← hxx] at te di hxi HCi
            have HXi := hide hxx
            have hlx := itoaZ_len x hxi.1 hxi.2
            have CD := hide (fun W => decS x W hxi.1 hxi.2)
            clear hxx
            go_wp2_with fail
            go_quiet (fail)
            by_cases hp0 : 0 < i
            · have hp1 : (0 : Int) < (i : Int) := by omega
              by_cases hq0 : 1 < k - i
              · have hq1 : (1 : Int) < (k : Int) - (i : Int) := by omega
                go_wp2_with (at_builtin; refine wpList_append_own _ rfl _ _ 22 rfl w.heap.size 5 i0 (.int .u8 0) 1 1 Tryd.underlying22 hi hz0 hz1 hz2 rfl (by decide) _ _ _ rfl ((unhide HO1 _).alloc _) ⟨wr.heap.size, 0, none⟩ 1 1 [.int .u8 44] rfl rfl (cell_one_new _ _ _) (by simp [Value.oneCell']) (by unfold maxLen; omega) (by omega) (by have := (unhide HB).size; simp; omega) ?_)
                intro v2 w2 hown hgrow _
                obtain ⟨acc2, he2⟩ : ∃ acc2, acc2 = acc ++ [44] := ⟨_, rfl⟩
                have hl2 : acc2.length ≤ acc.length + 1 := by rw [he2]; simp
                have HO2 : Hid (w2.ownsRow w.heap.size 5 1 v2 acc2.length (acc2.map (Value.int .u8))) := hide (by rw [he2]; exact row_byte hown)
                have HB2 := hide (below_app (unhide HB1 _) (unhide HO1 _) hgrow)
                have HE2 := hide he2
                have d2 := ((unhide HB2).cell (p := ⟨b, off + i, none⟩) hb).trans (unhide HCi)
                clear hown hgrow he2
                go_wp2_with fail
                refine ((unhide CD) _).mono ?_
                rintro e w3 ⟨rfl, hb3⟩
                have HO3 := hide (ownsRow_below (unhide HO2) hb3)
                have HB3 := hide ((unhide HB2).trans (hb3.mono (unhide HB2).size))
                clear hb3 d2
                go_wp2_with (at_builtin; refine Lib.wpList_append_own_string _ rfl _ _ 22 9 rfl w.heap.size 5 i0 Tryd.underlying22 Tryd.underlying9 hi hz0 hz1 hz2 _ _ _ rfl (unhide HO3) _ rfl (by rw [size_itoa]; unfold maxLen; omega) (by rw [size_itoa]; omega) (unhide HB3).size ?_)
                intro v4 w4 hown hgrow _
                obtain ⟨acc4, he4⟩ : ∃ acc4, acc4 = acc2 ++ itoaZ x := ⟨_, rfl⟩
                have hl4 : acc4.length ≤ acc2.length + 21 := by rw [he4, List.length_append]; omega
                have HO4 : Hid (w4.ownsRow w.heap.size 5 1 v4 acc4.length (acc4.map (Value.int .u8))) := hide (by rw [he4]; exact row_num hown)
                have HB4 := hide (below_str (unhide HB3) (unhide HO3) hgrow)
                have HE4 := hide he4
                clear hown hgrow he4
                go_wp2_with (at_builtin; refine wpList_append_own _ rfl _ _ 22 rfl w.heap.size 5 i0 (.int .u8 0) 1 1 Tryd.underlying22 hi hz0 hz1 hz2 rfl (by decide) _ _ _ rfl ((unhide HO4).alloc _) ⟨w4.heap.size, 0, none⟩ 1 1 [.int .u8 120] rfl rfl (cell_one_new _ _ _) (by simp [Value.oneCell']) (by unfold maxLen; omega) (by omega) (by have := (unhide HB4).size; simp; omega) ?_)
                intro v5 w5 hown hgrow _
                obtain ⟨acc5, he5⟩ : ∃ acc5, acc5 = acc4 ++ [120] := ⟨_, rfl⟩
                have hl5 : acc5.length ≤ acc4.length + 1 := by rw [he5]; simp
                have HO5 : Hid (w5.ownsRow w.heap.size 5 1 v5 acc5.length (acc5.map (Value.int .u8))) := hide (by rw [he5]; exact row_byte hown)
                have HB5 := hide (below_app (unhide HB4) (unhide HO4) hgrow)
                have HE5 := hide he5
                clear hown hgrow he5
                go_wp2_with fail
                refine ((unhide CE) _).mono ?_
                rintro e w6 ⟨rfl, hb6⟩
                have HO6 := hide (ownsRow_below (unhide HO5) hb6)
                have HB6 := hide ((unhide HB5).trans (hb6.mono (unhide HB5).size))
                clear hb6
                go_wp2_with (at_builtin; refine Lib.wpList_append_own_string _ rfl _ _ 22 9 rfl w.heap.size 5 i0 Tryd.underlying22 Tryd.underlying9 hi hz0 hz1 hz2 _ _ _ rfl (unhide HO6) _ rfl (by rw [size_itoa]; unfold maxLen; omega) (by rw [size_itoa]; omega) (unhide HB6).size ?_)
                intro v7 w7 hown hgrow _
                obtain ⟨acc7, he7⟩ : ∃ acc7, acc7 = acc5 ++ itoaZ ((k - i : Nat) : Int) := ⟨_, rfl⟩
                have hl7 : acc7.length ≤ acc5.length + 21 := by rw [he7, List.length_append]; omega
                have HO7 : Hid (w7.ownsRow w.heap.size 5 1 v7 acc7.length (acc7.map (Value.int .u8))) := hide (by rw [he7]; exact row_num hown)
                have HB7 := hide (below_str (unhide HB6) (unhide HO6) hgrow)
                have HE7 := hide he7
                clear hown hgrow he7
                have HF : Hid (acc7 ++ pkRest L k = pkRuns L) := hide (by rw [unhide HE7, unhide HE5, unhide HE4, unhide HE2, unhide HXi, ← piece_11 hp0 hq0 acc]; exact (unhide HPs) i k (unhide HRT) acc (unhide HP))
                go_wp2
                go_roundw
                case rel => exact ⟨k, acc7, _, rfl, hkn, rfl, by omega, HO7, HF, HB7⟩
                case measure => simp [intOf]; omega
              · have hq1 : (k : Int) - (i : Int) ≤ 1 := by omega
                go_wp2_with (at_builtin; refine wpList_append_own _ rfl _ _ 22 rfl w.heap.size 5 i0 (.int .u8 0) 1 1 Tryd.underlying22 hi hz0 hz1 hz2 rfl (by decide) _ _ _ rfl ((unhide HO1 _).alloc _) ⟨wr.heap.size, 0, none⟩ 1 1 [.int .u8 44] rfl rfl (cell_one_new _ _ _) (by simp [Value.oneCell']) (by unfold maxLen; omega) (by omega) (by have := (unhide HB).size; simp; omega) ?_)
                intro v2 w2 hown hgrow _
                obtain ⟨acc2, he2⟩ : ∃ acc2, acc2 = acc ++ [44] := ⟨_, rfl⟩
                have hl2 : acc2.length ≤ acc.length + 1 := by rw [he2]; simp
                have HO2 : Hid (w2.ownsRow w.heap.size 5 1 v2 acc2.length (acc2.map (Value.int .u8))) := hide (by rw [he2]; exact row_byte hown)
                have HB2 := hide (below_app (unhide HB1 _) (unhide HO1 _) hgrow)
                have HE2 := hide he2
                have d2 := ((unhide HB2).cell (p := ⟨b, off + i, none⟩) hb).trans (unhide HCi)
                clear hown hgrow he2
                go_wp2_with fail
                refine ((unhide CD) _).mono ?_
                rintro e w3 ⟨rfl, hb3⟩
                have HO3 := hide (ownsRow_below (unhide HO2) hb3)
                have HB3 := hide ((unhide HB2).trans (hb3.mono (unhide HB2).size))
                clear hb3 d2
                go_wp2_with (at_builtin; refine Lib.wpList_append_own_string _ rfl _ _ 22 9 rfl w.heap.size 5 i0 Tryd.underlying22 Tryd.underlying9 hi hz0 hz1 hz2 _ _ _ rfl (unhide HO3) _ rfl (by rw [size_itoa]; unfold maxLen; omega) (by rw [size_itoa]; omega) (unhide HB3).size ?_)
                intro v4 w4 hown hgrow _
                obtain ⟨acc4, he4⟩ : ∃ acc4, acc4 = acc2 ++ itoaZ x := ⟨_, rfl⟩
                have hl4 : acc4.length ≤ acc2.length + 21 := by rw [he4, List.length_append]; omega
                have HO4 : Hid (w4.ownsRow w.heap.size 5 1 v4 acc4.length (acc4.map (Value.int .u8))) := hide (by rw [he4]; exact row_num hown)
                have HB4 := hide (below_str (unhide HB3) (unhide HO3) hgrow)
                have HE4 := hide he4
                clear hown hgrow he4
                have HF : Hid (acc4 ++ pkRest L k = pkRuns L) := hide (by rw [unhide HE4, unhide HE2, unhide HXi, ← piece_10 hp0 hq0 acc]; exact (unhide HPs) i k (unhide HRT) acc (unhide HP))
                go_wp2
                go_roundw
                case rel => exact ⟨k, acc4, _, rfl, hkn, rfl, by omega, HO4, HF, HB4⟩
                case measure => simp [intOf]; omega
            · have hp1 : (i : Int) ≤ 0 := by omega
              by_cases hq0 : 1 < k - i
              · have hq1 : (1 : Int) < (k : Int) - (i : Int) := by omega
                go_wp2_with fail
                refine ((unhide CD) _).mono ?_
                rintro e w3 ⟨rfl, hb3⟩
                have HO3 := hide (ownsRow_below (unhide HO1 _) hb3)
                have HB3 := hide ((unhide HB1 _).trans (hb3.mono (unhide HB1 0).size))
                clear hb3
                go_wp2_with (at_builtin; refine Lib.wpList_append_own_string _ rfl _ _ 22 9 rfl w.heap.size 5 i0 Tryd.underlying22 Tryd.underlying9 hi hz0 hz1 hz2 _ _ _ rfl (unhide HO3) _ rfl (by rw [size_itoa]; unfold maxLen; omega) (by rw [size_itoa]; omega) (unhide HB3).size ?_)
                intro v4 w4 hown hgrow _
                obtain ⟨acc4, he4⟩ : ∃ acc4, acc4 = acc ++ itoaZ x := ⟨_, rfl⟩
                have hl4 : acc4.length ≤ acc.length + 21 := by rw [he4, List.length_append]; omega
                have HO4 : Hid (w4.ownsRow w.heap.size 5 1 v4 acc4.length (acc4.map (Value.int .u8))) := hide (by rw [he4]; exact row_num hown)
                have HB4 := hide (below_str (unhide HB3) (unhide HO3) hgrow)
                have HE4 := hide he4
                clear hown hgrow he4
                go_wp2_with (at_builtin; refine wpList_append_own _ rfl _ _ 22 rfl w.heap.size 5 i0 (.int .u8 0) 1 1 Tryd.underlying22 hi hz0 hz1 hz2 rfl (by decide) _ _ _ rfl ((unhide HO4).alloc _) ⟨w4.heap.size, 0, none⟩ 1 1 [.int .u8 120] rfl rfl (cell_one_new _ _ _) (by simp [Value.oneCell']) (by unfold maxLen; omega) (by omega) (by have := (unhide HB4).size; simp; omega) ?_)
                intro v5 w5 hown hgrow _
                obtain ⟨acc5, he5⟩ : ∃ acc5, acc5 = acc4 ++ [120] := ⟨_, rfl⟩
                have hl5 : acc5.length ≤ acc4.length + 1 := by rw [he5]; simp
                have HO5 : Hid (w5.ownsRow w.heap.size 5 1 v5 acc5.length (acc5.map (Value.int .u8))) := hide (by rw [he5]; exact row_byte hown)
                have HB5 := hide (below_app (unhide HB4) (unhide HO4) hgrow)
                have HE5 := hide he5
                clear hown hgrow he5
                go_wp2_with fail
                refine ((unhide CE) _).mono ?_
                rintro e w6 ⟨rfl, hb6⟩
                have HO6 := hide (ownsRow_below (unhide HO5) hb6)
                have HB6 := hide ((unhide HB5).trans (hb6.mono (unhide HB5).size))
                clear hb6
                go_wp2_with (at_builtin; refine Lib.wpList_append_own_string _ rfl _ _ 22 9 rfl w.heap.size 5 i0 Tryd.underlying22 Tryd.underlying9 hi hz0 hz1 hz2 _ _ _ rfl (unhide HO6) _ rfl (by rw [size_itoa]; unfold maxLen; omega) (by rw [size_itoa]; omega) (unhide HB6).size ?_)
                intro v7 w7 hown hgrow _
                obtain ⟨acc7, he7⟩ : ∃ acc7, acc7 = acc5 ++ itoaZ ((k - i : Nat) : Int) := ⟨_, rfl⟩
                have hl7 : acc7.length ≤ acc5.length + 21 := by rw [he7, List.length_append]; omega
                have HO7 : Hid (w7.ownsRow w.heap.size 5 1 v7 acc7.length (acc7.map (Value.int .u8))) := hide (by rw [he7]; exact row_num hown)
                have HB7 := hide (below_str (unhide HB6) (unhide HO6) hgrow)
                have HE7 := hide he7
                clear hown hgrow he7
                have HF : Hid (acc7 ++ pkRest L k = pkRuns L) := hide (by rw [unhide HE7, unhide HE5, unhide HE4, unhide HXi, ← piece_01 hp0 hq0 acc]; exact (unhide HPs) i k (unhide HRT) acc (unhide HP))
                go_wp2
                go_roundw
                case rel => exact ⟨k, acc7, _, rfl, hkn, rfl, by omega, HO7, HF, HB7⟩
                case measure => simp [intOf]; omega
              · have hq1 : (k : Int) - (i : Int) ≤ 1 := by omega
                go_wp2_with fail
                refine ((unhide CD) _).mono ?_
                rintro e w3 ⟨rfl, hb3⟩
                have HO3 := hide (ownsRow_below (unhide HO1 _) hb3)
                have HB3 := hide ((unhide HB1 _).trans (hb3.mono (unhide HB1 0).size))
                clear hb3
                go_wp2_with (at_builtin; refine Lib.wpList_append_own_string _ rfl _ _ 22 9 rfl w.heap.size 5 i0 Tryd.underlying22 Tryd.underlying9 hi hz0 hz1 hz2 _ _ _ rfl (unhide HO3) _ rfl (by rw [size_itoa]; unfold maxLen; omega) (by rw [size_itoa]; omega) (unhide HB3).size ?_)
                intro v4 w4 hown hgrow _
                obtain ⟨acc4, he4⟩ : ∃ acc4, acc4 = acc ++ itoaZ x := ⟨_, rfl⟩
                have hl4 : acc4.length ≤ acc.length + 21 := by rw [he4, List.length_append]; omega
                have HO4 : Hid (w4.ownsRow w.heap.size 5 1 v4 acc4.length (acc4.map (Value.int .u8))) := hide (by rw [he4]; exact row_num hown)
                have HB4 := hide (below_str (unhide HB3) (unhide HO3) hgrow)
                have HE4 := hide he4
                clear hown hgrow he4
                have HF : Hid (acc4 ++ pkRest L k = pkRuns L) := hide (by rw [unhide HE4, unhide HXi, ← piece_00 hp0 hq0 acc]; exact (unhide HPs) i k (unhide HRT) acc (unhide HP))
                go_wp2
                go_roundw
                case rel => exact ⟨k, acc4, _, rfl, hkn, rfl, by omega, HO4, HF, HB4⟩
                case measure => simp [intOf]; omega
        · have hkn2 : k = n := by omega
          have hkl' : ¬ (k : Int) < (n : Int) := by omega
          have he : True := trivial
          have hik2 : i < k := by omega
          have HRT := hide (unhide HRt i k hik2 hkn (unhide HR) (.inl hkn2))
          have hki : (k : Int) - (i : Int) = ((k - i : Nat) : Int) := by omega
          have CE : Hid (∀ W, Calls Tryd.prog 47 #[.int .i64 ((k : Int) - (i : Int))] W fun e w' => e = .returned (.string (strOfNums (itoaZ ((k - i : Nat) : Int)))) ∧ Below W.heap.size W w') := hide (fun W => by rw [hki]; exact decS _ W (by omega) (by omega))
          have hle := itoaZ_len ((k - i : Nat) : Int) (by omega) (by omega)
          have HO1 : Hid (∀ m', (wr.drewN m').ownsRow w.heap.size 5 1 sv acc.length (acc.map (Value.int .u8))) := hide (fun _ => unhide HO)
          have HB1 : Hid (∀ m', Below w.heap.size w (wr.drewN m')) := hide (fun m' => bdrew (unhide HB) m')
          clear HR he hki hkn2
          obtain ⟨x, hxx⟩ : ∃ x, x = nth L i := ⟨_, rfl⟩
          rw [← hxx] at di hxi HCi
          have HXi := hide hxx
          have hlx := itoaZ_len x hxi.1 hxi.2
          have CD := hide (fun W => decS x W hxi.1 hxi.2)
          clear hxx
          go_wp2_with fail
          go_quiet (fail)
          by_cases hp0 : 0 < i
          · have hp1 : (0 : Int) < (i : Int) := by omega
            by_cases hq0 : 1 < k - i
            · have hq1 : (1 : Int) < (k : Int) - (i : Int) := by omega
              go_wp2_with (at_builtin; refine wpList_append_own _ rfl _ _ 22 rfl w.heap.size 5 i0 (.int .u8 0) 1 1 Tryd.underlying22 hi hz0 hz1 hz2 rfl (by decide) _ _ _ rfl ((unhide HO1 _).alloc _) ⟨wr.heap.size, 0, none⟩ 1 1 [.int .u8 44] rfl rfl (cell_one_new _ _ _) (by simp [Value.oneCell']) (by unfold maxLen; omega) (by omega) (by have := (unhide HB).size; simp; omega) ?_)
              intro v2 w2 hown hgrow _
              obtain ⟨acc2, he2⟩ : ∃ acc2, acc2 = acc ++ [44] := ⟨_, rfl⟩
              have hl2 : acc2.length ≤ acc.length + 1 := by rw [he2]; simp
              have HO2 : Hid (w2.ownsRow w.heap.size 5 1 v2 acc2.length (acc2.map (Value.int .u8))) := hide (by rw [he2]; exact row_byte hown)
              have HB2 := hide (below_app (unhide HB1 _) (unhide HO1 _) hgrow)
              have HE2 := hide he2
              have d2 := ((unhide HB2).cell (p := ⟨b, off + i, none⟩) hb).trans (unhide HCi)
              clear hown hgrow he2
              go_wp2_with fail
              refine ((unhide CD) _).mono ?_
              rintro e w3 ⟨rfl, hb3⟩
              have HO3 := hide (ownsRow_below (unhide HO2) hb3)
              have HB3 := hide ((unhide HB2).trans (hb3.mono (unhide HB2).size))
              clear hb3 d2
              go_wp2_with (at_builtin; refine Lib.wpList_append_own_string _ rfl _ _ 22 9 rfl w.heap.size 5 i0 Tryd.underlying22 Tryd.underlying9 hi hz0 hz1 hz2 _ _ _ rfl (unhide HO3) _ rfl (by rw [size_itoa]; unfold maxLen; omega) (by rw [size_itoa]; omega) (unhide HB3).size ?_)
              intro v4 w4 hown hgrow _
              obtain ⟨acc4, he4⟩ : ∃ acc4, acc4 = acc2 ++ itoaZ x := ⟨_, rfl⟩
              have hl4 : acc4.length ≤ acc2.length + 21 := by rw [he4, List.length_append]; omega
              have HO4 : Hid (w4.ownsRow w.heap.size 5 1 v4 acc4.length (acc4.map (Value.int .u8))) := hide (by rw [he4]; exact row_num hown)
              have HB4 := hide (below_str (unhide HB3) (unhide HO3) hgrow)
              have HE4 := hide he4
              clear hown hgrow he4
              go_wp2_with (at_builtin; refine wpList_append_own _ rfl _ _ 22 rfl w.heap.size 5 i0 (.int .u8 0) 1 1 Tryd.underlying22 hi hz0 hz1 hz2 rfl (by decide) _ _ _ rfl ((unhide HO4).alloc _) ⟨w4.heap.size, 0, none⟩ 1 1 [.int .u8 120] rfl rfl (cell_one_new _ _ _) (by simp [Value.oneCell']) (by unfold maxLen; omega) (by omega) (by have := (unhide HB4).size; simp; omega) ?_)
              intro v5 w5 hown hgrow _
              obtain ⟨acc5, he5⟩ : ∃ acc5, acc5 = acc4 ++ [120] := ⟨_, rfl⟩
              have hl5 : acc5.length ≤ acc4.length + 1 := by rw [he5]; simp
              have HO5 : Hid (w5.ownsRow w.heap.size 5 1 v5 acc5.length (acc5.map (Value.int .u8))) := hide (by rw [he5]; exact row_byte hown)
              have HB5 := hide (below_app (unhide HB4) (unhide HO4) hgrow)
              have HE5 := hide he5
              clear hown hgrow he5
              go_wp2_with fail
              refine ((unhide CE) _).mono ?_
              rintro e w6 ⟨rfl, hb6⟩
              have HO6 := hide (ownsRow_below (unhide HO5) hb6)
              have HB6 := hide ((unhide HB5).trans (hb6.mono (unhide HB5).size))
              clear hb6
              go_wp2_with (at_builtin; refine Lib.wpList_append_own_string _ rfl _ _ 22 9 rfl w.heap.size 5 i0 Tryd.underlying22 Tryd.underlying9 hi hz0 hz1 hz2 _ _ _ rfl (unhide HO6) _ rfl (by rw [size_itoa]; unfold maxLen; omega) (by rw [size_itoa]; omega) (unhide HB6).size ?_)
              intro v7 w7 hown hgrow _
              obtain ⟨acc7, he7⟩ : ∃ acc7, acc7 = acc5 ++ itoaZ ((k - i : Nat) : Int) := ⟨_, rfl⟩
              have hl7 : acc7.length ≤ acc5.length + 21 := by rw [he7, List.length_append]; omega
              have HO7 : Hid (w7.ownsRow w.heap.size 5 1 v7 acc7.length (acc7.map (Value.int .u8))) := hide (by rw [he7]; exact row_num hown)
              have HB7 := hide (below_str (unhide HB6) (unhide HO6) hgrow)
              have HE7 := hide he7
              clear hown hgrow he7
              have HF : Hid (acc7 ++ pkRest L k = pkRuns L) := hide (by rw [unhide HE7, unhide HE5, unhide HE4, unhide HE2, unhide HXi, ← piece_11 hp0 hq0 acc]; exact (unhide HPs) i k (unhide HRT) acc (unhide HP))
              go_wp2
              go_roundw
              case rel => exact ⟨k, acc7, _, rfl, hkn, rfl, by omega, HO7, HF, HB7⟩
              case measure => simp [intOf]; omega
            · have hq1 : (k : Int) - (i : Int) ≤ 1 := by omega
              go_wp2_with (at_builtin; refine wpList_append_own _ rfl _ _ 22 rfl w.heap.size 5 i0 (.int .u8 0) 1 1 Tryd.underlying22 hi hz0 hz1 hz2 rfl (by decide) _ _ _ rfl ((unhide HO1 _).alloc _) ⟨wr.heap.size, 0, none⟩ 1 1 [.int .u8 44] rfl rfl (cell_one_new _ _ _) (by simp [Value.oneCell']) (by unfold maxLen; omega) (by omega) (by have := (unhide HB).size; simp; omega) ?_)
              intro v2 w2 hown hgrow _
              obtain ⟨acc2, he2⟩ : ∃ acc2, acc2 = acc ++ [44] := ⟨_, rfl⟩
              have hl2 : acc2.length ≤ acc.length + 1 := by rw [he2]; simp
              have HO2 : Hid (w2.ownsRow w.heap.size 5 1 v2 acc2.length (acc2.map (Value.int .u8))) := hide (by rw [he2]; exact row_byte hown)
              have HB2 := hide (below_app (unhide HB1 _) (unhide HO1 _) hgrow)
              have HE2 := hide he2
              have d2 := ((unhide HB2).cell (p := ⟨b, off + i, none⟩) hb).trans (unhide HCi)
              clear hown hgrow he2
              go_wp2_with fail
              refine ((unhide CD) _).mono ?_
              rintro e w3 ⟨rfl, hb3⟩
              have HO3 := hide (ownsRow_below (unhide HO2) hb3)
              have HB3 := hide ((unhide HB2).trans (hb3.mono (unhide HB2).size))
              clear hb3 d2
              go_wp2_with (at_builtin; refine Lib.wpList_append_own_string _ rfl _ _ 22 9 rfl w.heap.size 5 i0 Tryd.underlying22 Tryd.underlying9 hi hz0 hz1 hz2 _ _ _ rfl (unhide HO3) _ rfl (by rw [size_itoa]; unfold maxLen; omega) (by rw [size_itoa]; omega) (unhide HB3).size ?_)
              intro v4 w4 hown hgrow _
              obtain ⟨acc4, he4⟩ : ∃ acc4, acc4 = acc2 ++ itoaZ x := ⟨_, rfl⟩
              have hl4 : acc4.length ≤ acc2.length + 21 := by rw [he4, List.length_append]; omega
              have HO4 : Hid (w4.ownsRow w.heap.size 5 1 v4 acc4.length (acc4.map (Value.int .u8))) := hide (by rw [he4]; exact row_num hown)
              have HB4 := hide (below_str (unhide HB3) (unhide HO3) hgrow)
              have HE4 := hide he4
              clear hown hgrow he4
              have HF : Hid (acc4 ++ pkRest L k = pkRuns L) := hide (by rw [unhide HE4, unhide HE2, unhide HXi, ← piece_10 hp0 hq0 acc]; exact (unhide HPs) i k (unhide HRT) acc (unhide HP))
              go_wp2
              go_roundw
              case rel => exact ⟨k, acc4, _, rfl, hkn, rfl, by omega, HO4, HF, HB4⟩
              case measure => simp [intOf]; omega
          · have hp1 : (i : Int) ≤ 0 := by omega
            by_cases hq0 : 1 < k - i
            · have hq1 : (1 : Int) < (k : Int) - (i : Int) := by omega
              go_wp2_with fail
              refine ((unhide CD) _).mono ?_
              rintro e w3 ⟨rfl, hb3⟩
              have HO3 := hide (ownsRow_below (unhide HO1 _) hb3)
              have HB3 := hide ((unhide HB1 _).trans (hb3.mono (unhide HB1 0).size))
              clear hb3
              go_wp2_with (at_builtin; refine Lib.wpList_append_own_string _ rfl _ _ 22 9 rfl w.heap.size 5 i0 Tryd.underlying22 Tryd.underlying9 hi hz0 hz1 hz2 _ _ _ rfl (unhide HO3) _ rfl (by rw [size_itoa]; unfold maxLen; omega) (by rw [size_itoa]; omega) (unhide HB3).size ?_)
              intro v4 w4 hown hgrow _
              obtain ⟨acc4, he4⟩ : ∃ acc4, acc4 = acc ++ itoaZ x := ⟨_, rfl⟩
              have hl4 : acc4.length ≤ acc.length + 21 := by rw [he4, List.length_append]; omega
              have HO4 : Hid (w4.ownsRow w.heap.size 5 1 v4 acc4.length (acc4.map (Value.int .u8))) := hide (by rw [he4]; exact row_num hown)
              have HB4 := hide (below_str (unhide HB3) (unhide HO3) hgrow)
              have HE4 := hide he4
              clear hown hgrow he4
              go_wp2_with (at_builtin; refine wpList_append_own _ rfl _ _ 22 rfl w.heap.size 5 i0 (.int .u8 0) 1 1 Tryd.underlying22 hi hz0 hz1 hz2 rfl (by decide) _ _ _ rfl ((unhide HO4).alloc _) ⟨w4.heap.size, 0, none⟩ 1 1 [.int .u8 120] rfl rfl (cell_one_new _ _ _) (by simp [Value.oneCell']) (by unfold maxLen; omega) (by omega) (by have := (unhide HB4).size; simp; omega) ?_)
              intro v5 w5 hown hgrow _
              obtain ⟨acc5, he5⟩ : ∃ acc5, acc5 = acc4 ++ [120] := ⟨_, rfl⟩
              have hl5 : acc5.length ≤ acc4.length + 1 := by rw [he5]; simp
              have HO5 : Hid (w5.ownsRow w.heap.size 5 1 v5 acc5.length (acc5.map (Value.int .u8))) := hide (by rw [he5]; exact row_byte hown)
              have HB5 := hide (below_app (unhide HB4) (unhide HO4) hgrow)
              have HE5 := hide he5
              clear hown hgrow he5
              go_wp2_with fail
              refine ((unhide CE) _).mono ?_
              rintro e w6 ⟨rfl, hb6⟩
              have HO6 := hide (ownsRow_below (unhide HO5) hb6)
              have HB6 := hide ((unhide HB5).trans (hb6.mono (unhide HB5).size))
              clear hb6
              go_wp2_with (at_builtin; refine Lib.wpList_append_own_string _ rfl _ _ 22 9 rfl w.heap.size 5 i0 Tryd.underlying22 Tryd.underlying9 hi hz0 hz1 hz2 _ _ _ rfl (unhide HO6) _ rfl (by rw [size_itoa]; unfold maxLen; omega) (by rw [size_itoa]; omega) (unhide HB6).size ?_)
              intro v7 w7 hown hgrow _
              obtain ⟨acc7, he7⟩ : ∃ acc7, acc7 = acc5 ++ itoaZ ((k - i : Nat) : Int) := ⟨_, rfl⟩
              have hl7 : acc7.length ≤ acc5.length + 21 := by rw [he7, List.length_append]; omega
              have HO7 : Hid (w7.ownsRow w.heap.size 5 1 v7 acc7.length (acc7.map (Value.int .u8))) := hide (by rw [he7]; exact row_num hown)
              have HB7 := hide (below_str (unhide HB6) (unhide HO6) hgrow)
              have HE7 := hide he7
              clear hown hgrow he7
              have HF : Hid (acc7 ++ pkRest L k = pkRuns L) := hide (by rw [unhide HE7, unhide HE5, unhide HE4, unhide HXi, ← piece_01 hp0 hq0 acc]; exact (unhide HPs) i k (unhide HRT) acc (unhide HP))
              go_wp2
              go_roundw
              case rel => exact ⟨k, acc7, _, rfl, hkn, rfl, by omega, HO7, HF, HB7⟩
              case measure => simp [intOf]; omega
            · have hq1 : (k : Int) - (i : Int) ≤ 1 := by omega
              go_wp2_with fail
              refine ((unhide CD) _).mono ?_
              rintro e w3 ⟨rfl, hb3⟩
              have HO3 := hide (ownsRow_below (unhide HO1 _) hb3)
              have HB3 := hide ((unhide HB1 _).trans (hb3.mono (unhide HB1 0).size))
              clear hb3
              go_wp2_with (at_builtin; refine Lib.wpList_append_own_string _ rfl _ _ 22 9 rfl w.heap.size 5 i0 Tryd.underlying22 Tryd.underlying9 hi hz0 hz1 hz2 _ _ _ rfl (unhide HO3) _ rfl (by rw [size_itoa]; unfold maxLen; omega) (by rw [size_itoa]; omega) (unhide HB3).size ?_)
              intro v4 w4 hown hgrow _
              obtain ⟨acc4, he4⟩ : ∃ acc4, acc4 = acc ++ itoaZ x := ⟨_, rfl⟩
              have hl4 : acc4.length ≤ acc.length + 21 := by rw [he4, List.length_append]; omega
              have HO4 : Hid (w4.ownsRow w.heap.size 5 1 v4 acc4.length (acc4.map (Value.int .u8))) := hide (by rw [he4]; exact row_num hown)
              have HB4 := hide (below_str (unhide HB3) (unhide HO3) hgrow)
              have HE4 := hide he4
              clear hown hgrow he4
              have HF : Hid (acc4 ++ pkRest L k = pkRuns L) := hide (by rw [unhide HE4, unhide HXi, ← piece_00 hp0 hq0 acc]; exact (unhide HPs) i k (unhide HRT) acc (unhide HP))
              go_wp2
              go_roundw
              case rel => exact ⟨k, acc4, _, rfl, hkn, rfl, by omega, HO4, HF, HB4⟩
              case measure => simp [intOf]; omega
    · obtain rfl : i = n := by omega
      have hge : ¬ (i : Int) < (i : Int) := by omega
      have HF : Hid (acc = pkRuns L) := hide (by
        have h1 := unhide HP
        rwa [unhide HPe i (Nat.le_refl _), List.append_nil] at h1)
      have hcv := conv_owned wr w.heap.size sv acc.length acc (unhide HO)
      clear HPs HRt HPl HX
      go_wp2
      go_ret
      exact ⟨by rw [← unhide HF]; rfl, unhide HB⟩
end Go.Proofs.YtjncfkcpjjnmdaaDoor
