/- Numbers written by runs: the program's. -/
import Derived.Test.YtjncfkcpjjnmdaaDoorRusS
import Derived.Test.YtjncfkcpjjnmdaaDoorShelfA
import Derived.Lib.OthersKept
namespace Go.Proofs.YtjncfkcpjjnmdaaDoor
open Go.RowKit
theorem below_appB {w W W' : World} {B : Nat} {o : Obj} {v : Value} {n : Nat} {xs : List Value} (h : Below B w W) (ho : W.ownsRow B 5 1 v n xs) (hg : (W.alloc o).grownBy W' v.ownBlock) (hB : B ≤ W.heap.size) : Below B w W' :=
  (h.trans ((one_belowD W o).mono hB)).grown hg (by simp; omega) (fun m hm => (ho.lt m hm).1)
theorem kept_app {w W W' : World} {B : Nat} {o : Obj} {v : Value} {n : Nat} {xs : List Value} (h : Lib.OthersKept 5 none w W) (ho : W.ownsRow B 5 1 v n xs) (hg : (W.alloc o).grownBy W' v.ownBlock) : Lib.OthersKept 5 none w W' := fun k ob hk hb hne => by
  have h1 := h k ob hk hb hne
  have hlt := (Array.getElem?_eq_some_iff.1 h1).1
  rw [hg.block k (by simp; omega) (fun e => ?_), Below.heap_alloc W o k hlt]
  · exact h1
  · rcases ho.2 with ⟨rfl, _⟩ | ⟨g, cap, cur, rfl, _, hgb, _⟩
    · cases e
    · simp [Value.ownBlock] at e
      subst e
      rw [hgb] at h1
      injection h1 with h1
      exact hne _ _ h1.symm
theorem cells_itoa (x : Int) : Lib.byteCells (Lib.itoa x) = (itoaZ x).map (Value.int .u8) := by
  unfold Lib.byteCells itoaZ
  simp
theorem appInt (B : Nat) (sv : Value) (acc : List Int) (x : Int) (W : World) (ho : W.ownsRow B 5 1 sv acc.length (acc.map (Value.int .u8))) (hB : B ≤ W.heap.size) (h0 : -9223372036854775808 ≤ x) (h1 : x ≤ 9223372036854775807) (hl : acc.length ≤ 100000000)
    (ht : Lib.TabBelow Tryd.prog B W "internal/strconv.uint64pow10" .u64 Lib.pow10Tab) :
    Calls Tryd.prog 46 #[sv, .int .i64 x, .int .i64 10] W fun e w' => ∃ v', e = .returned v' ∧ w'.ownsRow B 5 1 v' (acc ++ itoaZ x).length ((acc ++ itoaZ x).map (Value.int .u8)) ∧ Below B W w' ∧ Lib.OthersKept 5 none W w' := by
  have c : Calls Tryd.prog 46 #[sv, .int .i64 x, .int .i64 10] W _ := Any.strconv_AppendInt_10 Tryd.laysApp B acc.length x h0 h1 sv _ W ho hB (by omega) ht
  refine c.mono ?_
  rintro e w' ⟨v', rfl, h2, h3, h4⟩
  refine ⟨v', rfl, ?_, h3, h4⟩
  rw [List.length_append, List.map_append, ← cells_itoa, show (itoaZ x).length = (Lib.itoa x).length from by unfold itoaZ; rw [List.length_map]]
  exact h2
set_option maxHeartbeats 40000000 in
set_option maxRecDepth 100000 in
theorem layI (B : Nat) (tv v : Value) (T0 L : List Int) (w : World) (ho : w.ownsRow B 5 1 tv T0.length (T0.map (Value.int .u8))) (hv : ∃ a cap, v = .slice a L.length cap ∧ (L = [] ∨ ∃ b off, a = some ⟨b, off, none⟩ ∧ b < B ∧ ∀ i, i < L.length → w.cell? ⟨b, off + i, none⟩ = some (.int .i64 (nth L i))))
    (hn : L.length ≤ 40000) (ht : T0.length ≤ 2000000) (hx : ∀ j, j < L.length → -9223372036854775808 ≤ nth L j ∧ nth L j ≤ 9223372036854775807) (hBw : B ≤ w.heap.size) (htab : Lib.TabBelow Tryd.prog B w "internal/strconv.uint64pow10" .u64 Lib.pow10Tab) :
    Calls Tryd.prog 29 #[tv, v] w fun e w' => ∃ v', e = .returned v' ∧ w'.ownsRow B 5 1 v' (T0 ++ pkRuns L).length ((T0 ++ pkRuns L).map (Value.int .u8)) ∧ Below B w w' ∧ Lib.OthersKept 5 none w w' := by
  obtain ⟨i0, hi, hz0, hz1, hz2⟩ := info_parts info5
  obtain ⟨a, cap, rfl, hI⟩ := hv
  have HI := hide hI
  have HX := hide hx
  have HT := hide htab
  have HO0 := hide ho
  clear hI hx htab ho
  have HP0 : Hid (T0 ++ pkRest L 0 = T0 ++ pkRuns L) := hide rfl
  have HPe : Hid (∀ i, L.length ≤ i → pkRest L i = []) := hide (fun i h => pkRest_end h)
  have HPs : Hid (∀ i k, RunTo L i k → ∀ acc, acc ++ pkRest L i = T0 ++ pkRuns L → (acc ++ pkPiece L i k) ++ pkRest L k = T0 ++ pkRuns L) := hide (fun i k h acc e => by rw [List.append_assoc, ← pkRest_step h]; exact e)
  have HRt : Hid (∀ i k, i < k → k ≤ L.length → (∀ j, i ≤ j → j < k → nth L j = nth L i) → (k = L.length ∨ nth L k ≠ nth L i) → RunTo L i k) := hide (fun i k h1 h2 h3 h4 => ⟨h1, h2, h3, h4⟩)
  generalize hnn : L.length = n at *
  have HNN := hide hnn
  clear hnn
  go_enter Tryd.func29, Tryd.ntmps29
  go_wp2
  go_loopw [0, 5] (fun sv0 iv wr => ∃ (i : Nat) (acc : List Int) (sv : Value), sv = sv0 ∧ i ≤ n ∧ iv = .int .i64 i ∧ acc.length ≤ T0.length + 44 * i ∧ Hid (wr.ownsRow B 5 1 sv acc.length (acc.map (Value.int .u8))) ∧ Hid (acc ++ pkRest L i = T0 ++ pkRuns L) ∧ Hid (Below B w wr) ∧ Hid (Lib.OthersKept 5 none w wr)) (fun _ iv _ => n - (intOf iv).toNat)
  case atStart => exact ⟨0, T0, _, rfl, Nat.zero_le _, rfl, by omega, HO0, HP0, hide (Below.refl _ _), hide (Lib.OthersKept.refl _ _ _)⟩
  case round =>
    obtain ⟨i, acc, sv, hsv, hin, rfl, hal, HO, HP, HB, HK⟩ := hrel
    subst hsv
    clear HO0 HP0
    by_cases hlt : i < n
    · have hlt' : (i : Int) < (n : Int) := by omega
      have hxi := unhide HX i hlt
      rcases unhide HI with e | ⟨b, off, rfl, hb, hc⟩
      · have h1 := unhide HNN
        rw [e] at h1
        simp at h1
        omega
      have HC := hide hc
      have HCi := hide (hc i hlt)
      have di := ((unhide HB).cell (p := ⟨b, off + i, none⟩) hb).trans (hc i hlt)
      clear hc
      go_wp2
      go_loopw [6] (fun kv wr2 => ∃ k m : Nat, i < k ∧ k ≤ n ∧ kv = .int .i64 k ∧ wr2 = wr.drewN m ∧ Hid (∀ j, i ≤ j → j < k → nth L j = nth L i)) (fun kv _ => n - (intOf kv).toNat)
      case atStart => exact ⟨i + 1, 0, by omega, by omega, by go_num, rfl, hide (fun j h1 h2 => by rw [show j = i by omega])⟩
      case round =>
        obtain ⟨k, m, hik, hkn, rfl, rfl, HR⟩ := hrel
        by_cases hkl : k < n
        · have hkl' : (k : Int) < (n : Int) := by omega
          have dk := ((unhide HB).cell (p := ⟨b, off + k, none⟩) hb).trans (unhide HC k hkl)
          by_cases he : nth L k = nth L i
          · have te : (nth L k == nth L i) = true := by simp [he]
            have HR2 : Hid (∀ j, i ≤ j → j < k + 1 → nth L j = nth L i) := hide (fun j h1 h2 => by
              by_cases e : j = k
              · rw [e]; exact he
              · exact unhide HR j h1 (by omega))
            clear he HR
            generalize nth L k = y at *
            generalize hxx : nth L i = x at *
            clear hxx
            go_wp2_with fail
            go_quiet (fail)
            go_wp2
            go_roundw
            case rel => exact ⟨k + 1, _, by omega, by omega, by go_num, rfl, HR2⟩
            case measure => simp [intOf]; omega
          · have te : (nth L k == nth L i) = false := by simp [he]
            have HRT := hide (unhide HRt i k hik hkn (unhide HR) (.inr he))
            have hki : (k : Int) - (i : Int) = ((k - i : Nat) : Int) := by omega
            have hle := itoaZ_len ((k - i : Nat) : Int) (by omega) (by omega)
            have HO1 : Hid (∀ m', (wr.drewN m').ownsRow B 5 1 sv acc.length (acc.map (Value.int .u8))) := hide (fun _ => unhide HO)
            have HB1 : Hid (∀ m', Below B w (wr.drewN m')) := hide (fun m' => bdrew (unhide HB) m')
            have HK1 : Hid (∀ m', Lib.OthersKept 5 none w (wr.drewN m')) := hide (fun _ => unhide HK)
            have HSz : Hid (B ≤ wr.heap.size) := hide (Nat.le_trans hBw (unhide HB).size)
            have HKI := hide hki
            clear HR he hki
            generalize nth L k = y at *
            obtain ⟨x, hxx⟩ : ∃ x, x = nth L i := ⟨_, rfl⟩
            rw [← hxx] at te di hxi HCi
            have HXi := hide hxx
            have hlx := itoaZ_len x hxi.1 hxi.2
            clear hxx
            go_wp2_with fail
            go_quiet (fail)
            by_cases hp0 : 0 < i
            · have hp1 : (0 : Int) < (i : Int) := by omega
              by_cases hq0 : 1 < k - i
              · have hq1 : (i : Int) + 1 < (k : Int) := by omega
                go_wp2_with (at_builtin; refine wpList_append_own _ rfl _ _ 22 rfl B 5 i0 (.int .u8 0) 1 1 Tryd.underlying22 hi hz0 hz1 hz2 rfl (by decide) _ _ _ rfl ((unhide HO1 _).alloc _) ⟨wr.heap.size, 0, none⟩ 1 1 [.int .u8 44] rfl rfl (cell_one_new _ _ _) (by simp [Value.oneCell']) (by unfold maxLen; omega) (by omega) (by have := unhide HSz; simp; omega) ?_)
                intro v2 w2 hown hgrow _
                obtain ⟨acc2, he2⟩ : ∃ a, a = acc ++ [44] := ⟨_, rfl⟩
                have hl2 : acc2.length ≤ acc.length + 1 := by rw [he2]; simp
                have HO2 : Hid (w2.ownsRow B 5 1 v2 acc2.length (acc2.map (Value.int .u8))) := hide (by rw [he2]; exact row_byte hown)
                have HB2 := hide (below_appB (unhide HB1 _) (unhide HO1 _) hgrow (unhide HSz))
                have HK2 := hide (kept_app (unhide HK1 _) (unhide HO1 _) hgrow)
                have HS2 : Hid (B ≤ w2.heap.size) := hide (Nat.le_trans hBw (unhide HB2).size)
                have HE2 := hide he2
                clear hown hgrow he2
                have d2 := ((unhide HB2).cell (p := ⟨b, off + i, none⟩) hb).trans (unhide HCi)
                have CA4 := hide (appInt B v2 acc2 x w2 (unhide HO2) (unhide HS2) (by omega) (by omega) (by omega) ((unhide HT).on (unhide HB2)))
                go_wp2_with fail
                refine (unhide CA4).mono ?_
                rintro e w4 ⟨v4, rfl, hown, hb, hk⟩
                obtain ⟨acc4, he4⟩ : ∃ a, a = acc2 ++ itoaZ x := ⟨_, rfl⟩
                have hl4 : acc4.length ≤ acc2.length + 21 := by rw [he4, List.length_append]; omega
                have HO4 : Hid (w4.ownsRow B 5 1 v4 acc4.length (acc4.map (Value.int .u8))) := hide (by rw [he4]; exact hown)
                have HB4 := hide ((unhide HB2).trans hb)
                have HK4 := hide ((unhide HK2).trans hk)
                have HS4 : Hid (B ≤ w4.heap.size) := hide (Nat.le_trans hBw (unhide HB4).size)
                have HE4 := hide he4
                clear hown hb hk he4 CA4
                clear d2
                go_wp2_with (at_builtin; refine wpList_append_own _ rfl _ _ 22 rfl B 5 i0 (.int .u8 0) 1 1 Tryd.underlying22 hi hz0 hz1 hz2 rfl (by decide) _ _ _ rfl ((unhide HO4).alloc _) ⟨w4.heap.size, 0, none⟩ 1 1 [.int .u8 120] rfl rfl (cell_one_new _ _ _) (by simp [Value.oneCell']) (by unfold maxLen; omega) (by omega) (by have := (unhide HS4); simp; omega) ?_)
                intro v5 w5 hown hgrow _
                obtain ⟨acc5, he5⟩ : ∃ a, a = acc4 ++ [120] := ⟨_, rfl⟩
                have hl5 : acc5.length ≤ acc4.length + 1 := by rw [he5]; simp
                have HO5 : Hid (w5.ownsRow B 5 1 v5 acc5.length (acc5.map (Value.int .u8))) := hide (by rw [he5]; exact row_byte hown)
                have HB5 := hide (below_appB (unhide HB4) (unhide HO4) hgrow (unhide HS4))
                have HK5 := hide (kept_app (unhide HK4) (unhide HO4) hgrow)
                have HS5 : Hid (B ≤ w5.heap.size) := hide (Nat.le_trans hBw (unhide HB5).size)
                have HE5 := hide he5
                clear hown hgrow he5
                have CA7 := hide (appInt B v5 acc5 ((k - i : Nat) : Int) w5 (unhide HO5) (unhide HS5) (by omega) (by omega) (by omega) ((unhide HT).on (unhide HB5)))
                go_wp2_with fail
                rw [unhide HKI]
                refine (unhide CA7).mono ?_
                rintro e w7 ⟨v7, rfl, hown, hb, hk⟩
                obtain ⟨acc7, he7⟩ : ∃ a, a = acc5 ++ itoaZ ((k - i : Nat) : Int) := ⟨_, rfl⟩
                have hl7 : acc7.length ≤ acc5.length + 21 := by rw [he7, List.length_append]; omega
                have HO7 : Hid (w7.ownsRow B 5 1 v7 acc7.length (acc7.map (Value.int .u8))) := hide (by rw [he7]; exact hown)
                have HB7 := hide ((unhide HB5).trans hb)
                have HK7 := hide ((unhide HK5).trans hk)
                have HS7 : Hid (B ≤ w7.heap.size) := hide (Nat.le_trans hBw (unhide HB7).size)
                have HE7 := hide he7
                clear hown hb hk he7 CA7
                have HF : Hid (acc7 ++ pkRest L k = T0 ++ pkRuns L) := hide (by rw [unhide HE7, unhide HE5, unhide HE4, unhide HE2, unhide HXi, ← piece_11 hp0 hq0 acc]; exact (unhide HPs) i k (unhide HRT) acc (unhide HP))
                go_wp2
                go_roundw
                case rel => exact ⟨k, acc7, _, rfl, hkn, rfl, by omega, HO7, HF, HB7, HK7⟩
                case measure => simp [intOf]; omega
              · have hq1 : (k : Int) ≤ (i : Int) + 1 := by omega
                go_wp2_with (at_builtin; refine wpList_append_own _ rfl _ _ 22 rfl B 5 i0 (.int .u8 0) 1 1 Tryd.underlying22 hi hz0 hz1 hz2 rfl (by decide) _ _ _ rfl ((unhide HO1 _).alloc _) ⟨wr.heap.size, 0, none⟩ 1 1 [.int .u8 44] rfl rfl (cell_one_new _ _ _) (by simp [Value.oneCell']) (by unfold maxLen; omega) (by omega) (by have := unhide HSz; simp; omega) ?_)
                intro v2 w2 hown hgrow _
                obtain ⟨acc2, he2⟩ : ∃ a, a = acc ++ [44] := ⟨_, rfl⟩
                have hl2 : acc2.length ≤ acc.length + 1 := by rw [he2]; simp
                have HO2 : Hid (w2.ownsRow B 5 1 v2 acc2.length (acc2.map (Value.int .u8))) := hide (by rw [he2]; exact row_byte hown)
                have HB2 := hide (below_appB (unhide HB1 _) (unhide HO1 _) hgrow (unhide HSz))
                have HK2 := hide (kept_app (unhide HK1 _) (unhide HO1 _) hgrow)
                have HS2 : Hid (B ≤ w2.heap.size) := hide (Nat.le_trans hBw (unhide HB2).size)
                have HE2 := hide he2
                clear hown hgrow he2
                have d2 := ((unhide HB2).cell (p := ⟨b, off + i, none⟩) hb).trans (unhide HCi)
                have CA4 := hide (appInt B v2 acc2 x w2 (unhide HO2) (unhide HS2) (by omega) (by omega) (by omega) ((unhide HT).on (unhide HB2)))
                go_wp2_with fail
                refine (unhide CA4).mono ?_
                rintro e w4 ⟨v4, rfl, hown, hb, hk⟩
                obtain ⟨acc4, he4⟩ : ∃ a, a = acc2 ++ itoaZ x := ⟨_, rfl⟩
                have hl4 : acc4.length ≤ acc2.length + 21 := by rw [he4, List.length_append]; omega
                have HO4 : Hid (w4.ownsRow B 5 1 v4 acc4.length (acc4.map (Value.int .u8))) := hide (by rw [he4]; exact hown)
                have HB4 := hide ((unhide HB2).trans hb)
                have HK4 := hide ((unhide HK2).trans hk)
                have HS4 : Hid (B ≤ w4.heap.size) := hide (Nat.le_trans hBw (unhide HB4).size)
                have HE4 := hide he4
                clear hown hb hk he4 CA4
                clear d2
                have HF : Hid (acc4 ++ pkRest L k = T0 ++ pkRuns L) := hide (by rw [unhide HE4, unhide HE2, unhide HXi, ← piece_10 hp0 hq0 acc]; exact (unhide HPs) i k (unhide HRT) acc (unhide HP))
                go_wp2
                go_roundw
                case rel => exact ⟨k, acc4, _, rfl, hkn, rfl, by omega, HO4, HF, HB4, HK4⟩
                case measure => simp [intOf]; omega
            · have hp1 : (i : Int) ≤ 0 := by omega
              by_cases hq0 : 1 < k - i
              · have hq1 : (i : Int) + 1 < (k : Int) := by omega
                have CA4 := hide (fun m' => appInt B sv acc x (wr.drewN m') (unhide HO1 m') (unhide HSz) (by omega) (by omega) (by omega) ((unhide HT).on (unhide HB1 m')))
                go_wp2_with fail
                refine ((unhide CA4) _).mono ?_
                rintro e w4 ⟨v4, rfl, hown, hb4, hk4⟩
                obtain ⟨acc4, he4⟩ : ∃ a, a = acc ++ itoaZ x := ⟨_, rfl⟩
                have hl4 : acc4.length ≤ acc.length + 21 := by rw [he4, List.length_append]; omega
                have HO4 : Hid (w4.ownsRow B 5 1 v4 acc4.length (acc4.map (Value.int .u8))) := hide (by rw [he4]; exact hown)
                have HB4 := hide ((unhide HB1 _).trans hb4)
                have HK4 := hide ((unhide HK1 _).trans hk4)
                have HS4 : Hid (B ≤ w4.heap.size) := hide (Nat.le_trans hBw (unhide HB4).size)
                have HE4 := hide he4
                clear hown hb4 hk4 he4 CA4
                go_wp2_with (at_builtin; refine wpList_append_own _ rfl _ _ 22 rfl B 5 i0 (.int .u8 0) 1 1 Tryd.underlying22 hi hz0 hz1 hz2 rfl (by decide) _ _ _ rfl ((unhide HO4).alloc _) ⟨w4.heap.size, 0, none⟩ 1 1 [.int .u8 120] rfl rfl (cell_one_new _ _ _) (by simp [Value.oneCell']) (by unfold maxLen; omega) (by omega) (by have := (unhide HS4); simp; omega) ?_)
                intro v5 w5 hown hgrow _
                obtain ⟨acc5, he5⟩ : ∃ a, a = acc4 ++ [120] := ⟨_, rfl⟩
                have hl5 : acc5.length ≤ acc4.length + 1 := by rw [he5]; simp
                have HO5 : Hid (w5.ownsRow B 5 1 v5 acc5.length (acc5.map (Value.int .u8))) := hide (by rw [he5]; exact row_byte hown)
                have HB5 := hide (below_appB (unhide HB4) (unhide HO4) hgrow (unhide HS4))
                have HK5 := hide (kept_app (unhide HK4) (unhide HO4) hgrow)
                have HS5 : Hid (B ≤ w5.heap.size) := hide (Nat.le_trans hBw (unhide HB5).size)
                have HE5 := hide he5
                clear hown hgrow he5
                have CA7 := hide (appInt B v5 acc5 ((k - i : Nat) : Int) w5 (unhide HO5) (unhide HS5) (by omega) (by omega) (by omega) ((unhide HT).on (unhide HB5)))
                go_wp2_with fail
                rw [unhide HKI]
                refine (unhide CA7).mono ?_
                rintro e w7 ⟨v7, rfl, hown, hb, hk⟩
                obtain ⟨acc7, he7⟩ : ∃ a, a = acc5 ++ itoaZ ((k - i : Nat) : Int) := ⟨_, rfl⟩
                have hl7 : acc7.length ≤ acc5.length + 21 := by rw [he7, List.length_append]; omega
                have HO7 : Hid (w7.ownsRow B 5 1 v7 acc7.length (acc7.map (Value.int .u8))) := hide (by rw [he7]; exact hown)
                have HB7 := hide ((unhide HB5).trans hb)
                have HK7 := hide ((unhide HK5).trans hk)
                have HS7 : Hid (B ≤ w7.heap.size) := hide (Nat.le_trans hBw (unhide HB7).size)
                have HE7 := hide he7
                clear hown hb hk he7 CA7
                have HF : Hid (acc7 ++ pkRest L k = T0 ++ pkRuns L) := hide (by rw [unhide HE7, unhide HE5, unhide HE4, unhide HXi, ← piece_01 hp0 hq0 acc]; exact (unhide HPs) i k (unhide HRT) acc (unhide HP))
                go_wp2
                go_roundw
                case rel => exact ⟨k, acc7, _, rfl, hkn, rfl, by omega, HO7, HF, HB7, HK7⟩
                case measure => simp [intOf]; omega
              · have hq1 : (k : Int) ≤ (i : Int) + 1 := by omega
                have CA4 := hide (fun m' => appInt B sv acc x (wr.drewN m') (unhide HO1 m') (unhide HSz) (by omega) (by omega) (by omega) ((unhide HT).on (unhide HB1 m')))
                go_wp2_with fail
                refine ((unhide CA4) _).mono ?_
                rintro e w4 ⟨v4, rfl, hown, hb4, hk4⟩
                obtain ⟨acc4, he4⟩ : ∃ a, a = acc ++ itoaZ x := ⟨_, rfl⟩
                have hl4 : acc4.length ≤ acc.length + 21 := by rw [he4, List.length_append]; omega
                have HO4 : Hid (w4.ownsRow B 5 1 v4 acc4.length (acc4.map (Value.int .u8))) := hide (by rw [he4]; exact hown)
                have HB4 := hide ((unhide HB1 _).trans hb4)
                have HK4 := hide ((unhide HK1 _).trans hk4)
                have HS4 : Hid (B ≤ w4.heap.size) := hide (Nat.le_trans hBw (unhide HB4).size)
                have HE4 := hide he4
                clear hown hb4 hk4 he4 CA4
                have HF : Hid (acc4 ++ pkRest L k = T0 ++ pkRuns L) := hide (by rw [unhide HE4, unhide HXi, ← piece_00 hp0 hq0 acc]; exact (unhide HPs) i k (unhide HRT) acc (unhide HP))
                go_wp2
                go_roundw
                case rel => exact ⟨k, acc4, _, rfl, hkn, rfl, by omega, HO4, HF, HB4, HK4⟩
                case measure => simp [intOf]; omega
        · have hkn2 : k = n := by omega
          have hkl' : ¬ (k : Int) < (n : Int) := by omega
          have he : True := trivial
          have HRT := hide (unhide HRt i k hik hkn (unhide HR) (.inl hkn2))
          have hki : (k : Int) - (i : Int) = ((k - i : Nat) : Int) := by omega
          have hle := itoaZ_len ((k - i : Nat) : Int) (by omega) (by omega)
          have HO1 : Hid (∀ m', (wr.drewN m').ownsRow B 5 1 sv acc.length (acc.map (Value.int .u8))) := hide (fun _ => unhide HO)
          have HB1 : Hid (∀ m', Below B w (wr.drewN m')) := hide (fun m' => bdrew (unhide HB) m')
          have HK1 : Hid (∀ m', Lib.OthersKept 5 none w (wr.drewN m')) := hide (fun _ => unhide HK)
          have HSz : Hid (B ≤ wr.heap.size) := hide (Nat.le_trans hBw (unhide HB).size)
          have HKI := hide hki
          clear HR he hki hkn2
          obtain ⟨x, hxx⟩ : ∃ x, x = nth L i := ⟨_, rfl⟩
          rw [← hxx] at di hxi HCi
          have HXi := hide hxx
          have hlx := itoaZ_len x hxi.1 hxi.2
          clear hxx
          go_wp2_with fail
          go_quiet (fail)
          by_cases hp0 : 0 < i
          · have hp1 : (0 : Int) < (i : Int) := by omega
            by_cases hq0 : 1 < k - i
            · have hq1 : (i : Int) + 1 < (k : Int) := by omega
              go_wp2_with (at_builtin; refine wpList_append_own _ rfl _ _ 22 rfl B 5 i0 (.int .u8 0) 1 1 Tryd.underlying22 hi hz0 hz1 hz2 rfl (by decide) _ _ _ rfl ((unhide HO1 _).alloc _) ⟨wr.heap.size, 0, none⟩ 1 1 [.int .u8 44] rfl rfl (cell_one_new _ _ _) (by simp [Value.oneCell']) (by unfold maxLen; omega) (by omega) (by have := unhide HSz; simp; omega) ?_)
              intro v2 w2 hown hgrow _
              obtain ⟨acc2, he2⟩ : ∃ a, a = acc ++ [44] := ⟨_, rfl⟩
              have hl2 : acc2.length ≤ acc.length + 1 := by rw [he2]; simp
              have HO2 : Hid (w2.ownsRow B 5 1 v2 acc2.length (acc2.map (Value.int .u8))) := hide (by rw [he2]; exact row_byte hown)
              have HB2 := hide (below_appB (unhide HB1 _) (unhide HO1 _) hgrow (unhide HSz))
              have HK2 := hide (kept_app (unhide HK1 _) (unhide HO1 _) hgrow)
              have HS2 : Hid (B ≤ w2.heap.size) := hide (Nat.le_trans hBw (unhide HB2).size)
              have HE2 := hide he2
              clear hown hgrow he2
              have d2 := ((unhide HB2).cell (p := ⟨b, off + i, none⟩) hb).trans (unhide HCi)
              have CA4 := hide (appInt B v2 acc2 x w2 (unhide HO2) (unhide HS2) (by omega) (by omega) (by omega) ((unhide HT).on (unhide HB2)))
              go_wp2_with fail
              refine (unhide CA4).mono ?_
              rintro e w4 ⟨v4, rfl, hown, hb, hk⟩
              obtain ⟨acc4, he4⟩ : ∃ a, a = acc2 ++ itoaZ x := ⟨_, rfl⟩
              have hl4 : acc4.length ≤ acc2.length + 21 := by rw [he4, List.length_append]; omega
              have HO4 : Hid (w4.ownsRow B 5 1 v4 acc4.length (acc4.map (Value.int .u8))) := hide (by rw [he4]; exact hown)
              have HB4 := hide ((unhide HB2).trans hb)
              have HK4 := hide ((unhide HK2).trans hk)
              have HS4 : Hid (B ≤ w4.heap.size) := hide (Nat.le_trans hBw (unhide HB4).size)
              have HE4 := hide he4
              clear hown hb hk he4 CA4
              clear d2
              go_wp2_with (at_builtin; refine wpList_append_own _ rfl _ _ 22 rfl B 5 i0 (.int .u8 0) 1 1 Tryd.underlying22 hi hz0 hz1 hz2 rfl (by decide) _ _ _ rfl ((unhide HO4).alloc _) ⟨w4.heap.size, 0, none⟩ 1 1 [.int .u8 120] rfl rfl (cell_one_new _ _ _) (by simp [Value.oneCell']) (by unfold maxLen; omega) (by omega) (by have := (unhide HS4); simp; omega) ?_)
              intro v5 w5 hown hgrow _
              obtain ⟨acc5, he5⟩ : ∃ a, a = acc4 ++ [120] := ⟨_, rfl⟩
              have hl5 : acc5.length ≤ acc4.length + 1 := by rw [he5]; simp
              have HO5 : Hid (w5.ownsRow B 5 1 v5 acc5.length (acc5.map (Value.int .u8))) := hide (by rw [he5]; exact row_byte hown)
              have HB5 := hide (below_appB (unhide HB4) (unhide HO4) hgrow (unhide HS4))
              have HK5 := hide (kept_app (unhide HK4) (unhide HO4) hgrow)
              have HS5 : Hid (B ≤ w5.heap.size) := hide (Nat.le_trans hBw (unhide HB5).size)
              have HE5 := hide he5
              clear hown hgrow he5
              have CA7 := hide (appInt B v5 acc5 ((k - i : Nat) : Int) w5 (unhide HO5) (unhide HS5) (by omega) (by omega) (by omega) ((unhide HT).on (unhide HB5)))
              go_wp2_with fail
              rw [unhide HKI]
              refine (unhide CA7).mono ?_
              rintro e w7 ⟨v7, rfl, hown, hb, hk⟩
              obtain ⟨acc7, he7⟩ : ∃ a, a = acc5 ++ itoaZ ((k - i : Nat) : Int) := ⟨_, rfl⟩
              have hl7 : acc7.length ≤ acc5.length + 21 := by rw [he7, List.length_append]; omega
              have HO7 : Hid (w7.ownsRow B 5 1 v7 acc7.length (acc7.map (Value.int .u8))) := hide (by rw [he7]; exact hown)
              have HB7 := hide ((unhide HB5).trans hb)
              have HK7 := hide ((unhide HK5).trans hk)
              have HS7 : Hid (B ≤ w7.heap.size) := hide (Nat.le_trans hBw (unhide HB7).size)
              have HE7 := hide he7
              clear hown hb hk he7 CA7
              have HF : Hid (acc7 ++ pkRest L k = T0 ++ pkRuns L) := hide (by rw [unhide HE7, unhide HE5, unhide HE4, unhide HE2, unhide HXi, ← piece_11 hp0 hq0 acc]; exact (unhide HPs) i k (unhide HRT) acc (unhide HP))
              go_wp2
              go_roundw
              case rel => exact ⟨k, acc7, _, rfl, hkn, rfl, by omega, HO7, HF, HB7, HK7⟩
              case measure => simp [intOf]; omega
            · have hq1 : (k : Int) ≤ (i : Int) + 1 := by omega
              go_wp2_with (at_builtin; refine wpList_append_own _ rfl _ _ 22 rfl B 5 i0 (.int .u8 0) 1 1 Tryd.underlying22 hi hz0 hz1 hz2 rfl (by decide) _ _ _ rfl ((unhide HO1 _).alloc _) ⟨wr.heap.size, 0, none⟩ 1 1 [.int .u8 44] rfl rfl (cell_one_new _ _ _) (by simp [Value.oneCell']) (by unfold maxLen; omega) (by omega) (by have := unhide HSz; simp; omega) ?_)
              intro v2 w2 hown hgrow _
              obtain ⟨acc2, he2⟩ : ∃ a, a = acc ++ [44] := ⟨_, rfl⟩
              have hl2 : acc2.length ≤ acc.length + 1 := by rw [he2]; simp
              have HO2 : Hid (w2.ownsRow B 5 1 v2 acc2.length (acc2.map (Value.int .u8))) := hide (by rw [he2]; exact row_byte hown)
              have HB2 := hide (below_appB (unhide HB1 _) (unhide HO1 _) hgrow (unhide HSz))
              have HK2 := hide (kept_app (unhide HK1 _) (unhide HO1 _) hgrow)
              have HS2 : Hid (B ≤ w2.heap.size) := hide (Nat.le_trans hBw (unhide HB2).size)
              have HE2 := hide he2
              clear hown hgrow he2
              have d2 := ((unhide HB2).cell (p := ⟨b, off + i, none⟩) hb).trans (unhide HCi)
              have CA4 := hide (appInt B v2 acc2 x w2 (unhide HO2) (unhide HS2) (by omega) (by omega) (by omega) ((unhide HT).on (unhide HB2)))
              go_wp2_with fail
              refine (unhide CA4).mono ?_
              rintro e w4 ⟨v4, rfl, hown, hb, hk⟩
              obtain ⟨acc4, he4⟩ : ∃ a, a = acc2 ++ itoaZ x := ⟨_, rfl⟩
              have hl4 : acc4.length ≤ acc2.length + 21 := by rw [he4, List.length_append]; omega
              have HO4 : Hid (w4.ownsRow B 5 1 v4 acc4.length (acc4.map (Value.int .u8))) := hide (by rw [he4]; exact hown)
              have HB4 := hide ((unhide HB2).trans hb)
              have HK4 := hide ((unhide HK2).trans hk)
              have HS4 : Hid (B ≤ w4.heap.size) := hide (Nat.le_trans hBw (unhide HB4).size)
              have HE4 := hide he4
              clear hown hb hk he4 CA4
              clear d2
              have HF : Hid (acc4 ++ pkRest L k = T0 ++ pkRuns L) := hide (by rw [unhide HE4, unhide HE2, unhide HXi, ← piece_10 hp0 hq0 acc]; exact (unhide HPs) i k (unhide HRT) acc (unhide HP))
              go_wp2
              go_roundw
              case rel => exact ⟨k, acc4, _, rfl, hkn, rfl, by omega, HO4, HF, HB4, HK4⟩
              case measure => simp [intOf]; omega
          · have hp1 : (i : Int) ≤ 0 := by omega
            by_cases hq0 : 1 < k - i
            · have hq1 : (i : Int) + 1 < (k : Int) := by omega
              have CA4 := hide (fun m' => appInt B sv acc x (wr.drewN m') (unhide HO1 m') (unhide HSz) (by omega) (by omega) (by omega) ((unhide HT).on (unhide HB1 m')))
              go_wp2_with fail
              refine ((unhide CA4) _).mono ?_
              rintro e w4 ⟨v4, rfl, hown, hb4, hk4⟩
              obtain ⟨acc4, he4⟩ : ∃ a, a = acc ++ itoaZ x := ⟨_, rfl⟩
              have hl4 : acc4.length ≤ acc.length + 21 := by rw [he4, List.length_append]; omega
              have HO4 : Hid (w4.ownsRow B 5 1 v4 acc4.length (acc4.map (Value.int .u8))) := hide (by rw [he4]; exact hown)
              have HB4 := hide ((unhide HB1 _).trans hb4)
              have HK4 := hide ((unhide HK1 _).trans hk4)
              have HS4 : Hid (B ≤ w4.heap.size) := hide (Nat.le_trans hBw (unhide HB4).size)
              have HE4 := hide he4
              clear hown hb4 hk4 he4 CA4
              go_wp2_with (at_builtin; refine wpList_append_own _ rfl _ _ 22 rfl B 5 i0 (.int .u8 0) 1 1 Tryd.underlying22 hi hz0 hz1 hz2 rfl (by decide) _ _ _ rfl ((unhide HO4).alloc _) ⟨w4.heap.size, 0, none⟩ 1 1 [.int .u8 120] rfl rfl (cell_one_new _ _ _) (by simp [Value.oneCell']) (by unfold maxLen; omega) (by omega) (by have := (unhide HS4); simp; omega) ?_)
              intro v5 w5 hown hgrow _
              obtain ⟨acc5, he5⟩ : ∃ a, a = acc4 ++ [120] := ⟨_, rfl⟩
              have hl5 : acc5.length ≤ acc4.length + 1 := by rw [he5]; simp
              have HO5 : Hid (w5.ownsRow B 5 1 v5 acc5.length (acc5.map (Value.int .u8))) := hide (by rw [he5]; exact row_byte hown)
              have HB5 := hide (below_appB (unhide HB4) (unhide HO4) hgrow (unhide HS4))
              have HK5 := hide (kept_app (unhide HK4) (unhide HO4) hgrow)
              have HS5 : Hid (B ≤ w5.heap.size) := hide (Nat.le_trans hBw (unhide HB5).size)
              have HE5 := hide he5
              clear hown hgrow he5
              have CA7 := hide (appInt B v5 acc5 ((k - i : Nat) : Int) w5 (unhide HO5) (unhide HS5) (by omega) (by omega) (by omega) ((unhide HT).on (unhide HB5)))
              go_wp2_with fail
              rw [unhide HKI]
              refine (unhide CA7).mono ?_
              rintro e w7 ⟨v7, rfl, hown, hb, hk⟩
              obtain ⟨acc7, he7⟩ : ∃ a, a = acc5 ++ itoaZ ((k - i : Nat) : Int) := ⟨_, rfl⟩
              have hl7 : acc7.length ≤ acc5.length + 21 := by rw [he7, List.length_append]; omega
              have HO7 : Hid (w7.ownsRow B 5 1 v7 acc7.length (acc7.map (Value.int .u8))) := hide (by rw [he7]; exact hown)
              have HB7 := hide ((unhide HB5).trans hb)
              have HK7 := hide ((unhide HK5).trans hk)
              have HS7 : Hid (B ≤ w7.heap.size) := hide (Nat.le_trans hBw (unhide HB7).size)
              have HE7 := hide he7
              clear hown hb hk he7 CA7
              have HF : Hid (acc7 ++ pkRest L k = T0 ++ pkRuns L) := hide (by rw [unhide HE7, unhide HE5, unhide HE4, unhide HXi, ← piece_01 hp0 hq0 acc]; exact (unhide HPs) i k (unhide HRT) acc (unhide HP))
              go_wp2
              go_roundw
              case rel => exact ⟨k, acc7, _, rfl, hkn, rfl, by omega, HO7, HF, HB7, HK7⟩
              case measure => simp [intOf]; omega
            · have hq1 : (k : Int) ≤ (i : Int) + 1 := by omega
              have CA4 := hide (fun m' => appInt B sv acc x (wr.drewN m') (unhide HO1 m') (unhide HSz) (by omega) (by omega) (by omega) ((unhide HT).on (unhide HB1 m')))
              go_wp2_with fail
              refine ((unhide CA4) _).mono ?_
              rintro e w4 ⟨v4, rfl, hown, hb4, hk4⟩
              obtain ⟨acc4, he4⟩ : ∃ a, a = acc ++ itoaZ x := ⟨_, rfl⟩
              have hl4 : acc4.length ≤ acc.length + 21 := by rw [he4, List.length_append]; omega
              have HO4 : Hid (w4.ownsRow B 5 1 v4 acc4.length (acc4.map (Value.int .u8))) := hide (by rw [he4]; exact hown)
              have HB4 := hide ((unhide HB1 _).trans hb4)
              have HK4 := hide ((unhide HK1 _).trans hk4)
              have HS4 : Hid (B ≤ w4.heap.size) := hide (Nat.le_trans hBw (unhide HB4).size)
              have HE4 := hide he4
              clear hown hb4 hk4 he4 CA4
              have HF : Hid (acc4 ++ pkRest L k = T0 ++ pkRuns L) := hide (by rw [unhide HE4, unhide HXi, ← piece_00 hp0 hq0 acc]; exact (unhide HPs) i k (unhide HRT) acc (unhide HP))
              go_wp2
              go_roundw
              case rel => exact ⟨k, acc4, _, rfl, hkn, rfl, by omega, HO4, HF, HB4, HK4⟩
              case measure => simp [intOf]; omega
    · obtain rfl : i = n := by omega
      have hge : ¬ (i : Int) < (i : Int) := by omega
      have HF : Hid (acc = T0 ++ pkRuns L) := hide (by
        have h1 := unhide HP
        rwa [unhide HPe i (Nat.le_refl _), List.append_nil] at h1)
      clear HPs HRt HX
      go_wp2
      go_ret
      exact ⟨_, rfl, by have h1 := unhide HO; rw [unhide HF, List.length_append, List.map_append] at h1; simpa using h1, unhide HB, unhide HK⟩
end Go.Proofs.YtjncfkcpjjnmdaaDoor
