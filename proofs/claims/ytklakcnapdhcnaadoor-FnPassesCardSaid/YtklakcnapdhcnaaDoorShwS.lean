/- ShowPasses of the specification. -/
import Derived.Test.YtklakcnapdhcnaaDoorShwK
import Derived.Test.YtklakcnapdhcnaaDoorPasS
import Derived.Laws.Concat
namespace Go.Proofs.YtklakcnapdhcnaaDoor.Pas
open Go.RowKit
set_option linter.unusedVariables false
set_option linter.unusedSimpArgs false
theorem str_plus (A B : List Int) : strOfNums A ++ strOfNums B = strOfNums (A ++ B) := by
  unfold strOfNums
  apply ByteArray.ext
  simp [ByteArray.data_append]
theorem str_add (A B : List Int) (h : A.length + B.length ≤ 100000000) (W : World) : (Op.stringOp .add (strOfNums A) (strOfNums B)).run Tryd.prog W = .ok (.string (strOfNums (A ++ B))) W := by
  rw [run_string_add_sum W _ _ (by rw [strOfNums_size, strOfNums_size]; omega), str_plus]
def Sgs : ByteArray := ⟨#[91, 93, 62, 124, 58, 32, 92]⟩
theorem sgs_is (b : Nat) : (∃ j, j < 7 ∧ bt Sgs j = b) ↔ sgnB b = true := by
  have h0 : bt Sgs 0 = 91 := by kernel_rfl
  have h1 : bt Sgs 1 = 93 := by kernel_rfl
  have h2 : bt Sgs 2 = 62 := by kernel_rfl
  have h3 : bt Sgs 3 = 124 := by kernel_rfl
  have h4 : bt Sgs 4 = 58 := by kernel_rfl
  have h5 : bt Sgs 5 = 32 := by kernel_rfl
  have h6 : bt Sgs 6 = 92 := by kernel_rfl
  unfold sgnB
  simp only [Bool.or_eq_true, beq_iff_eq]
  constructor
  · rintro ⟨j, hj, rfl⟩
    have : j = 0 ∨ j = 1 ∨ j = 2 ∨ j = 3 ∨ j = 4 ∨ j = 5 ∨ j = 6 := by omega
    rcases this with rfl | rfl | rfl | rfl | rfl | rfl | rfl <;> omega
  · intro h
    rcases h with h | h | h | h | h | h | h
    · exact ⟨0, by omega, by omega⟩
    · exact ⟨1, by omega, by omega⟩
    · exact ⟨2, by omega, by omega⟩
    · exact ⟨3, by omega, by omega⟩
    · exact ⟨4, by omega, by omega⟩
    · exact ⟨5, by omega, by omega⟩
    · exact ⟨6, by omega, by omega⟩
set_option maxRecDepth 100000 in
set_option maxHeartbeats 2000000 in
theorem in_any7 (s : ByteArray) (b : Nat) (w : World) (hs : s.size = 7) (K : Bool) (hK : (∃ j, j < 7 ∧ bt s j = b) ↔ K = true) : Calls Tryd.prog 33 #[.int .i64 (b : Int), .string s] w fun e w' => e = .returned (.bool K) ∧ w' = w := by
  have hsl : s.size ≤ 7 := by omega
  have hsg : 7 ≤ s.size := by omega
  have HK := hide hK
  clear hK hs
  go_enter Tryd.func33, Tryd.ntmps33
  go_wp2
  go_loopw [5] (fun iv wr => ∃ k : Nat, k ≤ s.size ∧ iv = .int .i64 k ∧ Hid (∀ j, j < k → bt s j ≠ b) ∧ wr = w) (fun iv _ => s.size - (intOf iv).toNat)
  case atStart => exact ⟨0, Nat.zero_le _, rfl, hide (fun j hj => by omega), rfl⟩
  case round =>
    obtain ⟨k, hk, rfl, HJ, rfl⟩ := hrel
    by_cases hlt : k < s.size
    · have hlt' : (k : Int) < (s.size : Int) := by omega
      have h0k : (0 : Int) ≤ (k : Int) := by omega
      have f1 : ∀ h, (s[k]'h).toNat = bt s k := fun h => bt_get s k h
      have hbb := bt_lt s k
      have hwp : wrap64 ((bt s k : Nat) : Int) = ((bt s k : Nat) : Int) := by unfold wrap64; omega
      by_cases he : bt s k = b
      · have HT : Hid (K = true) := hide ((unhide HK).1 ⟨k, by omega, he⟩)
        have he' : ((b : Int) == ((bt s k : Nat) : Int)) = true := by rw [he]; exact beq_self_eq_true _
        clear he HK HJ
        generalize bt s k = c at *
        go_wp2
        go_ret
        exact ⟨by rw [unhide HT]; rfl, rfl⟩
      · have HJ2 : Hid (∀ j, j < k + 1 → bt s j ≠ b) := hide (fun j hj => by
          by_cases e : j = k
          · rw [e]; exact he
          · exact (unhide HJ) j (by omega))
        have he' : ((b : Int) == ((bt s k : Nat) : Int)) = false := by rw [beq_eq_false_iff_ne]; omega
        clear he HJ
        generalize bt s k = c at *
        go_wp2
        go_roundw
        case rel => exact ⟨k + 1, by omega, by go_num, HJ2, trivial⟩
        case measure => simp [intOf]; omega
    · obtain rfl : k = s.size := by omega
      have HT : Hid (K = false) := hide (by
        cases hh : K with
        | false => rfl
        | true =>
          obtain ⟨j, hj, e⟩ := (unhide HK).2 hh
          exact absurd e ((unhide HJ) j (by omega)))
      go_wp2
      go_ret
      exact ⟨by rw [unhide HT]; rfl, rfl⟩
theorem in_sgs (b : Nat) (w : World) : Calls Tryd.prog 33 #[.int .i64 (b : Int), .string ⟨#[91, 93, 62, 124, 58, 32, 92]⟩] w fun e w' => e = .returned (.bool (sgnB b)) ∧ w' = w := in_any7 Sgs b w rfl (sgnB b) (sgs_is b)
set_option maxRecDepth 100000 in
set_option maxHeartbeats 8000000 in
theorem show_any (t : ByteArray) (w : World) (ht : t.size ≤ 1048576) :
    Calls Tryd.prog 16 #[.string t] w fun e w' => e = .returned (.string (strOfNums (shw t))) ∧ Below w.heap.size w w' := by
  obtain ⟨i0, hi, hz0, hz1, hz2⟩ := info_parts infoB
  have O0 : Hid (By w.heap.size (w.alloc (.cells #[] 5)) (.slice (some ⟨w.heap.size, 0, none⟩) 0 0) (shk t 0)) := hide (World.ownsRow_lit w #[] 0 (Nat.le_refl _) (by unfold maxLen; omega) rfl)
  have B0 := hide (al1 w (.cells #[] 5))
  have HL := hide (fun k => shk_len t k)
  have HSW : Hid (shw t = shk t t.size) := hide rfl
  generalize shw t = SW at *
  go_enter Tryd.func16, Tryd.ntmps16
  go_wp2
  go_loopw [3, 4] (fun lv iv wr => ∃ k : Nat, k ≤ t.size ∧ iv = .int .i64 k ∧ Hid (By w.heap.size wr lv (shk t k)) ∧ Hid (Below w.heap.size w wr)) (fun _ iv _ => t.size - (intOf iv).toNat)
  case atStart => exact ⟨0, Nat.zero_le _, rfl, O0, B0⟩
  case round =>
    obtain ⟨k, hk, rfl, HO, HB⟩ := hrel
    clear O0 B0
    by_cases hlt : k < t.size
    · have hlt' : (k : Int) < (t.size : Int) := by omega
      have h0k : (0 : Int) ≤ (k : Int) := by omega
      have hlw := (unhide HB).size
      have f1 : ∀ h, (t[k]'h).toNat = bt t k := fun h => bt_get t k h
      have hbb : bt t k < 256 := bt_lt t k
      have hwp : wrap64 ((bt t k : Nat) : Int) = ((bt t k : Nat) : Int) := by unfold wrap64; omega
      have hX : (shk t k).length ≤ 5000000 := by have := (unhide HL) k; omega
      have HE1 := hide (fun h => esc_nl (b := bt t k) h)
      have HE2 := hide (fun h h2 => esc_sg (b := bt t k) h h2)
      have HE3 := hide (fun h h2 => esc_no (b := bt t k) h h2)
      have CS := hide (fun W => in_sgs (bt t k) W)
      have HA : Hid (shk t (k + 1) = shk t k ++ esc (bt t k)) := hide rfl
      generalize shk t k = X at *
      generalize bt t k = b at *
      clear HL
      by_cases h10 : b = 10
      · have he := (unhide HE1) h10
        rw [he] at HA
        clear HE1 HE2 HE3 CS he
        have h10' : ((b : Int) == 10) = true := by rw [h10]; rfl
        go_wp2_with (at_builtin; refine wpList_appG _ rfl _ _ 22 rfl w.heap.size 5 i0 (.int .u8 0) 1 1 Tryd.underlying22 hi hz0 hz1 hz2 rfl (by decide) _ _ _ rfl (By.alloc (unhide HO) _) ⟨wr.heap.size, 0, none⟩ 2 2 [.int .u8 92, .int .u8 110] rfl rfl (two_newB _ _ _) (two_oneB _ _) ?c3 ?c4 ?c5 ?_)
        case c3 => unfold maxLen; omega
        case c4 => omega
        case c5 => simp; omega
        intro v' w2 hown' hgrow hnew
        have HO2 := hide (By.snoc (N := [92, 110]) hown' rfl)
        have HB2 := hide ((unhide HB).trans ((Kb.refl w.heap.size wr).app hlw (unhide HO) hgrow).bel)
        rw [← unhide HA] at HO2
        clear hown' hgrow hnew
        go_wp2
        go_roundw
        case rel => exact ⟨k + 1, by omega, by go_num, HO2, HB2⟩
        case measure => simp [intOf]; omega
      · have h10' : ((b : Int) == 10) = false := by rw [beq_eq_false_iff_ne]; omega
        cases hsg : sgnB b with
        | true =>
          have he := (unhide HE2) h10 hsg
          rw [he] at HA
          rw [hsg] at CS
          clear HE1 HE2 HE3 he hsg h10
          go_wp2_with (first
            | (go_at_call 33; refine ((unhide CS) _).mono ?_; rintro e w' ⟨rfl, hw⟩; obtain rfl := hw.symm; clear hw)
            | (at_builtin; refine wpList_appG _ rfl _ _ 22 rfl w.heap.size 5 i0 (.int .u8 0) 1 1 Tryd.underlying22 hi hz0 hz1 hz2 rfl (by decide) _ _ _ rfl (By.alloc (unhide HO) _) ⟨wr.heap.size, 0, none⟩ 1 1 [.int .u8 92] rfl rfl (one_new _ _) (one_oneB _) ?c3 ?c4 ?c5 ?_))
          case c3 => unfold maxLen; omega
          case c4 => omega
          case c5 => simp; omega
          intro v' w2 hown' hgrow hnew
          have HO2 := hide (By.snoc (N := [92]) hown' rfl)
          have HB2 := hide ((unhide HB).trans ((Kb.refl w.heap.size wr).app hlw (unhide HO) hgrow).bel)
          have hlw2 := (unhide HB2).size
          obtain ⟨X2, hX2⟩ : ∃ N, N = X ++ [92] := ⟨_, rfl⟩
          rw [← hX2] at HO2
          have hX2l : X2.length ≤ 5000001 := by rw [hX2, List.length_append]; simp; omega
          have HX2 := hide hX2
          clear hown' hgrow hnew hX2
          go_wp2_with (at_builtin; refine wpList_appG _ rfl _ _ 22 rfl w.heap.size 5 i0 (.int .u8 0) 1 1 Tryd.underlying22 hi hz0 hz1 hz2 rfl (by decide) _ _ _ rfl (By.alloc (unhide HO2) _) ⟨w2.heap.size, 0, none⟩ 1 1 [.int .u8 (b : Int)] rfl rfl (one_new _ _) (one_oneB _) ?c3 ?c4 ?c5 ?_)
          case c3 => unfold maxLen; omega
          case c4 => omega
          case c5 => simp; omega
          intro v'' w3 hown' hgrow hnew
          have HO3 := hide (By.snoc (N := [(b : Int)]) hown' rfl)
          have HB3 := hide ((unhide HB2).trans ((Kb.refl w.heap.size w2).app hlw2 (unhide HO2) hgrow).bel)
          have HF : Hid (shk t (k + 1) = X2 ++ [(b : Int)]) := hide (by rw [unhide HA, unhide HX2]; simp)
          rw [← unhide HF] at HO3
          clear hown' hgrow hnew
          go_wp2
          go_roundw
          case rel => exact ⟨k + 1, by omega, by go_num, HO3, HB3⟩
          case measure => simp [intOf]; omega
        | false =>
          have he := (unhide HE3) h10 hsg
          rw [he] at HA
          rw [hsg] at CS
          clear HE1 HE2 HE3 he hsg h10
          go_wp2_with (first
            | (go_at_call 33; refine ((unhide CS) _).mono ?_; rintro e w' ⟨rfl, hw⟩; obtain rfl := hw.symm; clear hw)
            | (at_builtin; refine wpList_appG _ rfl _ _ 22 rfl w.heap.size 5 i0 (.int .u8 0) 1 1 Tryd.underlying22 hi hz0 hz1 hz2 rfl (by decide) _ _ _ rfl (By.alloc (unhide HO) _) ⟨wr.heap.size, 0, none⟩ 1 1 [.int .u8 (b : Int)] rfl rfl (one_new _ _) (one_oneB _) ?c3 ?c4 ?c5 ?_))
          case c3 => unfold maxLen; omega
          case c4 => omega
          case c5 => simp; omega
          intro v' w2 hown' hgrow hnew
          have HO2 := hide (By.snoc (N := [(b : Int)]) hown' rfl)
          have HB2 := hide ((unhide HB).trans ((Kb.refl w.heap.size wr).app hlw (unhide HO) hgrow).bel)
          rw [← unhide HA] at HO2
          clear hown' hgrow hnew
          go_wp2
          go_roundw
          case rel => exact ⟨k + 1, by omega, by go_num, HO2, HB2⟩
          case measure => simp [intOf]; omega
    · obtain rfl : k = t.size := by omega
      have hcv := conv_owned wr w.heap.size _ _ _ (unhide HO)
      go_wp2
      go_ret
      exact ⟨by rw [unhide HSW]; rfl, unhide HB⟩
set_option maxRecDepth 100000 in
theorem word_any (m : Nat) (hm : m < 5) (w : World) : Calls Tryd.prog 15 #[.int .i64 (m : Int)] w fun e w' => e = .returned (.string (strOfNums (nam (m : Int)))) ∧ Below w.heap.size w w' := by
  rw [← nam_str m hm]
  have : m = 0 ∨ m = 1 ∨ m = 2 ∨ m = 3 ∨ m = 4 := by omega
  rcases this with rfl | rfl | rfl | rfl | rfl
  all_goals
    go_enter Tryd.func15, Tryd.ntmps15
    go_wp2
    go_ret
    exact ⟨rfl, al1 w _⟩
theorem small_any (M : List Int) (w : World) (h : M.length ≤ 65536) : Calls Tryd.prog 17 #[.string (strOfNums M)] w fun e w' => e = .returned (.string (strOfNums M)) ∧ w' = w := by
  have hz : (strOfNums M).size ≤ 65536 := by rw [strOfNums_size]; exact h
  have hz' : ¬ (65536 : Int) < ((strOfNums M).size : Int) := by omega
  clear hz h
  generalize strOfNums M = s at *
  go_enter Tryd.func17, Tryd.ntmps17
  go_wp2
  go_ret
  exact ⟨rfl, rfl⟩
end Go.Proofs.YtklakcnapdhcnaaDoor.Pas
