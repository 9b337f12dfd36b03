/- The place behind some lines of a leaf's text, as the program finds it. -/
import Derived.Test.YtaipnmmlfbfcnaaDoorRphP
import Derived.Test.YtaipnmmlfbfcnaaDoorRopI
namespace Go.Proofs.YtaipnmmlfbfcnaaDoor.Rop
open Go.RowKit
set_option linter.unusedVariables false
set_option maxRecDepth 100000 in
theorem indexI (t : ByteArray) (j : Nat) (w : World) (h : Lib.indexByte t.data.toList 10 = (j : Int)) (hz : 0 < t.size) : Calls Tryd.prog 55 #[.string t, .string ⟨#[10]⟩] w fun e w' => e = .returned (.int .i64 (j : Int)) ∧ w' = w := by
  have HE := hide h
  have C3 : Hid (∀ w, Calls Tryd.prog 75 #[.string t, .int .u8 10] w fun e w' => e = .returned (.int .i64 (j : Int)) ∧ w' = w) := hide (fun w => by
    go_enter Tryd.func75, Tryd.ntmps75
    go_wp2
    rw [run_callFunc_extern Tryd.func81 (by kernel_rfl) (by kernel_rfl) (by kernel_rfl) (e := Extern.BytealgIndexByte.indexByte) (by kernel_rfl), Lib.run_indexByteString]
    simp only [Result.andThen]
    rw [Oper.upon_value]
    go_wp2
    go_ret
    exact ⟨rfl, rfl⟩)
  have C2 : Hid (∀ w, Calls Tryd.prog 69 #[.string t, .string ⟨#[10]⟩] w fun e w' => e = .returned (.int .i64 (j : Int)) ∧ w' = w) := hide (fun w => by
    by_cases hq : ([10] == t.toList) = true
    · have hj : j = 0 := by
        have e := (beq_iff_eq.1 hq).symm
        rw [ByteArray.toList_eq] at e
        rw [e] at h
        have e2 : Lib.indexByte [10] 10 = 0 := idx_hit [] rfl
        omega
      subst hj
      clear C3 HE h
      go_enter Tryd.func69, Tryd.ntmps69
      go_wp2
      go_ret
      exact ⟨rfl, rfl⟩
    · have hq2 : ([10] == t.toList) = false := by simpa using hq
      clear hq h HE
      go_enter Tryd.func69, Tryd.ntmps69
      go_wp2_with (go_at_call 75; refine ((unhide C3) _).mono ?_; rintro e w' ⟨rfl, hw⟩; obtain rfl := hw.symm; clear hw)
      go_ret
      exact ⟨rfl, rfl⟩)
  clear h C3 HE
  go_enter Tryd.func55, Tryd.ntmps55
  go_wp2_with (go_at_call 69; refine ((unhide C2) _).mono ?_; rintro e w' ⟨rfl, hw⟩; obtain rfl := hw.symm; clear hw)
  go_ret
  exact ⟨rfl, rfl⟩
set_option maxRecDepth 100000 in
set_option maxHeartbeats 1000000 in
theorem behindI (s : ByteArray) (m : Nat) (w : World) (hm : m ≤ ends s) (hs : s.size ≤ 65536) : Calls Tryd.prog 36 #[.string s, .int .i64 (m : Int)] w fun e w' => e = .returned (.int .i64 (plB m s : Int)) ∧ w' = w := by
  have HX := hide (fun k (h : k < ends s) => plB_next h)
  have HL := hide (fun k => plB_le k s)
  have hms : m ≤ 65536 := Nat.le_trans hm (Nat.le_trans (ends_le s) hs)
  have CI := hide (fun t j W (h : Lib.indexByte t.data.toList 10 = ((j : Nat) : Int)) (hz : 0 < t.size) => indexI t j W h hz)
  go_enter Tryd.func36, Tryd.ntmps36
  go_wp2
  go_loopw [5, 7] (fun av iv wr => ∃ i a : Nat, i ≤ m ∧ a ≤ s.size ∧ av = .int .i64 (a : Int) ∧ iv = .int .i64 (i : Int) ∧ Hid (plB i s = a) ∧ wr = w) (fun _ iv _ => (m - intOf iv).toNat)
  case atStart => exact ⟨0, 0, by omega, by omega, rfl, rfl, hide (pB_zero _), rfl⟩
  case round =>
    obtain ⟨i, a, hi, ha, rfl, rfl, HA, rfl⟩ := hrel
    by_cases h : i < m
    · have hI : (i : Int) < (m : Int) := by omega
      obtain ⟨j, x1, x2⟩ := (unhide HX) i (by omega)
      have x3 := (unhide HL) (i + 1)
      rw [unhide HA] at x1 x2
      have HA2 : Hid (plB (i + 1) s = a + j + 1) := hide x2
      have hj : a + j + 1 ≤ s.size := by omega
      have CJ := hide ((unhide CI) (s.extract a s.size) j wr x1 (by rw [ByteArray.size_extract]; omega))
      clear x1 x2 x3
      have a0 : (0 : Int) ≤ (a : Int) := by omega
      have a1 : (a : Int) ≤ (s.size : Int) := by omega
      go_wp2_with (go_at_call 55; refine (unhide CJ).mono ?_; rintro e w' ⟨rfl, hw⟩; obtain rfl := hw.symm; clear hw)
      go_roundw
      case rel => exact ⟨i + 1, a + j + 1, by omega, by omega, by go_num, by go_num, HA2, by first | rfl | trivial⟩
      case measure => simp [intOf]; omega
    · have hI : ¬ (i : Int) < (m : Int) := by omega
      obtain rfl : i = m := by omega
      go_wp2
      go_ret
      exact ⟨ret_int (by rw [unhide HA]), rfl⟩
end Go.Proofs.YtaipnmmlfbfcnaaDoor.Rop
