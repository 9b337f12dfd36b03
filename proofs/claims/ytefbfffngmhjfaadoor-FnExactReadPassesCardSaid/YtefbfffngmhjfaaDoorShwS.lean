/- ShowPasses of the specification. -/
import Derived.Test.YtefbfffngmhjfaaDoorShwK
import Derived.Test.YtefbfffngmhjfaaDoorPasS
import Derived.Laws.Concat
namespace Go.Proofs.YtefbfffngmhjfaaDoor.Pas
open Go.RowKit
set_option linter.unusedVariables false
set_option linter.unusedSimpArgs false
theorem str_plus (A B : List Int) : strOfNums A ++ strOfNums B = strOfNums (A ++ B) := by
  unfold strOfNums
  apply ByteArray.ext
  simp [ByteArray.data_append]
theorem str_add (A B : List Int) (h : A.length + B.length ≤ 100000000) (W : World) : (Op.stringOp .add (strOfNums A) (strOfNums B)).run Tryd.prog W = .ok (.string (strOfNums (A ++ B))) W := by
  rw [run_string_add_sum W _ _ (by rw [strOfNums_size, strOfNums_size]; omega), str_plus]
def Sgs : ByteArray := ⟨#[91, 93, 62, 124, 58, 32, 92]⟩
theorem sgs_is (b : Nat) : (∃ j, j < 7 ∧ bt Sgs j = b) ↔ sgnB b = true := by
  have h0 : bt Sgs 0 = 91 := by kernel_rfl
  have h1 : bt Sgs 1 = 93 := by kernel_rfl
  have h2 : bt Sgs 2 = 62 := by kernel_rfl
  have h3 : bt Sgs 3 = 124 := by kernel_rfl
  have h4 : bt Sgs 4 = 58 := by kernel_rfl
  have h5 : bt Sgs 5 = 32 := by kernel_rfl
  have h6 : bt Sgs 6 = 92 := by kernel_rfl
  unfold sgnB
  simp only [Bool.or_eq_true, beq_iff_eq]
  constructor
  · rintro ⟨j, hj, rfl⟩
    have : j = 0 ∨ j = 1 ∨ j = 2 ∨ j = 3 ∨ j = 4 ∨ j = 5 ∨ j = 6 := by omega
    rcases this with rfl | rfl | rfl | rfl | rfl | rfl | rfl <;> omega
  · intro h
    rcases h with h | h | h | h | h | h | h
    · exact ⟨0, by omega, by omega⟩
    · exact ⟨1, by omega, by omega⟩
    · exact ⟨2, by omega, by omega⟩
    · exact ⟨3, by omega, by omega⟩
    · exact ⟨4, by omega, by omega⟩
    · exact ⟨5, by omega, by omega⟩
    · exact ⟨6, by omega, by omega⟩
set_option maxRecDepth 100000 in
set_option maxHeartbeats 2000000 in
theorem in_any7 (s : ByteArray) (b : Nat) (w : World) (hs : s.size = 7) (K : Bool) (hK : (∃ j, j < 7 ∧ bt s j = b) ↔ K = true) : Calls Tryd.prog 30 #[.int .i64 (b : Int), .string s] w fun e w' => e = .returned (.bool K) ∧ w' = w := by
  have hsl : s.size ≤ 7 := by omega
  have hsg : 7 ≤ s.size := by omega
  have HK := hide hK
  clear hK hs
  go_enter Tryd.func30, Tryd.ntmps30
  go_wp2
  go_loopw [5] (fun iv wr => ∃ k : Nat, k ≤ s.size ∧ iv = .int .i64 k ∧ Hid (∀ j, j < k → bt s j ≠ b) ∧ wr = w) (fun iv _ => s.size - (intOf iv).toNat)
  case atStart => exact ⟨0, Nat.zero_le _, rfl, hide (fun j hj => by omega), rfl⟩
  case round =>
    obtain ⟨k, hk, rfl, HJ, rfl⟩ := hrel
    by_cases hlt : k < s.size
    · have hlt' : (k : Int) < (s.size : Int) := by omega
      have h0k : (0 : Int) ≤ (k : Int) := by omega
      have f1 : ∀ h, (s[k]'h).toNat = bt s k := fun h => bt_get s k h
      have hbb := bt_lt s k
      have hwp : wrap64 ((bt s k : Nat) : Int) = ((bt s k : Nat) : Int) := by unfold wrap64; omega
      by_cases he : bt s k = b
      · have HT : Hid (K = true) := hide ((unhide HK).1 ⟨k, by omega, he⟩)
        have he' : ((b : Int) == ((bt s k : Nat) : Int)) = true := by rw [he]; exact beq_self_eq_true _
        clear he HK HJ
        generalize bt s k = c at *
        go_wp2
        go_ret
        exact ⟨by rw [unhide HT]; rfl, rfl⟩
      · have HJ2 : Hid (∀ j, j < k + 1 → bt s j ≠ b) := hide (fun j hj => by
          by_cases e : j = k
          · rw [e]; exact he
          · exact (unhide HJ) j (by omega))
        have he' : ((b : Int) == ((bt s k : Nat) : Int)) = false := by rw [beq_eq_false_iff_ne]; omega
        clear he HJ
        generalize bt s k = c at *
        go_wp2
        go_roundw
        case rel => exact ⟨k + 1, by omega, by go_num, HJ2, trivial⟩
        case measure => simp [intOf]; omega
    · obtain rfl : k = s.size := by omega
      have HT : Hid (K = false) := hide (by
        cases hh : K with
        | false => rfl
        | true =>
          obtain ⟨j, hj, e⟩ := (unhide HK).2 hh
          exact absurd e ((unhide HJ) j (by omega)))
      go_wp2
      go_ret
      exact ⟨by rw [unhide HT]; rfl, rfl⟩
theorem in_sgs (b : Nat) (w : World) : Calls Tryd.prog 30 #[.int .i64 (b : Int), .string ⟨#[91, 93, 62, 124, 58, 32, 92]⟩] w fun e w' => e = .returned (.bool (sgnB b)) ∧ w' = w := in_any7 Sgs b w rfl (sgnB b) (sgs_is b)
set_option maxRecDepth 100000 in
theorem word_any (m : Nat) (hm : m < 5) (w : World) : Calls Tryd.prog 9 #[.int .i64 (m : Int)] w fun e w' => e = .returned (.string (strOfNums (nam (m : Int)))) ∧ Below w.heap.size w w' := by
  rw [← nam_str m hm]
  have : m = 0 ∨ m = 1 ∨ m = 2 ∨ m = 3 ∨ m = 4 := by omega
  rcases this with rfl | rfl | rfl | rfl | rfl
  all_goals
    go_enter Tryd.func9, Tryd.ntmps9
    go_wp2
    go_ret
    exact ⟨rfl, al1 w _⟩
end Go.Proofs.YtefbfffngmhjfaaDoor.Pas
