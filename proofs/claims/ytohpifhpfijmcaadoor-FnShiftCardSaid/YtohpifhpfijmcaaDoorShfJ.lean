/- Shift: how the specification writes a point in a state. -/
import Derived.Test.YtohpifhpfijmcaaDoorShfE
namespace Go.Proofs.YtohpifhpfijmcaaDoor
open Go.RowKit
theorem layP_byte {st p : Int} (hp : 0 ≤ p) (h : stF st p ≠ -1) : ∀ x ∈ layP (stF st p) p, 0 ≤ x ∧ x < 256 := by
  have hl := stF_lay hp h
  generalize stF st p = nx at *
  unfold layP
  intro x hx
  split at hx
  · simp at hx; omega
  split at hx
  · simp at hx; omega
  · simp at hx; omega
theorem letterS (k : Int) (h0 : 0 ≤ k) (h4 : k ≤ 4) (w : World) :
    Calls Tryd.prog 28 #[.int .i64 k] w fun e w' => e = .returned (.int .u8 (letter k)) ∧ w = w' := by
  have h5 : k = 0 ∨ k = 1 ∨ k = 2 ∨ k = 3 ∨ k = 4 := by omega
  clear h0 h4
  rcases h5 with rfl | rfl | rfl | rfl | rfl
  · have hix : ∀ w, (Instr.index 9 (.string { data := #[65, 66, 67, 68, 87] }) (.int .i64 0)).run Tryd.prog w = .ok (.int .u8 65) w := fun _ => by kernel_rfl
    go_enter Tryd.func28, Tryd.ntmps28
    go_wp2
    go_ret
    exact ⟨rfl, rfl⟩
  · have hix : ∀ w, (Instr.index 9 (.string { data := #[65, 66, 67, 68, 87] }) (.int .i64 1)).run Tryd.prog w = .ok (.int .u8 66) w := fun _ => by kernel_rfl
    go_enter Tryd.func28, Tryd.ntmps28
    go_wp2
    go_ret
    exact ⟨rfl, rfl⟩
  · have hix : ∀ w, (Instr.index 9 (.string { data := #[65, 66, 67, 68, 87] }) (.int .i64 2)).run Tryd.prog w = .ok (.int .u8 67) w := fun _ => by kernel_rfl
    go_enter Tryd.func28, Tryd.ntmps28
    go_wp2
    go_ret
    exact ⟨rfl, rfl⟩
  · have hix : ∀ w, (Instr.index 9 (.string { data := #[65, 66, 67, 68, 87] }) (.int .i64 3)).run Tryd.prog w = .ok (.int .u8 68) w := fun _ => by kernel_rfl
    go_enter Tryd.func28, Tryd.ntmps28
    go_wp2
    go_ret
    exact ⟨rfl, rfl⟩
  · have hix : ∀ w, (Instr.index 9 (.string { data := #[65, 66, 67, 68, 87] }) (.int .i64 4)).run Tryd.prog w = .ok (.int .u8 87) w := fun _ => by kernel_rfl
    go_enter Tryd.func28, Tryd.ntmps28
    go_wp2
    go_ret
    exact ⟨rfl, rfl⟩
/-- Where a point is written in just this state. -/
theorem stF_here {st p : Int} (h0 : 0 ≤ st) (_hp : 0 ≤ p) (h : stF st p = st) : (p < 32 ∧ p ≠ 27) ∨ (32 ≤ p ∧ p ≤ 126 ∧ st = 0) ∨ (1 ≤ st ∧ st ≤ 3 ∧ 256 + 256 * st ≤ p ∧ p ≤ 351 + 256 * st) ∨ (st = 4 ∧ 24576 ≤ p ∧ p ≤ 26623) := by
  unfold stF at h
  by_cases h27 : p = 27
  · rw [if_pos h27] at h; omega
  rw [if_neg h27] at h
  by_cases h32 : p < 32
  · omega
  rw [if_neg h32] at h
  by_cases h126 : p ≤ 126
  · rw [if_pos h126] at h; omega
  rw [if_neg h126] at h
  by_cases hs : 512 ≤ p ∧ p < 1280 ∧ p % 256 < 96
  · rw [if_pos hs] at h; omega
  rw [if_neg hs] at h
  by_cases hi : 24576 ≤ p ∧ p ≤ 26623
  · rw [if_pos hi] at h; omega
  rw [if_neg hi] at h; omega
theorem stF_there {st p : Int} (h0 : 0 ≤ st) (h4 : st ≤ 4) (_hp : 0 ≤ p) (h : stF st p ≠ st) : (32 ≤ p ∨ p = 27) ∧ ¬ (st = 0 ∧ 32 ≤ p ∧ p ≤ 126) ∧ ¬ (1 ≤ st ∧ st ≤ 3 ∧ 256 + 256 * st ≤ p ∧ p ≤ 351 + 256 * st) ∧ ¬ (st = 4 ∧ 24576 ≤ p ∧ p ≤ 26623) := by
  unfold stF at h
  by_cases h27 : p = 27
  · omega
  rw [if_neg h27] at h
  by_cases h32 : p < 32
  · rw [if_pos h32] at h; omega
  rw [if_neg h32] at h
  by_cases h126 : p ≤ 126
  · rw [if_pos h126] at h; omega
  rw [if_neg h126] at h
  by_cases hs : 512 ≤ p ∧ p < 1280 ∧ p % 256 < 96
  · rw [if_pos hs] at h; omega
  rw [if_neg hs] at h
  by_cases hi : 24576 ≤ p ∧ p ≤ 26623
  · rw [if_pos hi] at h; omega
  rw [if_neg hi] at h; omega
/-- No other state counts, where a point is not written in this one. -/
theorem stF_same {st p : Int} (k : Int) (h : 32 ≤ p ∨ p = 27) : stF k p = stF st p := by
  unfold stF
  by_cases h27 : p = 27
  · rw [if_pos h27, if_pos h27]
  · have h32 : ¬ p < 32 := by omega
    rw [if_neg h27, if_neg h27, if_neg h32, if_neg h32]
set_option maxHeartbeats 1000000 in
set_option maxRecDepth 100000 in
theorem in_yes (st p : Int) (h0 : 0 ≤ st) (hp : 0 ≤ p) (h : stF st p = st) (w : World) :
    Calls Tryd.prog 27 #[.int .i64 st, .int .i64 p] w fun e w' => e = .returned (.tuple #[.string (strOfNums (layP st p)), .bool true]) ∧ Below w.heap.size w w' := by
  have hh := stF_here h0 hp h
  clear h
  rcases hh with ⟨a, b⟩ | ⟨a, b, c⟩ | ⟨a, b, c, d⟩ | ⟨a, b, c⟩
  · have e : layP st p = [p] := by unfold layP; rw [if_pos (.inl a)]
    have hq : (p != 27) = true := by simpa using b
    rw [e]
    clear b e
    have hcv := conv1
    go_enter Tryd.func27, Tryd.ntmps27
    go_wp2
    go_ret2
    exact ⟨rfl, (Below.refl _ _).alloc (Nat.le_refl _) _⟩
  · have e : layP st p = [p] := by unfold layP; rw [if_pos (.inr c)]
    have hq : (st == 0) = true := by simpa using c
    rw [e]
    clear c e
    have hcv := conv1
    go_enter Tryd.func27, Tryd.ntmps27
    go_wp2
    go_ret2
    exact ⟨rfl, (Below.refl _ _).alloc (Nat.le_refl _) _⟩
  · have e : layP st p = [32 + p % 256] := by unfold layP; rw [if_neg (by omega), if_neg (by omega)]
    have hq : (st == 0) = false := by rw [beq_eq_false_iff_ne]; omega
    have em : p.tmod 256 = p % 256 := Int.tmod_eq_emod_of_nonneg hp
    have h32 : 32 ≤ p := by omega
    have hm : p % 256 ≤ 95 := by omega
    rw [e]
    clear e
    have hcv := conv1
    go_enter Tryd.func27, Tryd.ntmps27
    go_wp2
    go_ret2
    exact ⟨rfl, (Below.refl _ _).alloc (Nat.le_refl _) _⟩
  · have e : layP st p = [33 + (p - 24576) / 94, 33 + (p - 24576) % 94] := by unfold layP; rw [if_neg (by omega), if_pos a]
    have hq : (st == 0) = false := by rw [beq_eq_false_iff_ne]; omega
    have hq4 : (st == 4) = true := by simpa using a
    have hs4 : 4 ≤ st := by omega
    have em : (p - 24576).tmod 94 = (p - 24576) % 94 := Int.tmod_eq_emod_of_nonneg (by omega)
    have ed : (p - 24576).tdiv 94 = (p - 24576) / 94 := Int.tdiv_eq_ediv_of_nonneg (by omega)
    rw [e]
    clear a e
    have hcv := conv2
    go_enter Tryd.func27, Tryd.ntmps27
    go_wp2
    go_ret2
    exact ⟨rfl, (Below.refl _ _).alloc (Nat.le_refl _) _⟩
set_option maxHeartbeats 1000000 in
set_option maxRecDepth 100000 in
theorem in_no (st p : Int) (h0 : 0 ≤ st) (h4 : st ≤ 4) (hp : 0 ≤ p) (h : stF st p ≠ st) (w : World) :
    Calls Tryd.prog 27 #[.int .i64 st, .int .i64 p] w fun e w' => e = .returned (.tuple #[.string (strOfNums []), .bool false]) ∧ Below w.heap.size w w' := by
  have hh := stF_there h0 h4 hp h
  have hc : (p = 27 ∧ st = 0) ∨ (p = 27 ∧ 1 ≤ st ∧ st ≤ 3) ∨ (p = 27 ∧ st = 4) ∨ (32 ≤ p ∧ st = 0 ∧ 126 < p) ∨ (32 ≤ p ∧ 1 ≤ st ∧ st ≤ 3 ∧ p < 256 + 256 * st) ∨ (32 ≤ p ∧ 1 ≤ st ∧ st ≤ 3 ∧ 351 + 256 * st < p) ∨ (32 ≤ p ∧ st = 4 ∧ p < 24576) ∨ (32 ≤ p ∧ st = 4 ∧ 26623 < p) := by omega
  clear hh h
  rcases hc with ⟨a, b⟩ | ⟨a, b, c⟩ | ⟨a, b⟩ | ⟨a, b, c⟩ | ⟨a, b, c, d⟩ | ⟨a, b, c, d⟩ | ⟨a, b, c⟩ | ⟨a, b, c⟩
  all_goals
    first | subst a | skip
    first | subst b | skip
    try (have hq0 : (st == 0) = false := by rw [beq_eq_false_iff_ne]; omega)
    try (have hq4 : (st == 4) = false := by rw [beq_eq_false_iff_ne]; omega)
    try (have hlo : 27 < 256 + 256 * st := by omega)
    go_enter Tryd.func27, Tryd.ntmps27
    go_wp2
    go_ret2
    exact ⟨rfl, Below.refl _ _⟩
end Go.Proofs.YtohpifhpfijmcaaDoor
