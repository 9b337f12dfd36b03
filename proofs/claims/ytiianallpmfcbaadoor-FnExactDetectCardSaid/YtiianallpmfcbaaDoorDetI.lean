/- The program's Detect behind the marks. -/
import Derived.Test.YtiianallpmfcbaaDoorDet
import Derived.Lib.Bytealg
import Derived.Lib.ValidLaws
import Derived.Lib.TrimUEq
namespace Go.Proofs.YtiianallpmfcbaaDoor
open Go.RowKit
/-- How many of the first n bytes at places of a parity are 0. -/
def zc (s : ByteArray) (par : Nat) : Nat → Nat
  | 0 => 0
  | n + 1 => zc s par n + (if n % 2 = par ∧ bt s n = 0 then 1 else 0)
theorem zc_le (s : ByteArray) (par n : Nat) : zc s par n ≤ n := by
  induction n with
  | zero => simp [zc]
  | succ n ih => unfold zc; split <;> omega
theorem zc_none (s : ByteArray) (n : Nat) : zc s 0 n + zc s 1 n = 0 ↔ ∀ i, i < n → bt s i ≠ 0 := by
  induction n with
  | zero => simp [zc]
  | succ n ih =>
    unfold zc
    constructor
    · intro h i hi
      by_cases e : i = n
      · subst e
        intro hb
        have hp : i % 2 = 0 ∨ i % 2 = 1 := by omega
        rcases hp with hp | hp
        · rw [if_pos ⟨hp, hb⟩] at h; omega
        · rw [if_pos (show i % 2 = 1 ∧ bt s i = 0 from ⟨hp, hb⟩)] at h; omega
      · exact ih.1 (by omega) i (by omega)
    · intro h
      have hb := h n (by omega)
      rw [if_neg (fun hh => hb hh.2), if_neg (fun hh => hb hh.2)]
      exact ih.2 (fun i hi => h i (by omega))
theorem zc_two0 (s : ByteArray) (j : Nat) (hj : j % 2 = 0) : zc s 0 (j + 2) = zc s 0 j + (if bt s j = 0 then 1 else 0) := by
  show zc s 0 j + (if j % 2 = 0 ∧ bt s j = 0 then 1 else 0) + (if (j + 1) % 2 = 0 ∧ bt s (j + 1) = 0 then 1 else 0) = _
  rw [if_neg (show ¬ ((j + 1) % 2 = 0 ∧ bt s (j + 1) = 0) from fun h => by omega)]
  by_cases e : bt s j = 0
  · rw [if_pos ⟨hj, e⟩, if_pos e]
  · rw [if_neg (fun h => e h.2), if_neg e]
theorem zc_two1 (s : ByteArray) (j : Nat) (hj : j % 2 = 0) : zc s 1 (j + 2) = zc s 1 j + (if bt s (j + 1) = 0 then 1 else 0) := by
  show zc s 1 j + (if j % 2 = 1 ∧ bt s j = 0 then 1 else 0) + (if (j + 1) % 2 = 1 ∧ bt s (j + 1) = 0 then 1 else 0) = _
  rw [if_neg (show ¬ (j % 2 = 1 ∧ bt s j = 0) from fun h => by omega)]
  by_cases e : bt s (j + 1) = 0
  · rw [if_pos ⟨by omega, e⟩, if_pos e]
  · rw [if_neg (fun h => e h.2), if_neg e]
/-- Sixteen by the zeros. -/
def byZ (s : ByteArray) : Int :=
  if s.size % 2 = 1 then 0 else if zc s 1 s.size < zc s 0 s.size then 2 else if zc s 0 s.size < zc s 1 s.size then 3 else 0
set_option maxHeartbeats 2000000 in
set_option maxRecDepth 100000 in
theorem byZeros_any (s : ByteArray) (w : World) (hs : s.size ≤ 65536) :
    Calls Tryd.prog 14 #[.string s] w fun e w' => e = .returned (.int .i64 (byZ s)) ∧ w' = w := by
  by_cases ho : s.size % 2 = 1
  · have hm : ((((s.size : Nat) : Int).tmod 2) != 0) = true := by rw [Int.tmod_eq_emod_of_nonneg (by omega), bne_iff_ne]; omega
    have HR : Hid (byZ s = 0) := hide (by unfold byZ; rw [if_pos ho])
    go_enter Tryd.func14, Tryd.ntmps14
    go_wp2
    go_ret
    exact ⟨ret_int (unhide HR).symm, rfl⟩
  · have hm : ((((s.size : Nat) : Int).tmod 2) != 0) = false := by rw [Int.tmod_eq_emod_of_nonneg (by omega), bne_eq_false_iff_eq]; omega
    go_enter Tryd.func14, Tryd.ntmps14
    go_wp2
    go_loop [3, 4] (fun b i => ∃ j : Nat, j ≤ s.size ∧ j % 2 = 0 ∧ i = .int .i64 j ∧ b = .int .i64 ((zc s 0 j : Int) - (zc s 1 j : Int))) (fun _ i => s.size - (intOf i).toNat)
    case atStart => exact ⟨0, by omega, rfl, rfl, rfl⟩
    case round =>
      obtain ⟨j, hj, hj2, rfl, rfl⟩ := hrel
      have l0 := zc_le s 0 j
      have l1 := zc_le s 1 j
      by_cases hlt : j < s.size
      · have f0 : ∀ h, (s[j]'h).toNat = bt s j := fun h => bt_get s j h
        have f1 : ∀ h, (s[j + 1]'h).toNat = bt s (j + 1) := fun h => bt_get s (j + 1) h
        have h1lt : j + 1 < s.size := by omega
        have h1lt' : (j : Int) + 1 < (s.size : Int) := by omega
        have Z0 := hide (zc_two0 s j hj2)
        have Z1 := hide (zc_two1 s j hj2)
        generalize zc s 0 j = a at *
        generalize zc s 1 j = b at *
        cases e0 : (((bt s j : Nat) : Int) == 0) <;> cases e1 : (((bt s (j + 1) : Nat) : Int) == 0)
        all_goals
          have E0 := hide e0
          have E1 := hide e1
          go_wp2
          go_round
          case rel =>
            have z0 := unhide Z0
            have z1 := unhide Z1
            have q0 := unhide E0
            have q1 := unhide E1
            simp only [beq_eq_false_iff_ne, beq_iff_eq, ne_eq] at q0 q1
            refine ⟨j + 2, by omega, by omega, by go_num, ?_⟩
            first
              | (rw [if_neg (by omega)] at z0; rw [if_neg (by omega)] at z1; rw [z0, z1]; go_num)
              | (rw [if_neg (by omega)] at z0; rw [if_pos (by omega)] at z1; rw [z0, z1]; go_num)
              | (rw [if_pos (by omega)] at z0; rw [if_neg (by omega)] at z1; rw [z0, z1]; go_num)
              | (rw [if_pos (by omega)] at z0; rw [if_pos (by omega)] at z1; rw [z0, z1]; go_num)
          case measure => simp [intOf]; omega
      · obtain rfl : j = s.size := by omega
        have HR : Hid (byZ s = if zc s 1 s.size < zc s 0 s.size then 2 else if zc s 0 s.size < zc s 1 s.size then 3 else 0) := hide (by unfold byZ; rw [if_neg ho])
        generalize zc s 0 s.size = a at *
        generalize zc s 1 s.size = b at *
        by_cases c1 : b < a
        · have c1' : (0 : Int) < (a : Int) - (b : Int) := by omega
          go_wp2
          go_ret
          exact ⟨ret_int (by rw [unhide HR, if_pos c1]), rfl⟩
        by_cases c2 : a < b
        · have c1' : ¬ (0 : Int) < (a : Int) - (b : Int) := by omega
          have c2' : (a : Int) - (b : Int) < 0 := by omega
          go_wp2
          go_ret
          exact ⟨ret_int (by rw [unhide HR, if_neg c1, if_pos c2]), rfl⟩
        · have c1' : (a : Int) - (b : Int) = 0 := by omega
          rw [c1']
          go_wp2
          go_ret
          exact ⟨ret_int (by rw [unhide HR, if_neg c1, if_neg c2]), rfl⟩
end Go.Proofs.YtiianallpmfcbaaDoor
