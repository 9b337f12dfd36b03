/- Labels, as the specification writes them: the digits, a number, the bias. -/
import Derived.Test.YthjjojkabbepdaaDoorLabB
namespace Go.Proofs.YthjjojkabbepdaaDoor.Lab
open Go.RowKit
set_option linter.unusedVariables false
set_option maxRecDepth 100000 in
theorem leastS (k b : Int) (w : World) (hk0 : 0 ≤ k) (hk1 : k ≤ 1000000000000) (hb0 : 0 ≤ b) (hb1 : b ≤ 1000000000000) :
    Calls Tryd.prog 48 #[.int .i64 k, .int .i64 b] w fun e w' => e = .returned (.int .i64 (thr k b)) ∧ w' = w := by
  by_cases h1 : k ≤ b
  · rw [thr_lo h1]
    go_enter Tryd.func48, Tryd.ntmps48
    go_wp2
    go_ret
    exact ⟨rfl, rfl⟩
  · by_cases h2 : b + 26 ≤ k
    · rw [thr_hi h2]
      go_enter Tryd.func48, Tryd.ntmps48
      go_wp2
      go_ret
      exact ⟨rfl, rfl⟩
    · rw [thr_mid (by omega) (by omega)]
      go_enter Tryd.func48, Tryd.ntmps48
      go_wp2
      go_ret
      exact ⟨rfl, rfl⟩
def alph : ByteArray := ⟨#[97, 98, 99, 100, 101, 102, 103, 104, 105, 106, 107, 108, 109, 110, 111, 112, 113, 114, 115, 116, 117, 118, 119, 120, 121, 122, 48, 49, 50, 51, 52, 53, 54, 55, 56, 57]⟩
set_option maxRecDepth 100000 in
theorem digitS (d : Int) (w : World) (h0 : 0 ≤ d) (h1 : d < 36) : Calls Tryd.prog 55 #[.int .i64 d] w fun e w' => e = .returned (.int .u8 (dig d)) ∧ w' = w := by
  have hd : d = 0 ∨ d = 1 ∨ d = 2 ∨ d = 3 ∨ d = 4 ∨ d = 5 ∨ d = 6 ∨ d = 7 ∨ d = 8 ∨ d = 9 ∨ d = 10 ∨ d = 11 ∨ d = 12 ∨ d = 13 ∨ d = 14 ∨ d = 15 ∨ d = 16 ∨ d = 17 ∨ d = 18 ∨ d = 19 ∨ d = 20 ∨ d = 21 ∨ d = 22 ∨ d = 23 ∨ d = 24 ∨ d = 25 ∨ d = 26 ∨ d = 27 ∨ d = 28 ∨ d = 29 ∨ d = 30 ∨ d = 31 ∨ d = 32 ∨ d = 33 ∨ d = 34 ∨ d = 35 := by omega
  have ix : ∀ W, (Instr.index 9 (.string { data := #[97, 98, 99, 100, 101, 102, 103, 104, 105, 106, 107, 108, 109, 110, 111, 112, 113, 114, 115, 116, 117, 118, 119, 120, 121, 122, 48, 49, 50, 51, 52, 53, 54, 55, 56, 57] }) (.int .i64 d)).run Tryd.prog W = .ok (.int .u8 (dig d)) W := by
    intro W
    rcases hd with rfl | rfl | rfl | rfl | rfl | rfl | rfl | rfl | rfl | rfl | rfl | rfl | rfl | rfl | rfl | rfl | rfl | rfl | rfl | rfl | rfl | rfl | rfl | rfl | rfl | rfl | rfl | rfl | rfl | rfl | rfl | rfl | rfl | rfl | rfl | rfl <;> kernel_rfl
  clear hd
  generalize dig d = q at *
  go_enter Tryd.func55, Tryd.ntmps55
  go_wp2
  go_ret
  exact ⟨rfl, rfl⟩
set_option maxRecDepth 100000 in
set_option maxHeartbeats 1000000 in
theorem biasS (d h : Int) (a : Bool) (w : World) (h0 : 0 ≤ d) (h1 : d ≤ 2000000000) (hh0 : 1 ≤ h) (hh1 : h ≤ 100000) :
    Calls Tryd.prog 41 #[.int .i64 d, .int .i64 h, .bool (!a)] w fun e w' => e = .returned (.int .i64 (bsn d h a)) ∧ w' = w := by
  have hb := hlf_bd (a := a) (h := h) h0 hh0
  have HN : Hid (bsn d h a = bs1 (hlf d a + hlf d a / h) 0) := hide rfl
  have e1 : (hlf d a).tdiv h = hlf d a / h := Int.tdiv_eq_ediv_of_nonneg (by omega)
  obtain ⟨b0, b1, b2, b3, b4⟩ := hb
  have HF : Hid (hlf d a = if a then d / 2 else d / 700) := hide rfl
  have q1 : d.tdiv 2 = d / 2 := Int.tdiv_eq_ediv_of_nonneg h0
  have q2 : d.tdiv 700 = d / 700 := Int.tdiv_eq_ediv_of_nonneg h0
  have hz : (h == 0) = false := by rw [beq_eq_false_iff_ne]; omega
  have LP : ∀ (x y : Int), 0 ≤ x → x ≤ d → (x = hlf d a) → True := fun _ _ _ _ _ => trivial
  clear LP
  cases a with
  | true =>
    have ef : d / 2 = hlf d true := by rw [unhide HF]; rfl
    rw [ef] at q1
    clear ef HF q2
    generalize hlf d true = x at *
    generalize hy : x / h = y at *
    clear hy
    go_enter Tryd.func41, Tryd.ntmps41
    go_wp2
    go_loopw [0, 7] (fun dv kv wr => ∃ (z k : Int), dv = .int .i64 z ∧ kv = .int .i64 k ∧ 0 ≤ z ∧ z ≤ 2000000000 ∧ 0 ≤ k ∧ k + 36 * z ≤ 72000000000 ∧ Hid (bs1 z k = bs1 (x + y) 0) ∧ wr = w) (fun dv _ _ => (intOf dv).toNat)
    case atStart => exact ⟨x + y, 0, rfl, rfl, by omega, by omega, by omega, by omega, hide rfl, rfl⟩
    case round =>
      obtain ⟨z, k, rfl, rfl, z0, z1, k0, k1, HZ, rfl⟩ := hrel
      have q3 : z.tdiv 35 = z / 35 := Int.tdiv_eq_ediv_of_nonneg z0
      by_cases hz5 : 455 < z
      · have HS := hide (bs1_more (k := k) hz5)
        have z2 : 0 ≤ z / 35 := by omega
        have z3 : z / 35 ≤ 2000000000 := by omega
        have z4 : k + 36 + 36 * (z / 35) ≤ 72000000000 := by omega
        have z5 : z / 35 < z := by omega
        generalize z / 35 = z' at *
        go_wp2
        go_roundw
        case rel => exact ⟨z', k + 36, rfl, rfl, z2, z3, by omega, z4, hide ((unhide HS).symm.trans (unhide HZ)), trivial⟩
        case measure => simp [intOf]; omega
      · have HS := hide (bs1_last (k := k) z0 (by omega))
        have hr := rat_bd z0
        have q4 : (36 * z).tdiv (z + 38) = 36 * z / (z + 38) := Int.tdiv_eq_ediv_of_nonneg (by omega)
        have hz9 : (z + 38 == 0) = false := by rw [beq_eq_false_iff_ne]; omega
        generalize 36 * z / (z + 38) = r at *
        obtain ⟨r0, r1⟩ := hr
        go_wp2
        go_ret
        exact ⟨ret_int (by rw [unhide HN, ← unhide HZ, unhide HS]), rfl⟩
  | false =>
    have ef : d / 700 = hlf d false := by rw [unhide HF]; rfl
    rw [ef] at q2
    clear ef HF q1
    generalize hlf d false = x at *
    generalize hy : x / h = y at *
    clear hy
    go_enter Tryd.func41, Tryd.ntmps41
    go_wp2
    go_loopw [0, 7] (fun dv kv wr => ∃ (z k : Int), dv = .int .i64 z ∧ kv = .int .i64 k ∧ 0 ≤ z ∧ z ≤ 2000000000 ∧ 0 ≤ k ∧ k + 36 * z ≤ 72000000000 ∧ Hid (bs1 z k = bs1 (x + y) 0) ∧ wr = w) (fun dv _ _ => (intOf dv).toNat)
    case atStart => exact ⟨x + y, 0, rfl, rfl, by omega, by omega, by omega, by omega, hide rfl, rfl⟩
    case round =>
      obtain ⟨z, k, rfl, rfl, z0, z1, k0, k1, HZ, rfl⟩ := hrel
      have q3 : z.tdiv 35 = z / 35 := Int.tdiv_eq_ediv_of_nonneg z0
      by_cases hz5 : 455 < z
      · have HS := hide (bs1_more (k := k) hz5)
        have z2 : 0 ≤ z / 35 := by omega
        have z3 : z / 35 ≤ 2000000000 := by omega
        have z4 : k + 36 + 36 * (z / 35) ≤ 72000000000 := by omega
        have z5 : z / 35 < z := by omega
        generalize z / 35 = z' at *
        go_wp2
        go_roundw
        case rel => exact ⟨z', k + 36, rfl, rfl, z2, z3, by omega, z4, hide ((unhide HS).symm.trans (unhide HZ)), trivial⟩
        case measure => simp [intOf]; omega
      · have HS := hide (bs1_last (k := k) z0 (by omega))
        have hr := rat_bd z0
        have q4 : (36 * z).tdiv (z + 38) = 36 * z / (z + 38) := Int.tdiv_eq_ediv_of_nonneg (by omega)
        have hz9 : (z + 38 == 0) = false := by rw [beq_eq_false_iff_ne]; omega
        generalize 36 * z / (z + 38) = r at *
        obtain ⟨r0, r1⟩ := hr
        go_wp2
        go_ret
        exact ⟨ret_int (by rw [unhide HN, ← unhide HZ, unhide HS]), rfl⟩
end Go.Proofs.YthjjojkabbepdaaDoor.Lab
