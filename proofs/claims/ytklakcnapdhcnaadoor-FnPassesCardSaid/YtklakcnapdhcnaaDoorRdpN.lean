/- The names of the forms, as the program looks them up. -/
import Derived.Test.YtklakcnapdhcnaaDoorRdpC
import Derived.Test.YtklakcnapdhcnaaDoorShwK
namespace Go.Proofs.YtklakcnapdhcnaaDoor.Pas
open Go.RowKit
set_option linter.unusedVariables false
/-- The number of a name, or -1. -/
def nrm (s : ByteArray) : Int := if s = nmS 0 then 0 else if s = nmS 1 then 1 else if s = nmS 2 then 2 else if s = nmS 3 then 3 else if s = nmS 4 then 4 else -1
def nmK (s : ByteArray) : Nat → Prop
  | 0 => True
  | k + 1 => nmK s k ∧ ¬ s = nmS k
theorem nrm_no {s : ByteArray} (h : nmK s 5) : nrm s = -1 := by
  obtain ⟨⟨⟨⟨⟨_, h0⟩, h1⟩, h2⟩, h3⟩, h4⟩ := h
  unfold nrm
  rw [if_neg h0, if_neg h1, if_neg h2, if_neg h3, if_neg h4]
theorem nrm_0 {s : ByteArray} (h : nmK s 0) (e : s = nmS 0) : nrm s = 0 := by
  unfold nrm
  rw [if_pos e]
theorem nrm_1 {s : ByteArray} (h : nmK s 1) (e : s = nmS 1) : nrm s = 1 := by
  unfold nrm
  obtain ⟨_, h0⟩ := h
  rw [if_neg h0, if_pos e]
theorem nrm_2 {s : ByteArray} (h : nmK s 2) (e : s = nmS 2) : nrm s = 2 := by
  unfold nrm
  obtain ⟨⟨_, h0⟩, h1⟩ := h
  rw [if_neg h0, if_neg h1, if_pos e]
theorem nrm_3 {s : ByteArray} (h : nmK s 3) (e : s = nmS 3) : nrm s = 3 := by
  unfold nrm
  obtain ⟨⟨⟨_, h0⟩, h1⟩, h2⟩ := h
  rw [if_neg h0, if_neg h1, if_neg h2, if_pos e]
theorem nrm_4 {s : ByteArray} (h : nmK s 4) (e : s = nmS 4) : nrm s = 4 := by
  unfold nrm
  obtain ⟨⟨⟨⟨_, h0⟩, h1⟩, h2⟩, h3⟩ := h
  rw [if_neg h0, if_neg h1, if_neg h2, if_neg h3, if_pos e]
set_option maxRecDepth 100000 in
set_option maxHeartbeats 4000000 in
/-- normNamed. -/
theorem nn_any (s : ByteArray) (w : World) (hN : NamAt w) : Calls Tryd.prog 54 #[.string s] w fun e w' => e = .returned (.int .i64 (nrm s)) ∧ w' = w := by
  obtain ⟨h0, hN⟩ := hN
  have n0 := hN 0 (by decide)
  have n1 := hN 1 (by decide)
  have n2 := hN 2 (by decide)
  have n3 := hN 3 (by decide)
  have n4 := hN 4 (by decide)
  have E0 := hide (fun h => nrm_0 (s := s) h)
  have E1 := hide (fun h => nrm_1 (s := s) h)
  have E2 := hide (fun h => nrm_2 (s := s) h)
  have E3 := hide (fun h => nrm_3 (s := s) h)
  have E4 := hide (fun h => nrm_4 (s := s) h)
  have K0 : Hid (nmK s 0 → ¬ s = nmS 0 → nmK s 1) := hide (fun a b => ⟨a, b⟩)
  have K1 : Hid (nmK s 1 → ¬ s = nmS 1 → nmK s 2) := hide (fun a b => ⟨a, b⟩)
  have K2 : Hid (nmK s 2 → ¬ s = nmS 2 → nmK s 3) := hide (fun a b => ⟨a, b⟩)
  have K3 : Hid (nmK s 3 → ¬ s = nmS 3 → nmK s 4) := hide (fun a b => ⟨a, b⟩)
  have K4 : Hid (nmK s 4 → ¬ s = nmS 4 → nmK s 5) := hide (fun a b => ⟨a, b⟩)
  have HE := hide (fun h => nrm_no (s := s) h)
  have HQ : Hid (∀ k : ByteArray, (s.toList == k.toList) = decide (s = k)) := hide (fun k => str_beq)
  have H0 : Hid (nmK s 0) := hide trivial
  clear hN
  generalize nmS 0 = m0 at *
  generalize nmS 1 = m1 at *
  generalize nmS 2 = m2 at *
  generalize nmS 3 = m3 at *
  generalize nmS 4 = m4 at *
  have ix0 : ∀ w, (Instr.index 38 (.agg #[Value.string m0, Value.string m1, Value.string m2, Value.string m3, Value.string m4]) (.int .i64 0)).run Tryd.prog w = .ok (.string m0) w := fun _ => by kernel_rfl
  have ix1 : ∀ w, (Instr.index 38 (.agg #[Value.string m0, Value.string m1, Value.string m2, Value.string m3, Value.string m4]) (.int .i64 1)).run Tryd.prog w = .ok (.string m1) w := fun _ => by kernel_rfl
  have ix2 : ∀ w, (Instr.index 38 (.agg #[Value.string m0, Value.string m1, Value.string m2, Value.string m3, Value.string m4]) (.int .i64 2)).run Tryd.prog w = .ok (.string m2) w := fun _ => by kernel_rfl
  have ix3 : ∀ w, (Instr.index 38 (.agg #[Value.string m0, Value.string m1, Value.string m2, Value.string m3, Value.string m4]) (.int .i64 3)).run Tryd.prog w = .ok (.string m3) w := fun _ => by kernel_rfl
  have ix4 : ∀ w, (Instr.index 38 (.agg #[Value.string m0, Value.string m1, Value.string m2, Value.string m3, Value.string m4]) (.int .i64 4)).run Tryd.prog w = .ok (.string m4) w := fun _ => by kernel_rfl
  go_enter Tryd.func54, Tryd.ntmps54
  go_wp2
  go_loopw [6] (fun iv wr => ∃ k : Nat, k ≤ 5 ∧ iv = .int .i64 k ∧ wr = w ∧ Hid (nmK s k)) (fun iv _ => 5 - (intOf iv).toNat)
  case atStart => exact ⟨0, Nat.zero_le _, rfl, rfl, H0⟩
  case round =>
    obtain ⟨k, hk, rfl, rfl, HM⟩ := hrel
    have : k = 0 ∨ k = 1 ∨ k = 2 ∨ k = 3 ∨ k = 4 ∨ k = 5 := by omega
    rcases this with rfl | rfl | rfl | rfl | rfl | rfl
    · by_cases he : s = m0
      · have hb : (s.toList == m0.toList) = true := by rw [(unhide HQ) m0]; exact decide_eq_true he
        have hr := (unhide E0) (unhide HM) he
        have HR := hide hr
        clear he hr
        go_wp2
        go_ret
        exact ⟨by rw [unhide HR]; rfl, rfl⟩
      · have hb : (s.toList == m0.toList) = false := by rw [(unhide HQ) m0]; exact decide_eq_false he
        have M2 := hide ((unhide K0) (unhide HM) he)
        go_wp2
        go_roundw
        case rel => exact ⟨1, by omega, by go_num, by first | rfl | trivial, M2⟩
        case measure => simp [intOf]
    · by_cases he : s = m1
      · have hb : (s.toList == m1.toList) = true := by rw [(unhide HQ) m1]; exact decide_eq_true he
        have hr := (unhide E1) (unhide HM) he
        have HR := hide hr
        clear he hr
        go_wp2
        go_ret
        exact ⟨by rw [unhide HR]; rfl, rfl⟩
      · have hb : (s.toList == m1.toList) = false := by rw [(unhide HQ) m1]; exact decide_eq_false he
        have M2 := hide ((unhide K1) (unhide HM) he)
        go_wp2
        go_roundw
        case rel => exact ⟨2, by omega, by go_num, by first | rfl | trivial, M2⟩
        case measure => simp [intOf]
    · by_cases he : s = m2
      · have hb : (s.toList == m2.toList) = true := by rw [(unhide HQ) m2]; exact decide_eq_true he
        have hr := (unhide E2) (unhide HM) he
        have HR := hide hr
        clear he hr
        go_wp2
        go_ret
        exact ⟨by rw [unhide HR]; rfl, rfl⟩
      · have hb : (s.toList == m2.toList) = false := by rw [(unhide HQ) m2]; exact decide_eq_false he
        have M2 := hide ((unhide K2) (unhide HM) he)
        go_wp2
        go_roundw
        case rel => exact ⟨3, by omega, by go_num, by first | rfl | trivial, M2⟩
        case measure => simp [intOf]
    · by_cases he : s = m3
      · have hb : (s.toList == m3.toList) = true := by rw [(unhide HQ) m3]; exact decide_eq_true he
        have hr := (unhide E3) (unhide HM) he
        have HR := hide hr
        clear he hr
        go_wp2
        go_ret
        exact ⟨by rw [unhide HR]; rfl, rfl⟩
      · have hb : (s.toList == m3.toList) = false := by rw [(unhide HQ) m3]; exact decide_eq_false he
        have M2 := hide ((unhide K3) (unhide HM) he)
        go_wp2
        go_roundw
        case rel => exact ⟨4, by omega, by go_num, by first | rfl | trivial, M2⟩
        case measure => simp [intOf]
    · by_cases he : s = m4
      · have hb : (s.toList == m4.toList) = true := by rw [(unhide HQ) m4]; exact decide_eq_true he
        have hr := (unhide E4) (unhide HM) he
        have HR := hide hr
        clear he hr
        go_wp2
        go_ret
        exact ⟨by rw [unhide HR]; rfl, rfl⟩
      · have hb : (s.toList == m4.toList) = false := by rw [(unhide HQ) m4]; exact decide_eq_false he
        have M2 := hide ((unhide K4) (unhide HM) he)
        go_wp2
        go_roundw
        case rel => exact ⟨5, by omega, by go_num, by first | rfl | trivial, M2⟩
        case measure => simp [intOf]
    · go_wp2
      go_ret
      exact ⟨by rw [(unhide HE) (unhide HM)]; rfl, rfl⟩
end Go.Proofs.YtklakcnapdhcnaaDoor.Pas
