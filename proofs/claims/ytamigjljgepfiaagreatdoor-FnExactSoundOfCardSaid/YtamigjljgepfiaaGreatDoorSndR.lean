/- strings.Repeat of a few 0: what it answers is new, and nothing is made on the way. -/
import Derived.Test.YtamigjljgepfiaaGreatDoorSndP
import Derived.Test.YtamigjljgepfiaaGreatDoorMN
namespace Go.Proofs.YtamigjljgepfiaaGreatDoor
namespace Snd
open Go.RowKit
set_option linter.unusedVariables false
/-- What begins with what. -/
def hpf (s p : ByteArray) : Bool := decide (p.size ≤ s.size) && ((s.extract 0 p.size).toList == p.toList)
theorem lhpf (s p : ByteArray) (w : World) : Calls Tryz.prog 62 #[.string s, .string p] w fun e w' => e = .returned (.bool (hpf s p)) ∧ w' = w := by
  by_cases h : p.size ≤ s.size
  · have h' : (p.size : Int) ≤ (s.size : Int) := by omega
    have h0 : (0 : Int) ≤ (p.size : Int) := by omega
    have e : hpf s p = ((s.extract 0 p.size).toList == p.toList) := by unfold hpf; rw [decide_eq_true h, Bool.true_and]
    rw [e]
    go_enter Tryz.func62, Tryz.ntmps62
    go_wp2
    go_ret
    exact ⟨rfl, rfl⟩
  · have h' : ¬ (p.size : Int) ≤ (s.size : Int) := by omega
    have e : hpf s p = false := by unfold hpf; rw [decide_eq_false h, Bool.false_and]
    rw [e]
    go_enter Tryz.func62, Tryz.ntmps62
    go_wp2
    go_ret
    exact ⟨rfl, rfl⟩
theorem hpfS (s p : ByteArray) (w : World) : Calls Tryz.prog 36 #[.string s, .string p] w fun e w' => e = .returned (.bool (hpf s p)) ∧ w' = w := by
  have C := hide (fun W => lhpf s p W)
  generalize hpf s p = D at *
  go_enter Tryz.func36, Tryz.ntmps36
  go_wp2_with (go_at_call 62; refine ((unhide C) _).mono ?_; rintro e w' ⟨rfl, hx⟩; obtain rfl := hx.symm; clear hx)
  go_ret
  exact ⟨rfl, rfl⟩
theorem pre_is (s p : ByteArray) (b : Bool) (h : hpf s p = b) (w : World) : Calls Tryz.prog 36 #[.string s, .string p] w fun e w' => e = .returned (.bool b) ∧ w' = w := by rw [← h]; exact hpfS s p w
theorem mul64_2 (w : World) : Calls Tryz.prog 61 #[.int .u64 1, .int .u64 2] w fun e w' => e = .returned (.tuple #[.int .u64 0, .int .u64 2]) ∧ w' = w := by
  go_enter Tryz.func61, Tryz.ntmps61
  go_wp2
  refine bodyPost_ret (v := .tuple #[.int .u64 0, .int .u64 2]) (by kernel_rfl) rfl ?_
  exact ⟨rfl, rfl⟩
theorem mul64_3 (w : World) : Calls Tryz.prog 61 #[.int .u64 1, .int .u64 3] w fun e w' => e = .returned (.tuple #[.int .u64 0, .int .u64 3]) ∧ w' = w := by
  go_enter Tryz.func61, Tryz.ntmps61
  go_wp2
  refine bodyPost_ret (v := .tuple #[.int .u64 0, .int .u64 3]) (by kernel_rfl) rfl ?_
  exact ⟨rfl, rfl⟩
theorem mul64_4 (w : World) : Calls Tryz.prog 61 #[.int .u64 1, .int .u64 4] w fun e w' => e = .returned (.tuple #[.int .u64 0, .int .u64 4]) ∧ w' = w := by
  go_enter Tryz.func61, Tryz.ntmps61
  go_wp2
  refine bodyPost_ret (v := .tuple #[.int .u64 0, .int .u64 4]) (by kernel_rfl) rfl ?_
  exact ⟨rfl, rfl⟩
theorem mul_of (c : Int) (H : ∀ w, Calls Tryz.prog 61 #[.int .u64 1, .int .u64 c] w fun e w' => e = .returned (.tuple #[.int .u64 0, .int .u64 c]) ∧ w' = w) (w : World) : Calls Tryz.prog 35 #[.int .u64 1, .int .u64 c] w fun e w' => e = .returned (.tuple #[.int .u64 0, .int .u64 c]) ∧ w' = w := by
  go_enter Tryz.func35, Tryz.ntmps35
  go_wp2_with (go_at_call 61; refine (H _).mono ?_; rintro e w' ⟨rfl, rfl⟩)
  refine bodyPost_ret (v := .tuple #[.int .u64 0, .int .u64 c]) (by kernel_rfl) rfl ?_
  exact ⟨rfl, rfl⟩
def zs (c : Nat) : ByteArray := ⟨(List.replicate c 48).toArray⟩
set_option maxRecDepth 100000 in
set_option maxHeartbeats 4000000 in
theorem rep_2 (w : World) : Calls Tryz.prog 15 #[.string ⟨#[48]⟩, .int .i64 2] w fun e w' => e = .returned (.string (zs 2)) ∧ w' = w := by
  have HM := mul_of 2 mul64_2
  have K1 : Hid True := hide trivial
  have K2 : Hid True := hide trivial
  go_enter Tryz.func15, Tryz.ntmps15
  go_wp2_with (first | (go_at_call 35; refine (HM _).mono ?_; rintro e w' ⟨rfl, rfl⟩) | (go_at_call 36; clear K1; refine (pre_is _ _ false (by kernel_rfl) _).mono ?_; rintro e w' ⟨rfl, rfl⟩) | (go_at_call 36; clear K2; refine (pre_is _ _ false (by kernel_rfl) _).mono ?_; rintro e w' ⟨rfl, rfl⟩) | (go_at_call 36; refine (pre_is _ _ true (by kernel_rfl) _).mono ?_; rintro e w' ⟨rfl, rfl⟩))
  go_ret
  exact ⟨by kernel_rfl, rfl⟩
set_option maxRecDepth 100000 in
set_option maxHeartbeats 4000000 in
theorem rep_3 (w : World) : Calls Tryz.prog 15 #[.string ⟨#[48]⟩, .int .i64 3] w fun e w' => e = .returned (.string (zs 3)) ∧ w' = w := by
  have HM := mul_of 3 mul64_3
  have K1 : Hid True := hide trivial
  have K2 : Hid True := hide trivial
  go_enter Tryz.func15, Tryz.ntmps15
  go_wp2_with (first | (go_at_call 35; refine (HM _).mono ?_; rintro e w' ⟨rfl, rfl⟩) | (go_at_call 36; clear K1; refine (pre_is _ _ false (by kernel_rfl) _).mono ?_; rintro e w' ⟨rfl, rfl⟩) | (go_at_call 36; clear K2; refine (pre_is _ _ false (by kernel_rfl) _).mono ?_; rintro e w' ⟨rfl, rfl⟩) | (go_at_call 36; refine (pre_is _ _ true (by kernel_rfl) _).mono ?_; rintro e w' ⟨rfl, rfl⟩))
  go_ret
  exact ⟨by kernel_rfl, rfl⟩
set_option maxRecDepth 100000 in
set_option maxHeartbeats 4000000 in
theorem rep_4 (w : World) : Calls Tryz.prog 15 #[.string ⟨#[48]⟩, .int .i64 4] w fun e w' => e = .returned (.string (zs 4)) ∧ w' = w := by
  have HM := mul_of 4 mul64_4
  have K1 : Hid True := hide trivial
  have K2 : Hid True := hide trivial
  go_enter Tryz.func15, Tryz.ntmps15
  go_wp2_with (first | (go_at_call 35; refine (HM _).mono ?_; rintro e w' ⟨rfl, rfl⟩) | (go_at_call 36; clear K1; refine (pre_is _ _ false (by kernel_rfl) _).mono ?_; rintro e w' ⟨rfl, rfl⟩) | (go_at_call 36; clear K2; refine (pre_is _ _ false (by kernel_rfl) _).mono ?_; rintro e w' ⟨rfl, rfl⟩) | (go_at_call 36; refine (pre_is _ _ true (by kernel_rfl) _).mono ?_; rintro e w' ⟨rfl, rfl⟩))
  go_ret
  exact ⟨by kernel_rfl, rfl⟩
set_option maxRecDepth 100000 in
theorem rep_0 (w : World) : Calls Tryz.prog 15 #[.string ⟨#[48]⟩, .int .i64 0] w fun e w' => e = .returned (.string (zs 0)) ∧ w' = w := by
  go_enter Tryz.func15, Tryz.ntmps15
  go_wp2
  go_ret
  exact ⟨rfl, rfl⟩
set_option maxRecDepth 100000 in
theorem rep_1 (w : World) : Calls Tryz.prog 15 #[.string ⟨#[48]⟩, .int .i64 1] w fun e w' => e = .returned (.string (zs 1)) ∧ w' = w := by
  go_enter Tryz.func15, Tryz.ntmps15
  go_wp2
  go_ret
  exact ⟨rfl, rfl⟩
theorem rep_few (c : Nat) (hc : c ≤ 4) (w : World) : Calls Tryz.prog 15 #[.string ⟨#[48]⟩, .int .i64 (c : Int)] w fun e w' => e = .returned (.string (zs c)) ∧ w' = w := by
  match c, hc with
  | 0, _ => exact rep_0 w
  | 1, _ => exact rep_1 w
  | 2, _ => exact rep_2 w
  | 3, _ => exact rep_3 w
  | 4, _ => exact rep_4 w
end Snd
end Go.Proofs.YtamigjljgepfiaaGreatDoor
