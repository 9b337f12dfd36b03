/- Two rows of spans alike, and a number out of a code, as the laws ask them. -/
import Derived.Test.YtbkeaoplncaihaaDoorSpnE
import Derived.Test.YtbkeaoplncaihaaDoorDSource
namespace Go.Proofs.YtbkeaoplncaihaaDoor
open Go.RowKit
set_option linter.unusedVariables false
theorem spn_ne (x y z : Int) (W : World) : (binOp .neq 33 (.agg #[.int .i64 x, .int .i64 y, .int .i64 z]) (.agg #[.int .i64 x, .int .i64 y, .int .i64 z])).run Tryd.prog W = .ok (.bool false) W := by
  simp [go_sem]
set_option maxHeartbeats 2000000 in
theorem lwSpans (v1 v2 : Value) (L : List Sp) (B1 B2 : Nat) (w : World) (h1 : SpRow w B1 v1 L) (h2 : SpRow w B2 v2 L) (hl : L.length ≤ 1048576) :
    Calls Tryd.prog 16 #[v1, v2] w fun e w' => e = .returned (.bool true) ∧ Below w.heap.size w w' := by
  obtain ⟨a1, c1, rfl, hg1⟩ := h1.form
  obtain ⟨a2, c2, rfl, hg2⟩ := h2.form
  have H1 := hide h1
  have H2 := hide h2
  have G1 := hide hg1
  have G2 := hide hg2
  clear h1 h2 hg1 hg2
  have hne : ((L.length : Int) != (L.length : Int)) = false := by simp
  go_enter Tryd.func16, Tryd.ntmps16
  go_wp2
  go_loopw [5] (fun i wr => ∃ k : Nat, k ≤ L.length ∧ i = .int .i64 k ∧ Hid (Below w.heap.size w wr)) (fun i _ => L.length - (intOf i).toNat)
  case atStart => exact ⟨0, Nat.zero_le _, rfl, hide (Below.refl _ _)⟩
  case round =>
    obtain ⟨k, hk, rfl, HB⟩ := hrel
    by_cases hlt : k < L.length
    · obtain ⟨g1, rfl, _, _⟩ := (unhide G1) (by omega)
      obtain ⟨g2, rfl, _, _⟩ := (unhide G2) (by omega)
      obtain ⟨x0, x1, x2⟩ := ((unhide H1).below (unhide HB)).read k hlt
      obtain ⟨y0, y1, y2⟩ := ((unhide H2).below (unhide HB)).read k hlt
      have hlt' : (k : Int) < (L.length : Int) := by omega
      have h0k : (0 : Int) ≤ (k : Int) := by omega
      generalize gx L k = r at *
      have hs := spn_ne r.1 r.2.1 r.2.2
      go_wp2
      go_quiet (fail)
      go_wp2
      go_roundw
      case rel => exact ⟨k + 1, by omega, by go_num, hide (bdrew (unhide HB) _)⟩
      case measure => simp [intOf]; omega
    · go_wp2
      go_ret
      exact ⟨rfl, unhide HB⟩
set_option maxHeartbeats 2000000 in
theorem lwAt_any (a : Option Addr) (len cap i : Nat) (w : World) (hc : Dr.CodeIn w a len) (hl : len ≤ 1048576) (hi : i ≤ 100) :
    Calls Tryd.prog 14 #[.slice a len cap, .int .i64 (i : Int), .int .i64 256] w fun e w' => ∃ z : Int, e = .returned (.int .i64 z) ∧ 0 ≤ z ∧ z < 256 ∧ w' = w := by
  rcases hc with h0 | ⟨cb, off, rfl, hcb, hc⟩
  · subst h0
    go_enter Tryd.func14, Tryd.ntmps14
    go_wp2
    go_ret
    exact ⟨0, rfl, by omega, by omega, rfl⟩
  · by_cases h0 : len = 0
    · subst h0
      go_enter Tryd.func14, Tryd.ntmps14
      go_wp2
      go_ret
      exact ⟨0, rfl, by omega, by omega, rfl⟩
    · have hz : ((len : Int) == 0) = false := by rw [beq_eq_false_iff_ne]; omega
      obtain ⟨z, hcell, hz0, hz1⟩ := hc (i % len) (Nat.mod_lt _ (by omega))
      have hm : (i : Int).tmod (len : Int) = ((i % len : Nat) : Int) := by rw [Int.tmod_eq_emod_of_nonneg (by omega)]; omega
      have hml := Nat.mod_lt i (show 0 < len by omega)
      generalize i % len = m at *
      have hm1 : (m : Int) < (len : Int) := by omega
      have hzm : z.tmod 256 = z := Int.tmod_eq_of_lt hz0 hz1
      have hne : ¬ (len : Int) = 0 := by omega
      go_enter Tryd.func14, Tryd.ntmps14
      go_wp2
      go_ret
      exact ⟨z, rfl, hz0, hz1, rfl⟩
end Go.Proofs.YtbkeaoplncaihaaDoor
