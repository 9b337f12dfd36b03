/- Two rows alike, as the laws ask it. -/
import Derived.Test.YtbkeaoplncaihaaDoorIntA
namespace Go.Proofs.YtbkeaoplncaihaaDoor
open Go.RowKit
set_option maxHeartbeats 1000000 in
theorem lwSame_nil (a b : Option Addr) (c d : Nat) (l : List Int) (w : World) (h0 : l.length = 0) :
    Calls Tryd.prog 9 #[.slice a l.length c, .slice b l.length d] w fun e w' => e = .returned (.bool true) ∧ Below w.heap.size w w' := by
  have H0 := hide h0
  clear h0
  have hl : l.length ≤ 1048576 := by rw [unhide H0]; omega
  have hne : ((l.length : Int) != (l.length : Int)) = false := by simp
  go_enter Tryd.func9, Tryd.ntmps9
  go_wp2
  go_loopw [5] (fun i wr => ∃ k : Nat, k ≤ l.length ∧ i = .int .i64 k ∧ Hid (Below w.heap.size w wr)) (fun i _ => l.length - (intOf i).toNat)
  case atStart => exact ⟨0, Nat.zero_le _, rfl, hide (Below.refl _ _)⟩
  case round =>
    obtain ⟨k, hk, rfl, HB⟩ := hrel
    have hge : ¬ k < l.length := by have := unhide H0; omega
    go_wp2
    go_ret
    exact ⟨rfl, unhide HB⟩
set_option maxHeartbeats 1000000 in
theorem lwSame_at (b1 o1 b2 o2 c d : Nat) (l : List Int) (w : World) (hb1 : b1 < w.heap.size) (hc1 : ∀ i, i < l.length → w.cell? ⟨b1, o1 + i, none⟩ = some (.int .i64 (nth l i)))
    (hb2 : b2 < w.heap.size) (hc2 : ∀ i, i < l.length → w.cell? ⟨b2, o2 + i, none⟩ = some (.int .i64 (nth l i))) (hl : l.length ≤ 1048576) :
    Calls Tryd.prog 9 #[.slice (some ⟨b1, o1, none⟩) l.length c, .slice (some ⟨b2, o2, none⟩) l.length d] w fun e w' => e = .returned (.bool true) ∧ Below w.heap.size w w' := by
  have H1 := hide hc1
  have H2 := hide hc2
  clear hc1 hc2
  have hne : ((l.length : Int) != (l.length : Int)) = false := by simp
  go_enter Tryd.func9, Tryd.ntmps9
  go_wp2
  go_loopw [5] (fun i wr => ∃ k : Nat, k ≤ l.length ∧ i = .int .i64 k ∧ Hid (Below w.heap.size w wr)) (fun i _ => l.length - (intOf i).toNat)
  case atStart => exact ⟨0, Nat.zero_le _, rfl, hide (Below.refl _ _)⟩
  case round =>
    obtain ⟨k, hk, rfl, HB⟩ := hrel
    by_cases hlt : k < l.length
    · have c1 := ((unhide HB).cell (p := ⟨b1, o1 + k, none⟩) hb1).trans ((unhide H1) k hlt)
      have c2 := ((unhide HB).cell (p := ⟨b2, o2 + k, none⟩) hb2).trans ((unhide H2) k hlt)
      have hne2 : (nth l k != nth l k) = false := by simp
      go_wp2
      go_quiet (fail)
      go_wp2
      go_roundw
      case rel => exact ⟨k + 1, by omega, by go_num, hide (bdrew (unhide HB) _)⟩
      case measure => simp [intOf]; omega
    · go_wp2
      go_ret
      exact ⟨rfl, unhide HB⟩
theorem lwSame (v1 v2 : Value) (l : List Int) (w : World) (h1 : IntsAt w v1 l) (h2 : IntsAt w v2 l) (hl : l.length ≤ 1048576) :
    Calls Tryd.prog 9 #[v1, v2] w fun e w' => e = .returned (.bool true) ∧ Below w.heap.size w w' := by
  obtain ⟨a1, c1, rfl, h1⟩ := h1
  obtain ⟨a2, c2, rfl, h2⟩ := h2
  rcases h1 with h1 | ⟨b1, o1, rfl, hb1, hc1⟩
  · exact lwSame_nil a1 a2 c1 c2 l w (by rw [h1]; rfl)
  · rcases h2 with h2 | ⟨b2, o2, rfl, hb2, hc2⟩
    · exact lwSame_nil _ a2 c1 c2 l w (by rw [h2]; rfl)
    · exact lwSame_at b1 o1 b2 o2 c1 c2 l w hb1 hc1 hb2 hc2 hl
end Go.Proofs.YtbkeaoplncaihaaDoor
