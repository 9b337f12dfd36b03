/- Are spans right? The program's answer and the specification's. -/
import Derived.Test.YtbkeaoplncaihaaDoorSpnE
import Derived.Deep.Cut
namespace Go.Proofs.YtbkeaoplncaihaaDoor
open Go.RowKit
theorem fault_long {L : List Sp} (h : 1000 < L.length) : faultOf L = 1 := by
  unfold faultOf right
  rw [decide_eq_false (by omega)]
  rfl
theorem fault_ok {L : List Sp} (h : L.length ≤ 1000) (ho : okAt L 0 = true) : faultOf L = 0 := by
  unfold faultOf right
  rw [← okAt_zero, ho, decide_eq_true h]
  rfl
theorem fault_no {L : List Sp} (ho : okAt L 0 = false) : faultOf L = 1 := by
  unfold faultOf right
  rw [← okAt_zero, ho, Bool.and_false]
  rfl
set_option maxHeartbeats 4000000 in
theorem implFault (v : Value) (L : List Sp) (B : Nat) (w : World) (h : SpRow w B v L) (hl : L.length ≤ 1048576) :
    Calls Tryd.prog 35 #[v] w fun e w' => e = .returned (.int .i64 (faultOf L)) ∧ Below w.heap.size w w' := by
  obtain ⟨a, c, rfl, hg⟩ := h.form
  have H := hide h
  have G := hide hg
  clear h hg
  by_cases hL : 1000 < L.length
  · have hL' : (1000 : Int) < (L.length : Int) := by omega
    rw [fault_long hL]
    go_enter Tryd.func35, Tryd.ntmps35
    go_wp2
    go_ret
    exact ⟨rfl, Below.refl _ _⟩
  · have hL' : ¬ (1000 : Int) < (L.length : Int) := by omega
    go_enter Tryd.func35, Tryd.ntmps35
    go_wp2
    go_loopw [3, 11] (fun ev i wr => ∃ k : Nat, k ≤ L.length ∧ i = .int .i64 k ∧ ev = .int .i64 (endAt L k) ∧ Hid (okAt L 0 = okAt L k) ∧ Hid (Below w.heap.size w wr)) (fun _ i _ => L.length - (intOf i).toNat)
    case atStart => exact ⟨0, Nat.zero_le _, rfl, rfl, hide rfl, hide (Below.refl _ _)⟩
    case round =>
      obtain ⟨k, hk, rfl, rfl, HR, HB⟩ := hrel
      by_cases hlt : k < L.length
      · obtain ⟨g1, rfl, _, _⟩ := (unhide G) (by omega)
        obtain ⟨x0, x1, x2⟩ := ((unhide H).below (unhide HB)).read k hlt
        have hlt' : (k : Int) < (L.length : Int) := by omega
        have HS := hide (okAt_step L k hlt)
        have HE : Hid (endAt L (k + 1) = (gx L k).2.1) := hide rfl
        have HB' := fun o => hide ((unhide HB).alloc (unhide HB).size o)
        generalize gx L k = r at *
        generalize endAt L k = en at *
        by_cases c1 : r.1 ≤ en
        · have HN : Hid (okAt L 0 = false) := hide (by rw [unhide HR, unhide HS, decide_eq_false (by omega)]; simp)
          go_wp2
          go_ret
          exact ⟨ret_int (fault_no (unhide HN)).symm, unhide (HB' _)⟩
        · by_cases c2 : r.2.1 < r.1
          · have HN : Hid (okAt L 0 = false) := hide (by rw [unhide HR, unhide HS, decide_eq_false (show ¬ r.1 ≤ r.2.1 by omega)]; simp)
            go_wp2
            go_ret
            exact ⟨ret_int (fault_no (unhide HN)).symm, unhide (HB' _)⟩
          · by_cases c3 : 32767 < r.2.1
            · have HN : Hid (okAt L 0 = false) := hide (by rw [unhide HR, unhide HS, decide_eq_false (show ¬ r.2.1 ≤ 32767 by omega)]; simp)
              go_wp2
              go_ret
              exact ⟨ret_int (fault_no (unhide HN)).symm, unhide (HB' _)⟩
            · have HN : Hid (okAt L 0 = okAt L (k + 1)) := hide (by rw [unhide HR, unhide HS, decide_eq_true (show en < r.1 by omega), decide_eq_true (show r.1 ≤ r.2.1 by omega), decide_eq_true (show r.2.1 ≤ 32767 by omega)]; simp)
              go_wp2
              go_roundw
              case rel => exact ⟨k + 1, by omega, by go_num, by rw [unhide HE], HN, HB' _⟩
              case measure => simp [intOf]; omega
      · have HN : Hid (okAt L 0 = true) := hide (by rw [unhide HR, okAt_end L k hlt])
        go_wp2
        go_ret
        exact ⟨ret_int (fault_ok (by omega) (unhide HN)).symm, unhide HB⟩
theorem endAt_pos (L : List Sp) (k : Nat) (h : 0 < k) : endAt L k = (gx L (k - 1)).2.1 := by
  match k, h with
  | k + 1, _ => rfl
end Go.Proofs.YtbkeaoplncaihaaDoor
