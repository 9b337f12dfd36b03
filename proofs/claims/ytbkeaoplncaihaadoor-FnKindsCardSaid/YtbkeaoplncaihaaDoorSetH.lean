/- Whether a set has a point; the law of SetHas. -/
import Derived.Test.YtbkeaoplncaihaaDoorSpnF
namespace Go.Proofs.YtbkeaoplncaihaaDoor
open Go.RowKit
def hasB (L : List Sp) (p : Int) : Bool := right L && has L p
theorem ret_bool {a b : Bool} (h : a = b) : Ending.returned (.bool a) = .returned (.bool b) := by rw [h]
theorem fault_right {L : List Sp} (h : right L = true) : faultOf L = 0 := if_pos h
theorem fault_wrong {L : List Sp} (h : right L = false) : faultOf L = 1 := by unfold faultOf; rw [if_neg (by rw [h]; exact Bool.false_ne_true)]
set_option maxHeartbeats 1000000 in
theorem implHas (v : Value) (L : List Sp) (p : Int) (B : Nat) (w : World) (h : SpRow w B v L) (hl : L.length ≤ 1048576) :
    Calls Tryd.prog 18 #[v, .int .i64 p] w fun e w' => e = .returned (.bool (hasB L p)) ∧ Below w.heap.size w w' := by
  have H := hide h
  clear h
  cases hr : right L
  · have hf := fault_wrong hr
    have HN : Hid (hasB L p = false) := hide (by unfold hasB; rw [hr]; rfl)
    go_enter Tryd.func18, Tryd.ntmps18
    go_wp2_with fail
    refine (implFault _ L _ _ (unhide H) hl).mono ?_
    rintro e w1 ⟨rfl, hb⟩
    rw [hf]
    have HB := hide hb
    clear hb
    go_wp2
    go_ret
    exact ⟨ret_bool (unhide HN).symm, unhide HB⟩
  · have hf := fault_right hr
    have HN : Hid (hasB L p = has L p) := hide (by unfold hasB; rw [hr]; rfl)
    obtain ⟨a, c, rfl, hg⟩ := (unhide H).form
    have G := hide hg
    clear hg
    go_enter Tryd.func18, Tryd.ntmps18
    go_wp2_with fail
    refine (implFault _ L _ _ (unhide H) hl).mono ?_
    rintro e w1 ⟨rfl, hb⟩
    rw [hf]
    have HB := hide hb
    have H1 := hide ((unhide H).below hb)
    clear hb
    go_wp2
    go_loopw [12] (fun i wr => ∃ k : Nat, k ≤ L.length ∧ i = .int .i64 k ∧ Hid (has L p = hasAt L k p) ∧ Hid (Below w1.heap.size w1 wr)) (fun i _ => L.length - (intOf i).toNat)
    case atStart => exact ⟨0, Nat.zero_le _, rfl, hide rfl, hide (Below.refl _ _)⟩
    case round =>
      obtain ⟨k, hk, rfl, HR, HC⟩ := hrel
      by_cases hlt : k < L.length
      · obtain ⟨g1, rfl, _, _⟩ := (unhide G) (by omega)
        obtain ⟨x0, x1, x2⟩ := ((unhide H1).below (unhide HC)).read k hlt
        have hlt' : (k : Int) < (L.length : Int) := by omega
        have HS := hide (hasAt_step L k p hlt)
        have HB' := fun o => hide ((unhide HC).alloc (unhide HC).size o)
        obtain ⟨⟨x, y, z⟩, hr⟩ : ∃ r, gx L k = r := ⟨_, rfl⟩
        rw [hr] at x0 x1 x2 HS
        simp only at x0 x1 x2 HS
        clear hr
        by_cases c1 : x ≤ p
        · by_cases c2 : p ≤ y
          · have HT : Hid (has L p = true) := hide (by rw [unhide HR, unhide HS, decide_eq_true c1, decide_eq_true c2]; rfl)
            clear HS HR
            go_wp2
            go_ret
            exact ⟨ret_bool ((unhide HN).trans (unhide HT)).symm, (unhide HB).trans ((unhide (HB' _)).mono (unhide HB).size)⟩
          · have HT : Hid (has L p = hasAt L (k + 1) p) := hide (by rw [unhide HR, unhide HS, decide_eq_false c2]; simp)
            clear HS HR
            go_wp2
            go_roundw
            case rel => exact ⟨k + 1, by omega, by go_num, HT, HB' _⟩
            case measure => simp [intOf]; omega
        · have HT : Hid (has L p = hasAt L (k + 1) p) := hide (by rw [unhide HR, unhide HS, decide_eq_false c1]; simp)
          clear HS HR
          go_wp2
          go_roundw
          case rel => exact ⟨k + 1, by omega, by go_num, HT, HB' _⟩
          case measure => simp [intOf]; omega
      · have HT : Hid (has L p = false) := hide (by rw [unhide HR, hasAt_end L k p hlt])
        go_wp2
        go_ret
        exact ⟨ret_bool ((unhide HN).trans (unhide HT)).symm, (unhide HB).trans ((unhide HC).mono (unhide HB).size)⟩
end Go.Proofs.YtbkeaoplncaihaaDoor
