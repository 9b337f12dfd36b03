/- Measures: spans whose values are within bounds. -/
import Derived.Test.YtccnjjkechdknaaSpnF
import Derived.Test.YtccnjjkechdknaaFrlI
namespace Go.Proofs.Ytccnjjkechdknaa.Fnt
open Go.RowKit
set_option linter.unusedVariables false
/-- The first k values are within bounds. -/
def mk (lo : Int) (L : List Sp) : Nat → Bool
  | 0 => true
  | k + 1 => mk lo L k && (decide (lo ≤ (gx L k).2.2) && decide ((gx L k).2.2 ≤ 1000))
def msr (lo : Int) (L : List Sp) : Bool := (faultOf L == 0) && mk lo L L.length
theorem mk_bad {lo : Int} {L : List Sp} {k n : Nat} (h : k < n) (hb : (decide (lo ≤ (gx L k).2.2) && decide ((gx L k).2.2 ≤ 1000)) = false) : mk lo L n = false := by
  induction n with
  | zero => omega
  | succ n ih =>
    unfold mk
    by_cases e : k = n
    · subst e; rw [hb, Bool.and_false]
    · rw [ih (by omega), Bool.false_and]
theorem msr_fault {lo : Int} {L : List Sp} (h : faultOf L = 1) : msr lo L = false := by unfold msr; rw [h]; rfl
theorem msr_bad {lo : Int} {L : List Sp} {k : Nat} (h : k < L.length) (hb : (decide (lo ≤ (gx L k).2.2) && decide ((gx L k).2.2 ≤ 1000)) = false) : msr lo L = false := by unfold msr; rw [mk_bad h hb, Bool.and_false]
theorem msr_ok {lo : Int} {L : List Sp} (h : faultOf L = 0) (hb : mk lo L L.length = true) : msr lo L = true := by unfold msr; rw [h, hb]; rfl
theorem fault_is (L : List Sp) : faultOf L = 0 ∨ faultOf L = 1 := by
  unfold faultOf
  split
  · exact .inl rfl
  · exact .inr rfl
set_option maxRecDepth 100000 in
set_option maxHeartbeats 4000000 in
theorem areM_any (v : Value) (L : List Sp) (lo : Int) (B : Nat) (w : World) (h : SpRow w B v L) (hl : L.length ≤ 1048576) :
    Calls Try.prog 28 #[v, .int .i64 lo] w fun e w' => e = .returned (.bool (msr lo L)) ∧ Below w.heap.size w w' := by
  have CF := hide (implFault v L B w h hl)
  obtain ⟨a, c, rfl, hg⟩ := h.form
  have H := hide h
  have G := hide hg
  clear h hg
  rcases fault_is L with hf | hf
  · rw [hf] at CF
    have HBad := hide (fun k hk hb => msr_bad (lo := lo) (L := L) (k := k) hk hb)
    have HOk := hide (fun hb => msr_ok (lo := lo) (L := L) hf hb)
    generalize msr lo L = Z at *
    clear hf
    go_enter Try.func28, Try.ntmps28
    go_wp2_with fail
    refine (unhide CF).mono ?_
    rintro e w1 ⟨rfl, hb1⟩
    have B1 := hide hb1
    clear hb1 CF
    go_wp2
    go_loopw [12] (fun i wr => ∃ k : Nat, k ≤ L.length ∧ i = .int .i64 k ∧ Hid (mk lo L k = true) ∧ Hid (Below w.heap.size w wr)) (fun i _ => L.length - (intOf i).toNat)
    case atStart => exact ⟨0, Nat.zero_le _, rfl, hide rfl, B1⟩
    case round =>
      obtain ⟨k, hk, rfl, HK, HB⟩ := hrel
      clear B1
      by_cases hlt : k < L.length
      · have hlt' : (k : Int) < (L.length : Int) := by omega
        obtain ⟨g, rfl, _, hgs⟩ := (unhide G) (by omega)
        obtain ⟨x0, x1, x2⟩ := ((unhide H).below (unhide HB)).read k hlt
        have CW := hide (fun W => Frl.within_any (gx L k).2.2 lo 1000 W)
        have hB := (unhide HBad) k hlt
        have hK : Hid ((decide (lo ≤ (gx L k).2.2) && decide ((gx L k).2.2 ≤ 1000)) = true → mk lo L (k + 1) = true) := hide (fun e => by
          unfold mk
          rw [unhide HK, e]; rfl)
        have HB2 := hide hB
        have B2 := hide ((unhide HB).alloc (unhide HB).size (.cells #[.int .i64 (gx L k).1, .int .i64 (gx L k).2.1, .int .i64 (gx L k).2.2] 79))
        clear hB
        generalize (decide (lo ≤ (gx L k).2.2) && decide ((gx L k).2.2 ≤ 1000)) = o at *
        generalize gx L k = r at *
        cases o
        · have HZ := hide ((unhide HB2) rfl)
          go_wp2_with fail
          refine ((unhide CW) _).mono ?_
          rintro e w2 ⟨rfl, e2⟩
          have e3 := e2.symm
          subst e3
          clear e2
          go_wp2
          go_ret
          exact ⟨by rw [unhide HZ]; rfl, unhide B2⟩
        · have HK2 := hide ((unhide hK) rfl)
          go_wp2_with fail
          refine ((unhide CW) _).mono ?_
          rintro e w2 ⟨rfl, e2⟩
          have e3 := e2.symm
          subst e3
          clear e2
          go_wp2
          go_roundw
          case rel => exact ⟨k + 1, by omega, by go_num, HK2, B2⟩
          case measure => simp [intOf]; omega
      · obtain rfl : k = L.length := by omega
        have HZ := hide ((unhide HOk) (unhide HK))
        go_wp2
        go_ret
        exact ⟨by rw [unhide HZ]; rfl, unhide HB⟩
  · rw [hf] at CF
    have HZ := hide (msr_fault (lo := lo) hf)
    generalize msr lo L = Z at *
    clear hf
    go_enter Try.func28, Try.ntmps28
    go_wp2_with fail
    refine (unhide CF).mono ?_
    rintro e w1 ⟨rfl, hb1⟩
    have B1 := hide hb1
    clear hb1 CF
    go_wp2
    go_ret
    exact ⟨by rw [unhide HZ]; rfl, unhide B1⟩
set_option maxRecDepth 100000 in
set_option maxHeartbeats 4000000 in
theorem l10Sp_any (v : Value) (L : List Sp) (lo : Int) (B : Nat) (w : World) (h : SpRow w B v L) (hl : L.length ≤ 1048576) :
    Calls Try.prog 23 #[v, .int .i64 lo, .int .i64 1000] w fun e w' => e = .returned (.bool (msr lo L)) ∧ Below w.heap.size w w' := by
  have CF := hide (specFault v L B w h hl)
  obtain ⟨a, c, rfl, hg⟩ := h.form
  have H := hide h
  have G := hide hg
  have HBad := hide (fun k hk hb => msr_bad (lo := lo) (L := L) (k := k) hk hb)
  have HOk := hide (fun hf hb => msr_ok (lo := lo) (L := L) hf hb)
  have HNo := hide (fun hf => msr_fault (lo := lo) (L := L) hf)
  have HF := hide (fault_is L)
  generalize faultOf L = F at *
  generalize msr lo L = Z at *
  clear h hg
  go_enter Try.func23, Try.ntmps23
  go_wp2
  go_loopw [7] (fun i wr => ∃ k : Nat, k ≤ L.length ∧ i = .int .i64 k ∧ Hid (mk lo L k = true) ∧ wr = w) (fun i _ => L.length - (intOf i).toNat)
  case atStart => exact ⟨0, Nat.zero_le _, rfl, hide rfl, rfl⟩
  case round =>
    obtain ⟨k, hk, rfl, HK, rfl⟩ := hrel
    by_cases hlt : k < L.length
    · have hlt' : (k : Int) < (L.length : Int) := by omega
      obtain ⟨g, rfl, _, hgs⟩ := (unhide G) (by omega)
      obtain ⟨x0, x1, x2⟩ := (unhide H).read k hlt
      have hB := (unhide HBad) k hlt
      have hK : Hid ((decide (lo ≤ (gx L k).2.2) && decide ((gx L k).2.2 ≤ 1000)) = true → mk lo L (k + 1) = true) := hide (fun e => by
        unfold mk
        rw [unhide HK, e]; rfl)
      have HB2 := hide hB
      clear hB x0 x1
      generalize (gx L k).2.2 = z at *
      by_cases t1 : z < lo
      · have HZ := hide ((unhide HB2) (by rw [decide_eq_false (by omega), Bool.false_and]))
        go_wp2
        go_ret
        exact ⟨by rw [unhide HZ]; rfl, Below.refl _ _⟩
      by_cases t2 : 1000 < z
      · have HZ := hide ((unhide HB2) (by rw [decide_eq_false (by omega : ¬ z ≤ 1000), Bool.and_false]))
        go_wp2
        go_ret
        exact ⟨by rw [unhide HZ]; rfl, Below.refl _ _⟩
      · have HK2 := hide ((unhide hK) (by rw [decide_eq_true (by omega), decide_eq_true (by omega)]; rfl))
        go_wp2
        go_roundw
        case rel => exact ⟨k + 1, by omega, by go_num, HK2, trivial⟩
        case measure => simp [intOf]; omega
    · obtain rfl : k = L.length := by omega
      rcases unhide HF with hf | hf
      · have HZ := hide ((unhide HOk) hf (unhide HK))
        rw [hf] at CF
        clear hf
        go_wp2_with fail
        refine (unhide CF).mono ?_
        rintro e w1 ⟨rfl, hb1⟩
        have B1 := hide hb1
        clear hb1 CF
        go_wp2
        go_ret
        exact ⟨by rw [unhide HZ]; rfl, unhide B1⟩
      · have HZ := hide ((unhide HNo) hf)
        rw [hf] at CF
        clear hf
        go_wp2_with fail
        refine (unhide CF).mono ?_
        rintro e w1 ⟨rfl, hb1⟩
        have B1 := hide hb1
        clear hb1 CF
        go_wp2
        go_ret
        exact ⟨by rw [unhide HZ]; rfl, unhide B1⟩
end Go.Proofs.Ytccnjjkechdknaa.Fnt
