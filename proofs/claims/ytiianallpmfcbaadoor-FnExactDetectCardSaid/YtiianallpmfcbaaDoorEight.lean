/- One step of the specification's reading of eight. -/
import Derived.Test.YtiianallpmfcbaaDoorReadP
import Derived.Test.YtiianallpmfcbaaDoorBegW
namespace Go.Proofs.YtiianallpmfcbaaDoor
open Go.RowKit
theorem RS.below {w w' : World} {B R u nb : Nat} (h : RS w B R u nb) (hb : Below w.heap.size w w') : RS w' B R u nb := by
  obtain ⟨vp, vb, np, xp, xb, hh, hop, hob, hnp, hBR, hd⟩ := h
  exact ⟨vp, vb, np, xp, xb, (hb.block R (Array.getElem?_eq_some_iff.1 hh).1).trans hh, ownsRow_below hop hb, ownsRow_below hob hb, hnp, hBR, hd⟩
theorem RS.drewN {w : World} {B R u nb : Nat} (h : RS w B R u nb) (n : Nat) : RS (w.drewN n) B R u nb := h.below (bdrew (Below.refl _ _) n)
theorem RS.used {w : World} {B R u nb : Nat} (h : RS w B R u nb) : w.cell? ⟨R, 2, none⟩ = some (.int .i64 u) := by
  obtain ⟨vp, vb, np, xp, xb, hh, _⟩ := h
  exact (read_cells hh).2.2.1
/-- One step: a point, or a broken piece. -/
def Step (s : ByteArray) (w : World) (B R u nb : Nat) (w' : World) : Prop :=
  ∃ u' nb', RS w' B R u' nb' ∧ Below B w w' ∧ u < u' ∧ u' ≤ s.size ∧ ((NB.okB (dP s u) (dN s u) = true ∧ u' = u + dN s u ∧ nb' = nb) ∨ (NB.okB (dP s u) (dN s u) = false ∧ nb' = nb + 1))
set_option maxHeartbeats 4000000 in
theorem eight_any (s : ByteArray) (w : World) (B R u nb : Nat) (h : RS w B R u nb) (hu : u < s.size) (hs : s.size ≤ 1048576) (hB : B ≤ w.heap.size) (hnb : nb ≤ 1048576) :
    Calls Tryd.prog 32 #[.pointer (some ⟨R, 0, none⟩), .string s, .bool true] w fun e w' => e = .returned (.bool true) ∧ Step s w B R u nb w' := by
  have HR := hide h
  have c2 := h.used
  have hbd := dN_bd s u hu
  have d1 := hbd.1
  have d2 := hbd.2.1
  clear h hbd
  go_enter Tryd.func32, Tryd.ntmps32
  go_wp2_with fail
  refine (NB.next_any s u _ hu hs).mono ?_
  rintro e w1 ⟨he, hb1⟩
  unfold NB.Ok3 at he
  subst he
  have HR1 := hide ((unhide HR).below hb1)
  have HB1 := hide (hb1.mono hB)
  have hs1 := hb1.size
  clear hb1 c2
  cases hok : NB.okB (dP s u : Int) (dN s u : Int)
  · have HOK := hide hok
    clear hok
    go_wp2
    go_loopw [8] (fun i wr => ∃ k : Nat, u + k ≤ s.size ∧ i = .int .i64 k ∧ Hid (RS wr B R u nb) ∧ Hid (Below B w wr)) (fun i _ => s.size - (intOf i).toNat)
    case atStart => exact ⟨0, by omega, rfl, HR1, HB1⟩
    case round =>
      obtain ⟨k, hk, rfl, HRk, HBk⟩ := hrel
      have c2 := (unhide HRk).used
      have hBk := (unhide HBk).size
      by_cases hlt : u + k < s.size
      · have hd : decide ((u : Int) + (k : Int) < (s.size : Int)) = true := decide_eq_true (by omega)
        have hlt' : (u : Int) + (k : Int) < (s.size : Int) := by omega
        have hlt2 : (u : Int) + (k : Int) + 1 ≤ (s.size : Int) := by omega
        have hsz : (s.extract u (u + k + 1)).size = k + 1 := by simp; omega
        by_cases hb : Beg (s.extract u (u + k + 1))
        · have CB := hide (fun W => begins_true (s.extract u (u + k + 1)) W (by omega) (by omega) hb)
          clear hb
          go_wp2_with fail
          go_quiet (first | (go_at_call 40; refine Calls.quiet_of_same ((unhide CB) _)))
          go_wp2
          go_roundw
          case rel => exact ⟨k + 1, by omega, by go_num, hide ((unhide HRk).drewN _), hide (bdrew (unhide HBk) _)⟩
          case measure => simp [intOf]; omega
        · have CB := hide (fun W => begins_false (s.extract u (u + k + 1)) W (by omega) (by omega) hb)
          clear hb
          have heq : ((u : Int) + (k : Int) == (s.size : Int)) = false := by rw [beq_eq_false_iff_ne]; omega
          go_wp2_with fail
          go_quiet (first | (go_at_call 40; refine Calls.quiet_of_same ((unhide CB) _)))
          by_cases hk0 : k = 0
          · have hk0' : ((k : Int) == 0) = true := by rw [beq_iff_eq]; omega
            go_wp2_with fail
            refine (piece_any _ B R u nb 1 ((unhide HRk).drewN _) (by first | omega | (simp; omega)) (by omega) (by omega) (by omega) (by omega)).mono ?_
            rintro e w2 ⟨rfl, hr, hb⟩
            have HR2 := hide hr
            have HB2 := hide (Below.trans (bdrew (unhide HBk) _) hb)
            clear hr hb
            go_wp2
            go_ret
            exact ⟨rfl, u + 1, nb + 1, unhide HR2, unhide HB2, by omega, by omega, .inr ⟨unhide HOK, rfl⟩⟩
          · have hk0' : ((k : Int) == 0) = false := by rw [beq_eq_false_iff_ne]; omega
            go_wp2_with fail
            refine (piece_any _ B R u nb k ((unhide HRk).drewN _) (by first | omega | (simp; omega)) (by omega) (by omega) (by omega) (by omega)).mono ?_
            rintro e w2 ⟨rfl, hr, hb⟩
            have HR2 := hide hr
            have HB2 := hide (Below.trans (bdrew (unhide HBk) _) hb)
            clear hr hb
            go_wp2
            go_ret
            exact ⟨rfl, u + k, nb + 1, unhide HR2, unhide HB2, by omega, by omega, .inr ⟨unhide HOK, rfl⟩⟩
      · have hd : decide ((u : Int) + (k : Int) < (s.size : Int)) = false := decide_eq_false (by omega)
        have heq : ((u : Int) + (k : Int) == (s.size : Int)) = true := by rw [beq_iff_eq]; omega
        go_wp2_with fail
        go_quiet (fail)
        have hk0' : ((k : Int) == 0) = false := by rw [beq_eq_false_iff_ne]; omega
        go_wp2_with fail
        refine (piece_any _ B R u nb k ((unhide HRk).drewN _) (by first | omega | (simp; omega)) (by omega) (by omega) (by omega) (by omega)).mono ?_
        rintro e w2 ⟨rfl, hr, hb⟩
        have HR2 := hide hr
        have HB2 := hide (Below.trans (bdrew (unhide HBk) _) hb)
        clear hr hb
        go_wp2
        go_ret
        exact ⟨rfl, u + k, nb + 1, unhide HR2, unhide HB2, by omega, by omega, .inr ⟨unhide HOK, rfl⟩⟩
  · have HOK := hide hok
    go_wp2_with fail
    refine (point_any _ B R u nb _ (dN s u) (unhide HR1) (by omega) d1 (by omega) (by omega)).mono ?_
    rintro e w2 ⟨rfl, hr, hb⟩
    have HR2 := hide hr
    have HB2 := hide ((unhide HB1).trans hb)
    clear hr hb
    go_wp2
    go_ret
    exact ⟨rfl, u + dN s u, nb, unhide HR2, unhide HB2, by omega, d2, .inl ⟨unhide HOK, rfl, rfl⟩⟩
end Go.Proofs.YtiianallpmfcbaaDoor
