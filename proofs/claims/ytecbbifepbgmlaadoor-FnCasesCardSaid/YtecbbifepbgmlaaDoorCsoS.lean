/- CasesOf, as the specification tells it; the law of CasesOf. -/
import Derived.Test.YtecbbifepbgmlaaDoorCsoM
import Derived.Test.YtecbbifepbgmlaaDoorMH
namespace Go.Proofs.YtecbbifepbgmlaaDoor.Cas
open Go.RowKit
set_option linter.unusedVariables false
set_option maxRecDepth 100000 in
set_option maxHeartbeats 4000000 in
theorem rootS (p : Int) (w : World) (h0 : 0 ≤ p) (h1 : p ≤ 1114111) : Calls Tryd.prog 21 #[.int .i64 p] w fun e w' => e = .returned (.int .i64 (root p)) ∧ Below w.heap.size w w' := by
  have CB := hide (fun W => block_any p W h0 h1)
  have CL := hide (fun W => lower_any p W h0 h1)
  have hm : p.tmod 256 = p % 256 := Int.tmod_eq_emod_of_nonneg h0
  by_cases c : 0 < bl p ∧ p % 256 = 97
  · have HE : Hid (root p = p - 97 + 50) := hide (if_pos c)
    have c1 : (0 : Int) < bl p := c.1
    have c2 : (p % 256 == 97) = true := by simp [c.2]
    clear c
    generalize root p = R at *
    generalize bl p = b at *
    go_enter Tryd.func21, Tryd.ntmps21
    go_wp2_with (go_at_call 34; refine ((unhide CB) _).mono ?_; rintro e w1 ⟨rfl, hw⟩; obtain rfl := hw.symm; clear hw)
    go_ret
    exact ⟨by rw [unhide HE]; rfl, Below.refl _ _⟩
  · have HE : Hid (root p = lowS p) := hide (if_neg c)
    by_cases c1 : 0 < bl p
    · have c2 : (p % 256 == 97) = false := by
        rw [beq_eq_false_iff_ne]
        exact fun e => c ⟨c1, e⟩
      clear c
      generalize root p = R at *
      generalize bl p = b at *
      generalize lowS p = z at *
      go_enter Tryd.func21, Tryd.ntmps21
      go_wp2_with (first
        | (go_at_call 34; refine ((unhide CB) _).mono ?_; rintro e w1 ⟨rfl, hw⟩; obtain rfl := hw.symm; clear hw)
        | (go_at_call 35; refine ((unhide CL) _).mono ?_; rintro e w1 ⟨rfl, hb1⟩; have B1 := hide hb1; clear hb1))
      go_ret
      exact ⟨by rw [unhide HE]; rfl, unhide B1⟩
    · clear c
      generalize root p = R at *
      generalize bl p = b at *
      generalize lowS p = z at *
      go_enter Tryd.func21, Tryd.ntmps21
      go_wp2_with (first
        | (go_at_call 34; refine ((unhide CB) _).mono ?_; rintro e w1 ⟨rfl, hw⟩; obtain rfl := hw.symm; clear hw)
        | (go_at_call 35; refine ((unhide CL) _).mono ?_; rintro e w1 ⟨rfl, hb1⟩; have B1 := hide hb1; clear hb1))
      go_ret
      exact ⟨by rw [unhide HE]; rfl, unhide B1⟩
theorem fl_yes {p : Int} {k : Nat} (h : root (k : Int) = root p) : fl p (k + 1) = fl p k ++ [(k : Int)] := if_pos h
theorem fl_no {p : Int} {k : Nat} (h : ¬ root (k : Int) = root p) : fl p (k + 1) = fl p k := if_neg h
/-- What CasesOf of the specification tells. -/
def csT (p : Int) : List Int := if 0 ≤ p ∧ p ≤ 1114111 ∧ (p < 55296 ∨ 57343 < p) then csS p else []
theorem row_snocC {w3 : World} {B : Nat} {v' : Value} {L : List Int} {p : Int} (ho2 : w3.ownsRow B 2 1 v' (L.length + 1) (L.map (Value.int .i64) ++ [.int .i64 p])) : w3.ownsRow B 2 1 v' (L ++ [p]).length ((L ++ [p]).map (Value.int .i64)) := by
  simpa using ho2
theorem own_keptC {w w' : World} {B n : Nat} {v : Value} {xs : List Value} (h : w.ownsRow B 2 1 v n xs) (hb : Below w.heap.size w w') : w'.ownsRow B 2 1 v n xs := ownsRow_below h hb
set_option maxRecDepth 100000 in
set_option maxHeartbeats 4000000 in
theorem specCases (p : Int) (w : World) : Calls Tryd.prog 7 #[.int .i64 p] w fun e w' => ∃ v, e = .returned v ∧ w'.ownsRow w.heap.size 2 1 v (csT p).length ((csT p).map (Value.int .i64)) ∧ Below w.heap.size w w' := by
  obtain ⟨i0, hi, hz0, hz1, hz2⟩ := info_parts infoI
  have HO0 : Hid ((w.alloc (.cells #[] 2)).ownsRow w.heap.size 2 1 (.slice (some ⟨w.heap.size, 0, none⟩) 0 0) ([] : List Int).length (([] : List Int).map (Value.int .i64))) := hide (World.ownsRow_lit w #[] 0 (Nat.le_refl _) (by unfold maxLen; omega) rfl)
  have HB0 := hide ((Below.refl w.heap.size w).alloc (Nat.le_refl _) (.cells #[] 2))
  by_cases hp : pt p
  · have HR := hide (show csT p = csS p from if_pos hp)
    have CP := hide (fun W => ispt_s p W hp)
    have CR := hide (fun W => rootS p W hp.1 hp.2.1)
    have CX := hide (fun (x : Nat) (hx : x ≤ 32767) W => rootS (x : Int) W (by omega) (by omega))
    have HS : Hid (csS p = fl p 32768 ++ (if 32767 < p then [p] else [])) := hide rfl
    have HL := hide (fun k => fl_len p k)
    clear hp
    go_enter Tryd.func7, Tryd.ntmps7
    go_wp2_with (go_at_call 20; refine ((unhide CP) _).mono ?_; rintro e w' ⟨rfl, hw⟩; obtain rfl := hw.symm; clear hw)
    go_loopw [3, 4] (fun v xv wr => ∃ x : Nat, x ≤ 32768 ∧ xv = .int .i64 x ∧ Hid (wr.ownsRow w.heap.size 2 1 v (fl p x).length ((fl p x).map (Value.int .i64))) ∧ Hid (Below w.heap.size w wr)) (fun _ xv _ => 32768 - (intOf xv).toNat)
    case atStart => exact ⟨0, by omega, rfl, HO0, HB0⟩
    case round =>
      obtain ⟨x, hx, rfl, HO, HB⟩ := hrel
      clear HO0 HB0
      have hBs := (unhide HB).size
      have hll := (unhide HL) x
      by_cases hlt : x ≤ 32767
      · have hlt' : (x : Int) ≤ 32767 := by omega
        have CX1 := hide (fun W => (unhide CX) x hlt W)
        by_cases hr : root (x : Int) = root p
        · have HF := hide (fl_yes hr)
          have hr' : (root (x : Int) == root p) = true := by simp [hr]
          clear hr
          generalize root (x : Int) = a at *
          generalize root p = b at *
          go_wp2_with (first
            | (go_at_call_of 21 (x : Int); refine ((unhide CX1) _).mono ?_; rintro e w1 ⟨rfl, hb1⟩; have O1 := hide (own_keptC (unhide HO) hb1); have B1 := hide ((unhide HB).trans (hb1.mono hBs)); have z1 := Nat.le_trans hBs hb1.size; clear hb1 HO HB)
            | (go_at_call 21; refine ((unhide CR) _).mono ?_; rintro e w2 ⟨rfl, hb2⟩; have O2 := hide (own_keptC (unhide O1) hb2); have B2 := hide ((unhide B1).trans (hb2.mono z1)); have z2 := Nat.le_trans z1 hb2.size; clear hb2 O1 B1)
            | (at_builtin; refine wpList_append_own _ rfl _ _ 24 rfl w.heap.size 2 i0 (.int .i64 0) 1 8 Tryd.underlying24 hi hz0 hz1 hz2 rfl (by decide) _ _ _ rfl ((unhide O2).alloc _) ⟨w2.heap.size, 0, none⟩ 1 1 [.int .i64 (x : Int)] rfl rfl (cell_one_new _ _ _) (by intro u hu; simp at hu; subst hu; rfl) (by unfold maxLen; omega) (by omega) (by simp; omega) ?_))
          intro v' w3 hown' hgrow _
          have O3 := hide (row_snocC hown')
          have B3 := hide (((unhide B2).alloc z2 _).grown hgrow (Nat.le_trans z2 (le_al w2 _)) (fun m hm => ((unhide O2).lt m hm).1))
          clear hown' hgrow
          go_wp2
          go_roundw
          case rel => exact ⟨x + 1, by omega, by go_num, hide (by rw [unhide HF]; exact unhide O3), B3⟩
          case measure => simp [intOf]; omega
        · have HF := hide (fl_no hr)
          have hr' : (root (x : Int) == root p) = false := by simp [hr]
          clear hr
          generalize root (x : Int) = a at *
          generalize root p = b at *
          go_wp2_with (first
            | (go_at_call_of 21 (x : Int); refine ((unhide CX1) _).mono ?_; rintro e w1 ⟨rfl, hb1⟩; have O1 := hide (own_keptC (unhide HO) hb1); have B1 := hide ((unhide HB).trans (hb1.mono hBs)); have z1 := Nat.le_trans hBs hb1.size; clear hb1 HO HB)
            | (go_at_call 21; refine ((unhide CR) _).mono ?_; rintro e w2 ⟨rfl, hb2⟩; have O2 := hide (own_keptC (unhide O1) hb2); have B2 := hide ((unhide B1).trans (hb2.mono z1)); have z2 := Nat.le_trans z1 hb2.size; clear hb2 O1 B1))
          go_roundw
          case rel => exact ⟨x + 1, by omega, by go_num, hide (by rw [unhide HF]; exact unhide O2), B2⟩
          case measure => simp [intOf]; omega
      · obtain rfl : x = 32768 := by omega
        by_cases hq : 32767 < p
        · have e : csS p = fl p 32768 ++ [p] := by rw [unhide HS, if_pos hq]
          have HE := hide e
          clear e
          rw [show ((32768 : Nat) : Int) = 32768 from rfl]
          go_wp2_with (at_builtin; refine wpList_append_own _ rfl _ _ 24 rfl w.heap.size 2 i0 (.int .i64 0) 1 8 Tryd.underlying24 hi hz0 hz1 hz2 rfl (by decide) _ _ _ rfl ((unhide HO).alloc _) ⟨wr.heap.size, 0, none⟩ 1 1 [.int .i64 p] rfl rfl (cell_one_new _ _ _) (by intro u hu; simp at hu; subst hu; rfl) (by unfold maxLen; omega) (by omega) (by simp; omega) ?_)
          intro v' w3 hown' hgrow _
          have O3 := hide (row_snocC hown')
          have B3 := hide (((unhide HB).alloc hBs _).grown hgrow (Nat.le_trans hBs (le_al wr _)) (fun m hm => ((unhide HO).lt m hm).1))
          clear hown' hgrow
          go_wp2
          go_ret
          exact ⟨_, rfl, by rw [unhide HR, unhide HE]; exact unhide O3, unhide B3⟩
        · have e : csS p = fl p 32768 := by rw [unhide HS, if_neg hq, List.append_nil]
          have HE := hide e
          clear e
          rw [show ((32768 : Nat) : Int) = 32768 from rfl]
          go_wp2
          go_ret
          exact ⟨_, rfl, by rw [unhide HR, unhide HE]; exact unhide HO, unhide HB⟩
  · have HR := hide (show csT p = [] from if_neg hp)
    have C := hide (fun W => nopt_s p W hp)
    clear hp
    go_enter Tryd.func7, Tryd.ntmps7
    go_wp2_with (go_at_call 20; refine ((unhide C) _).mono ?_; rintro e w' ⟨rfl, hw⟩; obtain rfl := hw.symm; clear hw)
    go_ret
    exact ⟨_, rfl, by rw [unhide HR]; exact unhide HO0, unhide HB0⟩
end Go.Proofs.YtecbbifepbgmlaaDoor.Cas
