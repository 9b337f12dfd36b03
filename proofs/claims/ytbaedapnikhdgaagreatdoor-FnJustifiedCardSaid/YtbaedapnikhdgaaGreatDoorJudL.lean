/- The law FnJustified: a drawn line made as wide as asked for is as wide, and beside blanks it is the line. -/
import Derived.Test.YtbaedapnikhdgaaGreatDoorJudD
namespace Go.Proofs.YtbaedapnikhdgaaGreatDoor
namespace Jud
open Go.RowKit Chr Wid Jus
set_option linter.unusedVariables false
set_option linter.unusedSimpArgs false
theorem bytes_eqJ {a b : ByteArray} (h : a.toList = b.toList) : a = b := by
  rw [Go.ByteArray.toList_eq, Go.ByteArray.toList_eq] at h
  apply ByteArray.ext
  exact Array.toList_inj.1 h
theorem str_neJ {a b : ByteArray} (h : a ≠ b) : (a.toList == b.toList) = false := by
  rw [beq_eq_false_iff_ne]
  exact fun e => h (bytes_eqJ e)
theorem joinJ {w V V2 : World} (h : Below w.heap.size w V) (hb : Below V.heap.size V V2) : Below w.heap.size w V2 := h.trans (hb.mono h.size)
set_option maxRecDepth 100000 in
set_option maxHeartbeats 4000000 in
theorem lawJd (a1 : Option Addr) (len1 cap1 : Nat) (w : World) (hc1 : Dr.CodeIn w a1 len1) (hl1 : len1 ≤ maxLen) (ht : TabAt w ∧ Wid.TabD w) :
    Calls Tryz.prog 3 #[.slice a1 len1 cap1] w fun e w' => e = .returned (.bool true) ∧ Below w.heap.size w w' := by
  unfold maxLen at hl1
  by_cases g1 : 1048576 < len1
  · have g1' : (1048576 : Int) < (len1 : Int) := by omega
    go_enter Tryz.func3, Tryz.ntmps3
    go_wp2
    go_ret
    exact ⟨rfl, Below.refl _ _⟩
  · have g1' : ¬ (1048576 : Int) < (len1 : Int) := by omega
    have DJ := hide (Dr.drawJ_any w a1 len1 cap1 (by omega) hc1)
    have HT := hide ht
    clear ht hc1
    go_enter Tryz.func3, Tryz.ntmps3
    go_wp2_with fail
    refine (unhide DJ).mono ?_
    rintro e w1 ⟨t, wd, rfl, htz, hb1⟩
    have B1 := hide hb1
    have SP := hide (fun W => specJ t wd W)
    have IM := hide (fun W h1 h2 => implJ t wd W h1 h2)
    have F1 := hide (ju_none t wd)
    have F2 := hide (ju_all t wd (by omega))
    have PT := hide (fun W => specPointsOf t W (by omega))
    have NT := hide (fun W => noBlanks t (by omega) W)
    have hPE : ptsOut t = pts t := by unfold ptsOut; rw [if_neg (by omega)]
    have hFW : few t = decide ((pts t).length ≤ 1000) := by unfold few; rw [decide_eq_true (show t.size ≤ 65536 by omega)]; rfl
    rw [hPE] at PT
    rw [hFW] at F1 F2
    clear hPE hFW hb1 DJ
    generalize ju t wd = T at *
    generalize pts t = L at *
    go_wp2_with fail
    refine ((unhide IM) _ ((unhide HT).1.below (unhide B1)) ((unhide HT).2.below (unhide B1))).mono ?_
    rintro e w2 ⟨rfl, hb2⟩
    have B2 := hide (joinJ (unhide B1) hb2)
    clear hb2 IM
    go_wp2_with fail
    refine ((unhide SP) _).mono ?_
    rintro e w3 ⟨rfl, hb3⟩
    have B3 := hide (joinJ (unhide B2) hb3)
    clear hb3 SP B1 B2
    by_cases c1 : wd < 0
    · obtain rfl : T = ⟨#[]⟩ := (unhide F1) (by omega)
      go_wp2
      go_ret
      exact ⟨rfl, unhide B3⟩
    · by_cases c2 : 1000 < wd
      · obtain rfl : T = ⟨#[]⟩ := (unhide F1) (by omega)
        go_wp2
        go_ret
        exact ⟨rfl, unhide B3⟩
      · by_cases c3 : 1000 < L.length
        · have c3' : (1000 : Int) < (L.length : Int) := by omega
          obtain rfl : T = ⟨#[]⟩ := (unhide F1) (by rw [decide_eq_false (by omega)]; rintro ⟨q, _⟩; cases q)
          go_wp2_with fail
          refine ((unhide PT) _).mono ?_
          rintro e w4 ⟨v4, rfl, ho4, hb4⟩
          obtain ⟨a4, k4, rfl⟩ := form_ownJ ho4
          have B4 := hide (joinJ (unhide B3) hb4)
          clear hb4 ho4
          go_wp2
          go_ret
          exact ⟨rfl, unhide B4⟩
        · have c3' : ¬ (1000 : Int) < (L.length : Int) := by omega
          go_wp2_with fail
          refine ((unhide PT) _).mono ?_
          rintro e w4 ⟨v4, rfl, ho4, hb4⟩
          obtain ⟨a4, k4, rfl⟩ := form_ownJ ho4
          have B4 := hide (joinJ (unhide B3) hb4)
          clear hb4 ho4
          by_cases c4 : T = t
          · subst c4
            go_wp2
            go_ret
            exact ⟨rfl, unhide B4⟩
          · obtain ⟨f1, f2, f3⟩ := (unhide F2) ⟨by rw [decide_eq_true (by omega)], by omega, by omega⟩ c4
            have c4' := str_neJ c4
            have WT := hide (fun W h1 h2 => implWide T W h1 h2)
            rw [if_neg (by omega), f1] at WT
            have NJ := hide (fun W => noBlanks T f3 W)
            rw [f2] at NJ
            clear f1 f2 f3 F1 F2 PT
            generalize NB t = Z at *
            go_wp2_with fail
            refine ((unhide WT) _ ((unhide HT).1.below (unhide B4)) ((unhide HT).2.below (unhide B4))).mono ?_
            rintro e w5 ⟨rfl, hb5⟩
            have B5 := hide (joinJ (unhide B4) hb5)
            clear hb5 WT
            go_wp2_with fail
            refine ((unhide NJ) _).mono ?_
            rintro e w6 ⟨rfl, hb6⟩
            have B6 := hide (joinJ (unhide B5) hb6)
            clear hb6 NJ
            go_wp2_with fail
            refine ((unhide NT) _).mono ?_
            rintro e w7 ⟨rfl, hb7⟩
            have B7 := hide (joinJ (unhide B6) hb7)
            clear hb7 NT
            go_wp2
            go_ret
            exact ⟨rfl, unhide B7⟩
end Jud
end Go.Proofs.YtbaedapnikhdgaaGreatDoor
