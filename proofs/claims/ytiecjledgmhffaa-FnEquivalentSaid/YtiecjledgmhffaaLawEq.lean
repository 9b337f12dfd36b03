/- The law FnEquivalent. -/
import Derived.Test.YtiecjledgmhffaaEquT
import Derived.Test.YtiecjledgmhffaaDEqv
namespace Go.Proofs.Ytiecjledgmhffaa
open Go.RowKit
set_option maxHeartbeats 4000000 in
set_option maxRecDepth 100000 in
theorem lawEquivalent (w : World) (a : Option Addr) (len cap : Nat) (hc : Dr.CodeIn w a len) :
    Calls Try.prog 3 #[.slice a len cap] w fun e w' => e = .returned (.bool true) ∧ Below w.heap.size w w' := by
  by_cases hl : 1048576 < len
  · have hl' : (1048576 : Int) < (len : Int) := by omega
    go_enter Try.func3, Try.ntmps3
    go_wp2
    go_ret
    exact ⟨rfl, Below.refl _ _⟩
  · have hl' : (len : Int) ≤ 1048576 := by omega
    have HD := hide (Dr.drawEqv_any w a len cap (by omega) hc)
    clear hc
    go_enter Try.func3, Try.ntmps3
    go_wp2_with fail
    refine (unhide HD).mono ?_
    rintro e w1 ⟨s, t, rfl, hs, ht, hb⟩
    have B1 := hide hb
    clear hb HD hl hl'
    have CS := hide (fun W => specNormalize 2 s W (by omega))
    have CT := hide (fun W => specNormalize 2 t W (by omega))
    have I1 := hide (fun W => implNormalize 1 s W (by omega))
    have I2 := hide (fun W => implNormalize 2 s W (by omega))
    have E1 := hide (fun W => implEqv s t W (by omega) (by omega))
    have E2 := hide (fun W => implEqv t s W (by omega) (by omega))
    have HC := hide (eqv_comm s t)
    have HI := hide (fun (h : s.size ≤ 10000) (g : t.size ≤ 10000) => eqv_iff h g)
    have HD := hide (fun (h : s.size ≤ 10000) => eqv_d h)
    have HE := hide (fun (h : s.size ≤ 10000) => eqv_c h)
    have E3 := hide (fun W (h : (strOfNums (nmlOut 1 s)).size ≤ 65536) => implEqv s (strOfNums (nmlOut 1 s)) W (by omega) (by omega))
    have E4 := hide (fun W (h : (strOfNums (nmlOut 2 s)).size ≤ 65536) => implEqv s (strOfNums (nmlOut 2 s)) W (by omega) (by omega))
    generalize strOfNums (nmlOut 2 s) = x at *
    generalize strOfNums (nmlOut 2 t) = y at *
    generalize strOfNums (nmlOut 1 s) = z at *
    obtain ⟨q, hq, hq2⟩ : ∃ q : Bool, (x.toList == y.toList) = q ∧ decide (x = y) = q := by
      by_cases e : x = y
      · exact ⟨true, by rw [e]; simp, by rw [decide_eq_true e]⟩
      · exact ⟨false, str_ne e, by rw [decide_eq_false e]⟩
    rw [hq2] at HI
    clear hq2
    go_wp2_with fail
    refine ((unhide CS) _).mono ?_
    rintro e w2 ⟨rfl, hb⟩
    have B2 := hide ((unhide B1).trans (hb.mono (unhide B1).size))
    clear hb B1 CS
    go_wp2_with fail
    refine ((unhide CT) _).mono ?_
    rintro e w3 ⟨rfl, hb⟩
    have B3 := hide ((unhide B2).trans (hb.mono (unhide B2).size))
    clear hb B2 CT
    by_cases g1 : 10000 < s.size
    · have g1' : (10000 : Int) < (s.size : Int) := by omega
      clear HI HD HE HC
      go_wp2
      go_ret
      exact ⟨rfl, unhide B3⟩
    · have g1' : (s.size : Int) ≤ 10000 := by omega
      by_cases g2 : 10000 < t.size
      · have g2' : (10000 : Int) < (t.size : Int) := by omega
        clear HI HD HE HC
        go_wp2
        go_ret
        exact ⟨rfl, unhide B3⟩
      · have g2' : (t.size : Int) ≤ 10000 := by omega
        have e1 := (unhide HI) (by omega) (by omega)
        have e2 := unhide HC
        rw [e1] at e2
        have d := (unhide HD) (by omega)
        have c := (unhide HE) (by omega)
        have F1 := hide (fun W => (unhide E1) W)
        have F2 := hide (fun W => (unhide E2) W)
        have F3 := hide (fun W => (unhide E3) W d.2)
        have F4 := hide (fun W => (unhide E4) W c.2)
        rw [e1] at F1
        rw [← e2] at F2
        rw [d.1] at F3
        rw [c.1] at F4
        clear e1 e2 d c HI HD HE HC E1 E2 E3 E4
        cases q
        all_goals
          go_wp2_with fail
          refine ((unhide F1) _).mono ?_
          rintro e w4 ⟨rfl, hb⟩
          have B4 := hide ((unhide B3).trans (hb.mono (unhide B3).size))
          clear hb B3 F1
          go_wp2_with fail
          refine ((unhide F2) _).mono ?_
          rintro e w5 ⟨rfl, hb⟩
          have B5 := hide ((unhide B4).trans (hb.mono (unhide B4).size))
          clear hb B4 F2
          go_wp2_with fail
          refine ((unhide I1) _).mono ?_
          rintro e w6 ⟨rfl, hb⟩
          have B6 := hide ((unhide B5).trans (hb.mono (unhide B5).size))
          clear hb B5 I1
          go_wp2_with fail
          refine ((unhide F3) _).mono ?_
          rintro e w7 ⟨rfl, hb⟩
          have B7 := hide ((unhide B6).trans (hb.mono (unhide B6).size))
          clear hb B6 F3
          go_wp2_with fail
          refine ((unhide I2) _).mono ?_
          rintro e w8 ⟨rfl, hb⟩
          have B8 := hide ((unhide B7).trans (hb.mono (unhide B7).size))
          clear hb B7 I2
          go_wp2_with fail
          refine ((unhide F4) _).mono ?_
          rintro e w9 ⟨rfl, hb⟩
          have B9 := hide ((unhide B8).trans (hb.mono (unhide B8).size))
          clear hb B8 F4
          go_wp2
          go_ret
          exact ⟨rfl, unhide B9⟩
end Go.Proofs.Ytiecjledgmhffaa
