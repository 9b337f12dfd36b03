/- The law FnPoints returns true. -/
import Derived.Test.YtnfdkcphmolkiaaRoundW
import Derived.Test.YtnfdkcphmolkiaaDraw
namespace Go.Proofs.Ytnfdkcphmolkiaa
open Go.RowKit
theorem ptsOut_pt (s : ByteArray) : ∀ x ∈ ptsOut s, isPt x = true := by
  unfold ptsOut
  split
  · simp
  · exact pts_pt s
theorem ptsOut_text (l : List Int) (hl : ∀ x ∈ l, isPt x = true) (hn : l.length ≤ 1000) : ptsOut (strOfNums (outL l)) = l := by
  have e : outL l = textL l := by unfold outL; rw [if_neg (by omega)]
  rw [e]
  unfold ptsOut
  have := textL_le l
  rw [if_neg (by rw [strOfNums_size]; omega)]
  exact pts_text l hl
theorem outL_le (l : List Int) : (strOfNums (outL l)).size ≤ 4000 := by
  rw [strOfNums_size]
  unfold outL
  split
  · simp
  · have := textL_le l; omega
set_option maxHeartbeats 2000000 in
set_option maxRecDepth 100000 in
theorem lawPoints (w : World) (a : Option Addr) (len cap : Nat) (hc : CodeIn w a len) :
    Calls Try.prog 3 #[.slice a len cap] w fun e w' => e = .returned (.bool true) ∧ Below w.heap.size w w' := by
  by_cases hl : 1048576 < len
  · go_enter Try.func3, Try.ntmps3
    go_wp2
    go_ret
    exact ⟨rfl, Below.refl _ _⟩
  have H := hide hc
  clear hc
  have HLl : Hid (len ≤ 1048576) := hide (by omega)
  go_enter Try.func3, Try.ntmps3
  go_wp2_with fail
  refine (draw_any _ a len cap (unhide HLl) (unhide H)).mono ?_
  rintro e w1 ⟨t, rfl, ht, hb⟩
  have B1 := hide hb
  clear hb H
  obtain ⟨L, hL⟩ : ∃ L, ptsOut t = L := ⟨_, rfl⟩
  have hn := ptsOut_le t
  have HP := ptsOut_pt t
  rw [hL] at hn HP
  have HPt := hide HP
  have SP := hide (fun W => specPointsOf t W (by omega))
  have IM := hide (fun W => implPointsOf t W (by omega))
  rw [hL] at SP IM
  clear hL HP
  go_wp2_with fail
  refine ((unhide IM) _).mono ?_
  rintro e w2 ⟨g, rfl, ho, hb⟩
  have I2 := hide (IntsAt.owned ho)
  have B2 := hide ((unhide B1).trans (hb.mono (unhide B1).size))
  clear ho hb B1
  obtain ⟨ga, gc, hg, _⟩ := id (unhide I2)
  subst hg
  go_wp2_with fail
  refine ((unhide SP) _).mono ?_
  rintro e w3 ⟨v0, rfl, ho, hb⟩
  have I3 := hide ((unhide I2).below hb)
  have J3 := hide (IntsAt.owned ho)
  have B3 := hide ((unhide B2).trans (hb.mono (unhide B2).size))
  clear ho hb B2 I2
  go_wp2_with fail
  refine (eqInts _ _ L _ (unhide I3) (unhide J3) (by omega)).mono ?_
  rintro e w4 ⟨rfl, hb⟩
  have I4 := hide ((unhide I3).below hb)
  have B4 := hide ((unhide B3).trans (hb.mono (unhide B3).size))
  clear hb B3 I3 J3
  by_cases h1000 : 1000 < L.length
  · go_wp2_with fail
    refine ((unhide SP) _).mono ?_
    rintro e w5 ⟨v1, rfl, ho, hb⟩
    have I5 := hide ((unhide I4).below hb)
    have J5 := hide (IntsAt.owned ho)
    have B5 := hide ((unhide B4).trans (hb.mono (unhide B4).size))
    clear ho hb B4 I4
    go_wp2_with fail
    refine (eqInts _ _ L _ (unhide I5) (unhide J5) (by omega)).mono ?_
    rintro e w6 ⟨rfl, hb⟩
    have B6 := hide ((unhide B5).trans (hb.mono (unhide B5).size))
    clear hb B5 I5 J5
    go_wp2
    go_ret
    exact ⟨rfl, unhide B6⟩
  · have h1000' : L.length ≤ 1000 := by omega
    have IM2 := hide (fun W => implPointsOf (strOfNums (outL L)) W (by have := outL_le L; omega))
    rw [ptsOut_text L (unhide HPt) h1000'] at IM2
    go_wp2_with fail
    refine (implTextOf _ L _ (unhide I4) (by omega)).mono ?_
    rintro e w5 ⟨rfl, hb⟩
    have I5 := hide ((unhide I4).below hb)
    have B5 := hide ((unhide B4).trans (hb.mono (unhide B4).size))
    clear hb B4 I4
    go_wp2_with fail
    refine (specTextOf _ L _ (unhide I5) (by omega)).mono ?_
    rintro e w6 ⟨rfl, hb⟩
    have I6 := hide ((unhide I5).below hb)
    have B6 := hide ((unhide B5).trans (hb.mono (unhide B5).size))
    clear hb B5 I5
    generalize strOfNums (outL L) = T at *
    cases he : T.toList.isEmpty
    · go_wp2_with fail
      refine ((unhide IM2) _).mono ?_
      rintro e w7 ⟨v7, rfl, ho, hb⟩
      have I7 := hide ((unhide I6).below hb)
      have J7 := hide (IntsAt.owned ho)
      have B7 := hide ((unhide B6).trans (hb.mono (unhide B6).size))
      clear ho hb B6 I6
      go_wp2_with fail
      refine (eqInts _ _ L _ (unhide J7) (unhide I7) (by omega)).mono ?_
      rintro e w8 ⟨rfl, hb⟩
      have B8 := hide ((unhide B7).trans (hb.mono (unhide B7).size))
      clear hb B7 I7 J7
      go_wp2
      go_ret
      exact ⟨rfl, unhide B8⟩
    · go_wp2
      go_ret
      exact ⟨rfl, unhide B6⟩
end Go.Proofs.Ytnfdkcphmolkiaa
