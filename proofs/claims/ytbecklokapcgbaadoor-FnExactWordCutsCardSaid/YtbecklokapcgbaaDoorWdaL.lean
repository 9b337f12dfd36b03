/- The law of WordCuts. -/
import Derived.Test.YtbecklokapcgbaaDoorWdaM
namespace Go.Proofs.YtbecklokapcgbaaDoor
namespace Wrd
open Go.RowKit
set_option linter.unusedVariables false
set_option maxRecDepth 100000 in
set_option maxHeartbeats 16000000 in
theorem lawWC (s : ByteArray) (vt : Value) (T : List Tl) (w : World) (hv : TlAt w vt T) (hTl : T.length ≤ 9223372036854775807) (ht : TabAt w) :
    Calls Tryd.prog 3 #[.string s, vt] w fun e w' => e = .returned (.bool true) ∧ Below w.heap.size w w' := by
  have HV := hide hv
  have CZ := hide (szTl vt T 1048576 w hv hTl (Nat.le_refl _))
  obtain ⟨ta, tc, rfl, _⟩ := hv
  by_cases hs : s.size ≤ 1048576
  · have hs' : ¬ (1048576 : Int) < (s.size : Int) := by omega
    have HT := hide ht
    clear ht
    have hn := wcO_le s T
    have CS := fun V W h1 h2 => specWC s V T W hs h1 h2
    have CI := fun V W h1 h2 h3 => implWC s V T W h1 hs h2 h3
    obtain ⟨L, hL⟩ : ∃ L, wcO s T = L := ⟨_, rfl⟩
    rw [hL] at hn
    simp only [hL] at CS CI
    have SP := hide CS
    have IM := hide CI
    clear CS CI hL hs
    have hm : (1 + (L.length : Int) != 1 + (L.length : Int)) = false := by simp
    have h0 : ¬ (1 + (L.length : Int) < 0) := by omega
    go_enter Tryd.func3, Tryd.ntmps3
    go_wp2_with fail
    refine (unhide CZ).mono ?_
    rintro e w' ⟨r, rfl, hw', hr⟩
    obtain rfl := hw'.symm
    clear hw' CZ
    rcases hr with hr | ⟨hr0, hr1, hT⟩
    · go_wp2
      go_ret
      exact ⟨rfl, Below.refl _ _⟩
    · have hr' : ¬ r < 0 := by omega
      have CT := hide (fun W h => Tlr.toSpans (.slice ta T.length tc) T W h hT)
      have CE := hide (fun V1 V2 W h1 h2 => eqTls V1 V2 T W h1 h2 hT)
      obtain ⟨M, hM⟩ : ∃ M, M = 1 + 3 * T.length := ⟨_, rfl⟩
      have CM := hide (fun B g c xs W h => markTls B g c xs T.length W h hT M hM)
      have hMp : ¬ (M : Int) < 0 := by omega
      clear hM
      go_wp2_with fail
      refine ((unhide CT) _ (unhide HV)).mono ?_
      rintro e w1 ⟨rfl, hp1, hb1⟩
      have B1 := hide hb1
      have P1 := hide hp1
      clear hb1 hp1
      go_wp2_with fail
      refine ((unhide SP) _ _ (SpRow_at (unhide P1)) hT).mono ?_
      rintro e w2 ⟨v0, rfl, ho0, hb2⟩
      have HO0 := hide ho0
      have B2 := hide ((unhide B1).trans (hb2.mono (unhide B1).size))
      clear ho0 hb2 P1 B1
      go_wp2_with fail
      refine ((unhide CT) _ ((unhide HV).below (unhide B2))).mono ?_
      rintro e w3 ⟨rfl, hp3, hb3⟩
      have P3 := hide hp3
      have D3 := hide hb3
      have B3 := hide ((unhide B2).trans (hb3.mono (unhide B2).size))
      have hl3 : w2.heap.size < w3.heap.size := by
        rcases hp3.2 with ⟨e, _⟩ | ⟨g, _, _, e, _, hh, _⟩
        · cases e
        · cases e
          exact (Array.getElem?_eq_some_iff.1 hh).1
      clear hp3 hb3
      go_wp2_with fail
      refine ((unhide IM) _ _ ((unhide HT).below (unhide B3)) (SpRow_at (unhide P3)) hT).mono ?_
      rintro e w4 ⟨g0, rfl, ho4, hb4⟩
      have G4 := hide ho4
      have P4 := hide ((unhide P3).below hb4)
      have D4 := hide ((unhide D3).trans (hb4.mono (by omega)))
      have hs4 := hb4.size
      clear ho4 hb4 P3 D3 B3
      go_wp2_with fail
      refine (eqInts _ _ L _ (IntsAt.owned (unhide G4)) ((unhide HO0).below (unhide D4)) (by omega)).mono ?_
      rintro e w5 ⟨rfl, hb5⟩
      have G5 := hide (ownsRow_below (unhide G4) hb5)
      have P5 := hide ((unhide P4).below hb5)
      have D5 := hide ((unhide D4).trans (hb5.mono (by omega)))
      have hs5 := hb5.size
      clear hb5 G4 P4 D4
      go_wp2_with fail
      refine ((unhide CT) _ ((unhide HV).below ((unhide B2).trans ((unhide D5).mono (unhide B2).size)))).mono ?_
      rintro e w6 ⟨rfl, hp6, hb6⟩
      have Q6 := hide hp6
      have G6 := hide (ownsRow_below (unhide G5) hb6)
      have P6 := hide ((unhide P5).below hb6)
      have D6 := hide ((unhide D5).trans (hb6.mono (by omega)))
      have hs6 := hb6.size
      clear hb6 hp6 G5 P5 D5
      go_wp2_with fail
      refine ((unhide CE) _ _ _ (SpRow_at (unhide P6)) (SpRow_at (unhide Q6))).mono ?_
      rintro e w7 ⟨rfl, hb7⟩
      have G7 := hide (ownsRow_below (unhide G6) hb7)
      have P7 := hide ((unhide P6).below hb7)
      have D7 := hide ((unhide D6).trans (hb7.mono (by omega)))
      have hs7 := hb7.size
      clear hb7 G6 P6 D6 Q6
      go_wp2_with fail
      refine ((unhide CM) _ _ _ _ _ (unhide P7)).mono ?_
      rintro e w8 ⟨rfl, hm8⟩
      have G8 := hide (own_atS (unhide G7) (fun k e => hm8.oth k (by have := ((unhide G7).lt k e).1; omega)))
      have D8 := hide ((unhide D7).trans hm8.bel)
      have hs8 := hm8.bel.size
      clear hm8 G7 P7 D7
      go_wp2_with fail
      refine (eqInts _ _ L _ (IntsAt.owned (unhide G8)) ((unhide HO0).below (unhide D8)) (by omega)).mono ?_
      rintro e w9 ⟨rfl, hb9⟩
      have G9 := hide (ownsRow_below (unhide G8) hb9)
      have D9 := hide ((unhide D8).trans (hb9.mono (by omega)))
      have hs9 := hb9.size
      clear hb9 G8 D8
      go_wp2_with fail
      refine (mark_any w3.heap.size g0 L 1 _ (by omega) (by omega) (by omega) (unhide G9)).mono ?_
      rintro e w10 ⟨rfl, ho10, hb10⟩
      have G10 := hide ho10
      have D10 := hide ((unhide D9).trans (hb10.mono (by omega)))
      have hs10 := hb10.size
      clear ho10 hb10 G9 D9
      go_wp2_with fail
      refine (held_any g0 L.length 1 _ (by omega) (by omega) (by omega) (owned_seq (unhide G10))).mono ?_
      rintro e w10' ⟨rfl, hx⟩
      obtain rfl := hx.symm
      clear hx
      have B10 := hide ((unhide B2).trans ((unhide D10).mono (unhide B2).size))
      go_wp2_with fail
      refine ((unhide CT) _ ((unhide HV).below (unhide B10))).mono ?_
      rintro e w11 ⟨rfl, hp11, hb11⟩
      have P11 := hide hp11
      have G11 := hide (ownsRow_below (unhide G10) hb11)
      have D11 := hide ((unhide D10).trans (hb11.mono (by omega)))
      have B11 := hide ((unhide B10).trans (hb11.mono (unhide B10).size))
      have hs11 := hb11.size
      clear hp11 hb11 G10 D10 B10
      go_wp2_with fail
      refine ((unhide IM) _ _ ((unhide HT).below (unhide B11)) (SpRow_at (unhide P11)) hT).mono ?_
      rintro e w12 ⟨h12, rfl, ho12, hb12⟩
      have H12 := hide ho12
      have G12 := hide (ownsRow_below (unhide G11) hb12)
      have D12 := hide ((unhide D11).trans (hb12.mono (by omega)))
      have B12 := hide ((unhide B11).trans (hb12.mono (unhide B11).size))
      have hs12 := hb12.size
      clear ho12 hb12 G11 D11 B11 P11
      go_wp2_with fail
      refine (eqInts _ _ L _ (IntsAt.owned (unhide H12)) ((unhide HO0).below (unhide D12)) (by omega)).mono ?_
      rintro e w13 ⟨rfl, hb13⟩
      have G13 := hide (ownsRow_below (unhide G12) hb13)
      have B13 := hide ((unhide B12).trans (hb13.mono (unhide B12).size))
      clear hb13 G12 D12 B12 H12
      go_wp2_with fail
      refine (held_any g0 L.length 1 _ (by omega) (by omega) (by omega) (owned_seq (unhide G13))).mono ?_
      rintro e w14 ⟨rfl, hx⟩
      obtain rfl := hx.symm
      clear hx
      go_wp2
      go_ret
      exact ⟨rfl, unhide B13⟩
  · have hs' : (1048576 : Int) < (s.size : Int) := by omega
    clear ht CZ
    go_enter Tryd.func3, Tryd.ntmps3
    go_wp2
    go_ret
    exact ⟨rfl, Below.refl _ _⟩
end Wrd
end Go.Proofs.YtbecklokapcgbaaDoor
