/- Whether a word is cut at a place, as the specification tells it. -/
import Derived.Test.YtdgafmhjbgddkaaDoorWrdV
import Derived.Test.YtdgafmhjbgddkaaDoorWrdT
import Derived.Deep.Cut
import Derived.Deep.CutRange
namespace Go.Proofs.YtdgafmhjbgddkaaDoor
namespace Wrd
open Go.RowKit
open Chr (cat ctl mrk sCat sControl sMark bel1)
/-- A place of a row, -1 where there is no point. -/
def plc (L : List Int) (i : Nat) (c : Bool) : WPl := ⟨if 2 ≤ i then nth L (i - 2) else -1, nth L (i - 1), nth L i, if i + 1 < L.length then nth L (i + 1) else -1, !c⟩
theorem no_ltr : ltr (-1) = false := by decide +kernel
theorem no_dgt : dgt (-1) = false := by decide +kernel
theorem joi_no1 (m b : Int) : joi (-1) m b = false := by
  unfold joi
  rw [no_ltr, no_dgt]
  simp
theorem joi_no2 (a m : Int) : joi a m (-1) = false := by
  unfold joi
  rw [no_ltr, no_dgt]
  simp
theorem dec_spec (L : List Int) (m : Nat) (c : Bool) (h : m + 1 < L.length) : decI (plc L (m + 1) c) =
    if c = false then false else if (ctl (nth L m) || ctl (nth L (m + 1))) = true then true else if (cat (nth L m) == 2 && cat (nth L (m + 1)) == 2) = true then false else
    if ((wcl (nth L m) == 1 || wcl (nth L m) == 2) && (wcl (nth L (m + 1)) == 1 || wcl (nth L (m + 1)) == 2)) = true then false else if (btw L m || btw L (m + 1)) = true then false else
    if ((wcl (nth L (m + 1)) == 3 && (wcl (nth L m) == 1 || wcl (nth L m) == 2 || wcl (nth L m) == 3)) || (wcl (nth L m) == 3 && (wcl (nth L (m + 1)) == 1 || wcl (nth L (m + 1)) == 2))) = true then false else
    if (wcl (nth L m) == 5 && wcl (nth L (m + 1)) == 5) = true then false else true := by
  have e1 : btw L m = joi (plc L (m + 1) c).b (nth L m) (nth L (m + 1)) := by
    unfold btw plc
    simp only
    by_cases h0 : m = 0
    · rw [if_pos (.inl h0), if_neg (by omega), joi_no1]
    · rw [if_neg (by omega), if_pos (by omega), show m + 1 - 2 = m - 1 by omega]
  have e2 : btw L (m + 1) = joi (nth L m) (nth L (m + 1)) (plc L (m + 1) c).h := by
    unfold btw plc
    simp only
    by_cases h0 : L.length ≤ m + 1 + 1
    · rw [if_pos (.inr h0), if_neg (by omega), joi_no2]
    · rw [if_neg (by omega), if_pos (by omega), show m + 1 - 1 = m by omega]
  rw [e1, e2]
  simp only [wcl_ltr, wcl_dgt, wcl_run, wcl_low]
  show decI ⟨(plc L (m + 1) c).b, nth L m, nth L (m + 1), (plc L (m + 1) c).h, !c⟩ = _
  generalize (plc L (m + 1) c).b = b
  generalize (plc L (m + 1) c).h = h'
  generalize nth L m = l
  generalize nth L (m + 1) = r
  unfold decI rl lod
  simp only
  have o : (l == 95 || (ltr l || dgt l)) = (ltr l || dgt l || l == 95) := by cases ltr l <;> cases dgt l <;> cases (l == 95) <;> rfl
  rw [o]
  cases c <;> rfl
set_option maxRecDepth 100000 in
set_option maxHeartbeats 16000000 in
theorem wcutS (vl : Value) (L : List Int) (m : Nat) (c : Bool) (vt : Value) (T : List Tl) (w : World) (hl : IntsAt w vl L) (hm : m + 1 < L.length) (hL : L.length ≤ 1048576) (hv : TlAt w vt T) (hT : T.length ≤ 1048576) :
    Calls Tryd.prog 35 #[vl, .int .i64 ((m + 1 : Nat) : Int), .bool c, vt] w fun e w' => e = .returned (.bool (cutW T (plc L (m + 1) c))) ∧ Below w.heap.size w w' := by
  have HI := hide hl
  have HV := hide hv
  have HH : Hid (∀ k, k < T.length → (∀ i, i < k → hit (tlx T i) (nth L m) (nth L (m + 1)) = false) → hit (tlx T k) (nth L m) (nth L (m + 1)) = true → cutW T (plc L (m + 1) c) = (tlx T k).2.2) := hide (fun k hk hs hh => cut_hit (x := plc L (m + 1) c) hk hs hh)
  have HN : Hid ((∀ i, i < T.length → hit (tlx T i) (nth L m) (nth L (m + 1)) = false) → cutW T (plc L (m + 1) c) = decI (plc L (m + 1) c)) := hide (fun h => cut_none (x := plc L (m + 1) c) h)
  have HD := hide (dec_spec L m c hm)
  have CB1 := hide (fun W h => sBetween vl L m W h (by omega) hL)
  have CB2 : Hid (∀ W, IntsAt W vl L → Calls Tryd.prog 55 #[vl, .int .i64 ((m : Int) + 1)] W fun e w' => e = .returned (.bool (btw L (m + 1))) ∧ Below W.heap.size W w') := hide (fun W h => by
    have := sBetween vl L (m + 1) W h hm hL
    rw [Int.natCast_add] at this
    exact this)
  obtain ⟨b, off, cap, rfl, hbs, hc⟩ := ints_at hl (by omega)
  clear hl
  obtain ⟨ta, tcap, rfl, _⟩ := hv
  have c0 := hc m (by omega)
  have c1 := hc (m + 1) (by omega)
  have hw0 : IntKind.i64.wrap (m : Int) = (m : Int) := wrapN m (by omega)
  have hs : (m : Int) + 1 - 1 = (m : Int) := by omega
  have i0 : (m : Int) < (L.length : Int) := by omega
  have i1 : (m : Int) + 1 < (L.length : Int) := by omega
  have p0 : (0 : Int) ≤ (m : Int) := by omega
  have p1 : (0 : Int) ≤ (m : Int) + 1 := by omega
  have t1 : ((m : Int) + 1).toNat = m + 1 := by omega
  generalize cutW T (plc L (m + 1) c) = D at *
  generalize decI (plc L (m + 1) c) = E at *
  generalize nth L m = l at *
  generalize nth L (m + 1) = r at *
  clear hc
  have CL := hide (fun W => sWord l W)
  have CR := hide (fun W => sWord r W)
  have CTL := hide (fun W => sControl l W)
  have CTR := hide (fun W => sControl r W)
  have CCL := hide (fun W => sCat l W)
  have CCR := hide (fun W => sCat r W)
  generalize wcl l = a at *
  generalize wcl r = d at *
  generalize ctl l = k1 at *
  generalize ctl r = k2 at *
  generalize cat l = s1 at *
  generalize cat r = s2 at *
  generalize btw L m = j1 at *
  generalize btw L (m + 1) = j2 at *
  go_enter Tryd.func35, Tryd.ntmps35
  go_wp2
  go_loopw [11] (fun v wr => ∃ i : Nat, v = .int .i64 i ∧ i ≤ T.length ∧ Hid (∀ j, j < i → hit (tlx T j) l r = false) ∧ w = wr) (fun v _ => T.length - (intOf v).toNat)
  case atStart => exact ⟨0, rfl, by omega, hide (fun j hj => by omega), rfl⟩
  case round =>
    obtain ⟨i, rfl, hi, HS, rfl⟩ := hrel
    by_cases hlt : i < T.length
    · obtain ⟨gb, go, gc, he, hbs', hc⟩ := tl_rd (unhide HV) (by omega)
      cases he
      obtain ⟨x0, x1, x2⟩ := hc i hlt
      have HSN : Hid (hit (tlx T i) l r = false → ∀ j, j < i + 1 → hit (tlx T j) l r = false) := hide (fun h j hj => by
        by_cases e : j = i
        · rw [e]; exact h
        · exact (unhide HS) j (by omega))
      have HSY : Hid (hit (tlx T i) l r = true → D = (tlx T i).2.2) := hide (fun h => (unhide HH) i hlt (unhide HS) h)
      clear hc
      have HHI : Hid (hit (tlx T i) l r = ((tlx T i).1 == l && (tlx T i).2.1 == r)) := hide rfl
      generalize hit (tlx T i) l r = q at *
      obtain ⟨⟨tx, ty, tc⟩, ht⟩ : ∃ t, tlx T i = t := ⟨_, rfl⟩
      rw [ht] at x0 x1 x2 HHI HSY
      simp only at x0 x1 x2 HHI HSY
      clear ht
      cases h1 : (tx == l) <;> cases h2 : (ty == r)
      case true.true =>
        have HF := hide ((unhide HSY) (by rw [unhide HHI, h1, h2]; rfl))
        clear HSN HSY HHI
        go_wp2
        go_ret
        exact ⟨by rw [unhide HF]; rfl, Below.refl _ _⟩
      all_goals
        have HS2 := hide ((unhide HSN) (by rw [unhide HHI, h1, h2]; rfl))
        clear HSN HSY HHI
        go_wp2
        go_roundw
        case rel => exact ⟨i + 1, by go_num, by omega, HS2, by first | rfl | trivial⟩
        case measure => simp [intOf]; omega
    · obtain rfl : i = T.length := by omega
      have HE : Hid (D = E) := hide ((unhide HN) (unhide HS))
      clear HH HN HS HV
      cases c
      · have HF : Hid (D = false) := hide (by rw [unhide HE, unhide HD]; rfl)
        go_wp2_with (first | (go_at_call_of 27 l; refine ((unhide CL) _).mono ?_; rintro e w2 ⟨rfl, hb2⟩; have B := hide hb2; clear hb2) | (go_at_call_of 27 r; refine ((unhide CR) _).mono ?_; rintro e w3 ⟨rfl, hb3⟩; replace B := hide (jn (unhide B) hb3); clear hb3))
        go_ret
        exact ⟨by rw [unhide HF]; rfl, unhide B⟩
      · rw [if_neg (by simp)] at HD
        go_upto_region 12 with (first | (go_at_call_of 27 l; refine ((unhide CL) _).mono ?_; rintro e w2 ⟨rfl, hb2⟩; have B := hide hb2; clear hb2) | (go_at_call_of 27 r; refine ((unhide CR) _).mono ?_; rintro e w3 ⟨rfl, hb3⟩; replace B := hide (jn (unhide B) hb3); clear hb3))
        go_cut [57] from 57 to 131 (fun v wx => v = .bool (k1 || k2) ∧ Hid (Below w.heap.size w wx))
        case first =>
          clear HD HE
          cases k1
          all_goals
            go_wp2_with (first | (go_at_call_of 49 l; refine ((unhide CTL) _).mono ?_; rintro e w4 ⟨rfl, hb4⟩; replace B := hide (jn (unhide B) hb4); clear hb4) | (go_at_call_of 49 r; refine ((unhide CTR) _).mono ?_; rintro e w5 ⟨rfl, hb5⟩; replace B := hide (jn (unhide B) hb5); clear hb5))
            go_meet
            case rel => exact ⟨by first | rfl | (rw [e1]; rfl) | (rw [e1]; done), B⟩
        case rest =>
          obtain ⟨rfl, B2⟩ := hcut
          clear B
          have B := B2
          clear B2
          cases hq0 : (k1 || k2)
          case true =>
            have HF : Hid (D = true) := hide (by rw [unhide HE, unhide HD, hq0]; rfl)
            go_wp2_with fail
            go_ret
            exact ⟨by rw [unhide HF]; rfl, unhide B⟩
          rw [hq0, if_neg Bool.false_ne_true] at HD
          clear hq0
          go_upto_region 14 with (fail)
          go_cut [64] from 57 to 131 (fun v wx => v = .bool (s1 == 2 && s2 == 2) ∧ Hid (Below w.heap.size w wx))
          case first =>
            clear HD HE
            cases e1 : (s1 == 2)
            all_goals
              go_wp2_with (first | (go_at_call_of 42 l; refine ((unhide CCL) _).mono ?_; rintro e w6 ⟨rfl, hb6⟩; replace B := hide (jn (unhide B) hb6); clear hb6) | (go_at_call_of 42 r; refine ((unhide CCR) _).mono ?_; rintro e w7 ⟨rfl, hb7⟩; replace B := hide (jn (unhide B) hb7); clear hb7))
              go_meet
              case rel => exact ⟨by first | rfl | (rw [e1]; rfl) | (rw [e1]; done), B⟩
          case rest =>
            obtain ⟨rfl, B2⟩ := hcut
            clear B
            have B := B2
            clear B2
            cases hq1 : (s1 == 2 && s2 == 2)
            case true =>
              have HF : Hid (D = false) := hide (by rw [unhide HE, unhide HD, hq1]; rfl)
              go_wp2_with fail
              go_ret
              exact ⟨by rw [unhide HF]; rfl, unhide B⟩
            rw [hq1, if_neg Bool.false_ne_true] at HD
            clear hq1
            go_upto_region 16 with (fail)
            go_cut [73] from 57 to 131 (fun v wx => v = .bool ((a == 1 || a == 2) && (d == 1 || d == 2)) ∧ Hid (Below w.heap.size w wx))
            case first =>
              clear HD HE
              cases e1 : (a == 1) <;> cases e2 : (a == 2) <;> cases e3 : (d == 1)
              all_goals
                go_wp2_with (fail)
                go_meet
                case rel => exact ⟨by first | rfl | (rw [e1, e2, e3]; rfl) | (rw [e1, e2, e3]; done), B⟩
            case rest =>
              obtain ⟨rfl, B2⟩ := hcut
              clear B
              have B := B2
              clear B2
              cases hq2 : ((a == 1 || a == 2) && (d == 1 || d == 2))
              case true =>
                have HF : Hid (D = false) := hide (by rw [unhide HE, unhide HD, hq2]; rfl)
                go_wp2_with fail
                go_ret
                exact ⟨by rw [unhide HF]; rfl, unhide B⟩
              rw [hq2, if_neg Bool.false_ne_true] at HD
              clear hq2
              go_upto_region 18 with (fail)
              go_cut [88] from 57 to 131 (fun v wx => v = .bool (j1 || j2) ∧ Hid (Below w.heap.size w wx))
              case first =>
                clear HD HE
                have TOK : True := trivial
                cases j1
                all_goals
                  go_wp2_with (first | (go_at_call 55; clear TOK; refine ((unhide CB1) _ ((unhide HI).below (unhide B))).mono ?_; rintro e w8 ⟨rfl, hb8⟩; replace B := hide (jn (unhide B) hb8); clear hb8) | (go_at_call 55; refine ((unhide CB2) _ ((unhide HI).below (unhide B))).mono ?_; rintro e w9 ⟨rfl, hb9⟩; replace B := hide (jn (unhide B) hb9); clear hb9))
                  go_meet
                  case rel => exact ⟨by first | rfl | (rw [e1]; rfl) | (rw [e1]; done), B⟩
              case rest =>
                obtain ⟨rfl, B2⟩ := hcut
                clear B
                have B := B2
                clear B2
                cases hq3 : (j1 || j2)
                case true =>
                  have HF : Hid (D = false) := hide (by rw [unhide HE, unhide HD, hq3]; rfl)
                  go_wp2_with fail
                  go_ret
                  exact ⟨by rw [unhide HF]; rfl, unhide B⟩
                rw [hq3, if_neg Bool.false_ne_true] at HD
                clear hq3
                go_upto_region 20 with (fail)
                go_cut [98] from 57 to 131 (fun v wx => v = .bool ((d == 3 && (a == 1 || a == 2 || a == 3)) || (a == 3 && (d == 1 || d == 2))) ∧ Hid (Below w.heap.size w wx))
                case first =>
                  clear HD HE
                  cases e1 : (d == 3) <;> cases e2 : (a == 1) <;> cases e3 : (a == 2) <;> cases e4 : (a == 3) <;> cases e5 : (d == 1)
                  all_goals
                    go_wp2_with (fail)
                    go_meet
                    case rel => exact ⟨by first | rfl | (rw [e1, e2, e3, e4, e5]; rfl) | (rw [e1, e2, e3, e4, e5]; done), B⟩
                case rest =>
                  obtain ⟨rfl, B2⟩ := hcut
                  clear B
                  have B := B2
                  clear B2
                  cases hq4 : ((d == 3 && (a == 1 || a == 2 || a == 3)) || (a == 3 && (d == 1 || d == 2)))
                  case true =>
                    have HF : Hid (D = false) := hide (by rw [unhide HE, unhide HD, hq4]; rfl)
                    go_wp2_with fail
                    go_ret
                    exact ⟨by rw [unhide HF]; rfl, unhide B⟩
                  rw [hq4, if_neg Bool.false_ne_true] at HD
                  clear hq4
                  go_upto_region 22 with (fail)
                  go_cut [125] from 57 to 131 (fun v wx => v = .bool (a == 5 && d == 5) ∧ Hid (Below w.heap.size w wx))
                  case first =>
                    clear HD HE
                    cases e1 : (a == 5)
                    all_goals
                      go_wp2_with (fail)
                      go_meet
                      case rel => exact ⟨by first | rfl | (rw [e1]; rfl) | (rw [e1]; done), B⟩
                  case rest =>
                    obtain ⟨rfl, B2⟩ := hcut
                    clear B
                    have B := B2
                    clear B2
                    cases hq5 : (a == 5 && d == 5)
                    case true =>
                      have HF : Hid (D = false) := hide (by rw [unhide HE, unhide HD, hq5]; rfl)
                      go_wp2_with fail
                      go_ret
                      exact ⟨by rw [unhide HF]; rfl, unhide B⟩
                    rw [hq5, if_neg Bool.false_ne_true] at HD
                    clear hq5
                    have HF : Hid (D = true) := hide (by rw [unhide HE, unhide HD])
                    go_wp2_with fail
                    go_ret
                    exact ⟨by rw [unhide HF]; rfl, unhide B⟩
end Wrd
end Go.Proofs.YtdgafmhjbgddkaaDoor
