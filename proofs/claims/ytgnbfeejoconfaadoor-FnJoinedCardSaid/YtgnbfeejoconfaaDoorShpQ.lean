/- The law FnJoined. -/
import Derived.Test.YtgnbfeejoconfaaDoorShpL
import Derived.Test.YtgnbfeejoconfaaDoorShpK
import Derived.Test.YtgnbfeejoconfaaDoorShpD
import Derived.Test.YtgnbfeejoconfaaDoorLwS
namespace Go.Proofs.YtgnbfeejoconfaaDoor.Shp
open Go.RowKit Chr
set_option linter.unusedVariables false
theorem ints_cells {w : World} {v : Value} {l : List Int} (h : IntsAt w v l) : ∃ a c, v = .slice a l.length c ∧ ∀ k, k < l.length → ∃ b off, a = some ⟨b, off, none⟩ ∧ b < w.heap.size ∧ ∀ j, j < l.length → w.cell? ⟨b, off + j, none⟩ = some (.int .i64 (nth l j)) := by
  obtain ⟨a, c, rfl, h⟩ := h
  refine ⟨a, c, rfl, fun k hk => ?_⟩
  rcases h with rfl | ⟨b, off, rfl, hb, hc⟩
  · simp at hk
  · exact ⟨b, off, rfl, hb, hc⟩
set_option maxHeartbeats 4000000 in
set_option maxRecDepth 100000 in
theorem lawJoined (w : World) (a : Option Addr) (len cap : Nat) (hc : Dr.CodeIn w a len) (ht : TabAt w) :
    Calls Tryd.prog 3 #[.slice a len cap] w fun e w' => e = .returned (.bool true) ∧ Below w.heap.size w w' := by
  by_cases hs : 1048576 < len
  · have hs' : (1048576 : Int) < (len : Int) := by omega
    go_enter Tryd.func3, Tryd.ntmps3
    go_wp2
    go_ret
    exact ⟨rfl, Below.refl _ _⟩
  have hs' : ¬ (1048576 : Int) < (len : Int) := by omega
  have HT := hide ht
  have DC := hide (Dr.drawForms_any w a len cap (by omega) hc)
  clear ht hc
  go_enter Tryd.func3, Tryd.ntmps3
  go_wp2_with fail
  refine (unhide DC).mono ?_
  rintro e w1 ⟨t, rfl, ht1, hb1⟩
  have B1 := hide hb1
  have SP := hide (specPointsOf t w1 (by omega))
  have CI := hide (fun W h => implForms t W h (by omega))
  have CS := hide (fun W => specForms t W (by omega))
  have JN := hide (joined (ptsOut t))
  have hLl := ptsOut_le t
  have hFl := frs_len (ptsOut t)
  have ef : fout t = frs (ptsOut t) := rfl
  rw [ef] at CI CS
  clear hb1 DC ef
  generalize ptsOut t = L at *
  generalize frs L = F at *
  go_wp2_with fail
  refine (unhide SP).mono ?_
  rintro e w2 ⟨lv, rfl, ho, hb⟩
  have IL := hide (IntsAt.owned ho)
  have B2 := hide ((unhide B1).trans (hb.mono (unhide B1).size))
  clear ho hb SP B1
  go_wp2_with fail
  refine ((unhide CI) _ ((unhide HT).below (unhide B2))).mono ?_
  rintro e w3 ⟨fv, rfl, ho, hb⟩
  have IF := hide (IntsAt.owned ho)
  have IL3 := hide ((unhide IL).below hb)
  have B3 := hide ((unhide B2).trans (hb.mono (unhide B2).size))
  clear ho hb CI B2 IL
  go_wp2_with fail
  refine ((unhide CS) _).mono ?_
  rintro e w4 ⟨sv, rfl, hv, hb⟩
  have IF4 := hide ((unhide IF).below hb)
  have IL4 := hide ((unhide IL3).below hb)
  have IS4 := hide hv
  have B4 := hide ((unhide B3).trans (hb.mono (unhide B3).size))
  clear hv hb CS B3 IL3 IF
  go_wp2_with fail
  refine (lwSame _ _ F _ (unhide IF4) (unhide IS4) (by omega)).mono ?_
  rintro e w5 ⟨rfl, hb⟩
  have IF5 := hide ((unhide IF4).below hb)
  have IL5 := hide ((unhide IL4).below hb)
  have B5 := hide ((unhide B4).trans (hb.mono (unhide B4).size))
  clear hb B4 IL4 IF4 IS4
  obtain ⟨la, lc, rfl, hlc⟩ := ints_cells (unhide IL5)
  obtain ⟨fa, fc, rfl, hfc⟩ := ints_cells (unhide IF5)
  rw [hFl] at hfc
  rw [hFl]
  have HLC := hide hlc
  have HFC := hide hfc
  have hnn : ((L.length : Int) != (L.length : Int)) = false := by simp
  clear hlc hfc IL5 IF5
  go_wp2
  go_loopw [6] (fun i wr => ∃ k : Nat, k ≤ L.length ∧ i = .int .i64 k ∧ Hid (Below w5.heap.size w5 wr)) (fun i _ => L.length - (intOf i).toNat)
  case atStart => exact ⟨0, Nat.zero_le _, rfl, hide (Below.refl _ _)⟩
  case round =>
    obtain ⟨i, hi, rfl, HB⟩ := hrel
    by_cases hlt : i < L.length
    · have hlt' : (i : Int) < (L.length : Int) := by omega
      obtain ⟨lb, lo, rfl, hlb, hlc⟩ := unhide HLC i hlt
      obtain ⟨fb, fo, rfl, hfb, hfc⟩ := unhide HFC i hlt
      have c1 := ((unhide HB).cell (p := ⟨fb, fo + i, none⟩) hfb).trans (hfc i hlt)
      have JI := hide ((unhide JN) i hlt)
      have HL := hide hlc
      have HF := hide hfc
      clear hlc hfc
      by_cases x1 : nth F i = 1 ∨ nth F i = 2
      · obtain ⟨m, hm, hN, hx⟩ := (unhide JI) x1
        have HN := hide hN
        have hx' : ((nth F i != 1) = false) ∨ ((nth F i != 1) = true ∧ (nth F i != 2) = false) := by rcases x1 with e | e <;> rw [e] <;> simp
        have him := hN.lt
        have hx2 : ((nth F m != 2) = false) ∨ ((nth F m != 2) = true ∧ (nth F m != 3) = false) ∨ ((nth F m != 2) = true ∧ (nth F m != 3) = true ∧ (nth L m != 7936) = false) := by
          by_cases e2 : nth F m = 2
          · exact .inl (by simpa using e2)
          · by_cases e3 : nth F m = 3
            · exact .inr (.inl ⟨by simpa using e2, by simpa using e3⟩)
            · exact .inr (.inr ⟨by simpa using e2, by simpa using e3, by
                rcases hx with e | e | e
                · exact absurd e e2
                · exact absurd e e3
                · simpa using e⟩)
        have hne : ((m : Int) == (L.length : Int)) = false := by
          have : (m : Int) ≠ (L.length : Int) := by omega
          simpa using this
        clear JI hN x1 hx
        generalize nth F i = x at *
        rcases hx' with y1 | ⟨y1, y2⟩
        all_goals
          go_wp2
          go_loopw [7] (fun kv wi => ∃ j : Nat, i + 1 ≤ j ∧ j ≤ m ∧ kv = .int .i64 j ∧ Hid (Below w5.heap.size w5 wi)) (fun kv _ => m - (intOf kv).toNat)
          case atStart => exact ⟨i + 1, Nat.le_refl _, by omega, by go_num, HB⟩
          case round =>
            obtain ⟨j, hj1, hj2, rfl, HBi⟩ := hrel
            clear c1
            by_cases hjm : j < m
            · have hjl : (j : Int) < (L.length : Int) := by omega
              have c2 := ((unhide HBi).cell (p := ⟨lb, lo + j, none⟩) hlb).trans ((unhide HL) j (by omega))
              have hjn : jns (nth L j) < 0 := (unhide HN).past j (by omega) hjm
              have CJ := hide (implJoins (nth L j) _ (((unhide HT).below (unhide B5)).below (unhide HBi)))
              generalize jns (nth L j) = jj at *
              generalize nth L j = p at *
              go_wp2_with (go_at_call 9; refine (unhide CJ).mono ?_; rintro e w7 ⟨rfl, hb7⟩; have HB7 := hide ((unhide HBi).trans (hb7.mono (unhide HBi).size)); clear hb7)
              go_roundw
              case rel => exact ⟨j + 1, by omega, by omega, by go_num, HB7⟩
              case measure => simp [intOf]; omega
            · obtain rfl : j = m := by omega
              have hjl : (j : Int) < (L.length : Int) := by omega
              have c2 := ((unhide HBi).cell (p := ⟨lb, lo + j, none⟩) hlb).trans ((unhide HL) j (by omega))
              have hjn : ¬ jns (nth L j) < 0 := (unhide HN).here
              have CJ := hide (implJoins (nth L j) _ (((unhide HT).below (unhide B5)).below (unhide HBi)))
              go_wp2_with fail
              refine (unhide CJ).mono ?_
              rintro e w7 ⟨rfl, hb7⟩
              have HB7 := hide ((unhide HBi).trans (hb7.mono (unhide HBi).size))
              have d1 := ((unhide HB7).cell (p := ⟨lb, lo + j, none⟩) hlb).trans ((unhide HL) j (by omega))
              have d2 := ((unhide HB7).cell (p := ⟨fb, fo + j, none⟩) hfb).trans ((unhide HF) j (by omega))
              clear hb7 c2 CJ HN HL HF
              generalize jns (nth L j) = jj at *
              generalize nth L j = p at *
              generalize nth F j = f at *
              rcases hx2 with z1 | ⟨z1, z2⟩ | ⟨z1, z2, z3⟩
              all_goals
                go_wp2
                go_roundw
                case rel => exact ⟨i + 1, by omega, by go_num, HB7⟩
                case measure => simp [intOf]; omega
      · obtain ⟨y1, y2⟩ : (nth F i != 1) = true ∧ (nth F i != 2) = true := by simpa using x1
        clear JI x1
        generalize nth F i = x at *
        go_wp2
        go_roundw
        case rel => exact ⟨i + 1, by omega, by go_num, HB⟩
        case measure => simp [intOf]; omega
    · obtain rfl : i = L.length := by omega
      go_wp2
      go_ret
      exact ⟨rfl, (unhide B5).trans ((unhide HB).mono (unhide B5).size)⟩
end Go.Proofs.YtgnbfeejoconfaaDoor.Shp
