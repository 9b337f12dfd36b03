/- FormsOf of the program and of the specification, and the law. -/
import Derived.Test.YtgbfkomgmjibaaaDoorShpS
namespace Go.Proofs.YtgbfkomgmjibaaaDoor.Shp
open Go.RowKit Chr
set_option linter.unusedVariables false
/-- The forms of a text. -/
def fout (s : ByteArray) : List Int := frs (ptsOut s)
theorem fout_le (s : ByteArray) : (fout s).length ≤ 65537 := by unfold fout; rw [frs_len]; have := ptsOut_le s; omega
theorem own_mono {w : World} {B B2 n : Nat} {v : Value} {xs : List Value} (h : w.ownsRow B2 2 1 v n xs) (hb : B ≤ B2) : w.ownsRow B 2 1 v n xs := by
  refine ⟨h.1, ?_⟩
  rcases h.2 with h' | ⟨g, cap, cur, hv, hg, r⟩
  · exact .inl h'
  · exact .inr ⟨g, cap, cur, hv, by omega, r⟩
set_option maxHeartbeats 1000000 in
theorem implForms (s : ByteArray) (w : World) (ht : TabAt w) (hs : s.size ≤ 1048576) : Calls Tryd.prog 8 #[.string s] w fun e w' =>
    ∃ v, e = .returned v ∧ w'.ownsRow w.heap.size 2 1 v (fout s).length ((fout s).map (Value.int .i64)) ∧ Below w.heap.size w w' := by
  have HT := hide ht
  have CP := hide (implPointsOf s w hs)
  have hl := ptsOut_le s
  have CF := hide (fun v W h1 h2 => forms_any v (ptsOut s) W h1 h2 hl)
  have EF : Hid (fout s = frs (ptsOut s)) := hide rfl
  clear ht
  generalize fout s = R at *
  generalize ptsOut s = L at *
  go_enter Tryd.func8, Tryd.ntmps8
  go_wp2_with fail
  refine (unhide CP).mono ?_
  rintro e w1 ⟨v1, rfl, ho1, hb1⟩
  have O1 := hide ho1
  have B1 := hide hb1
  clear ho1 hb1
  go_wp2_with fail
  refine ((unhide CF) _ _ (IntsAt.owned (unhide O1)) ((unhide HT).below (unhide B1))).mono ?_
  rintro e w2 ⟨v2, rfl, ho2, hb2⟩
  have O2 := hide (own_mono ho2 (unhide B1).size)
  have B2 := hide ((unhide B1).trans (hb2.mono (unhide B1).size))
  clear ho2 hb2
  go_wp2
  go_ret
  exact ⟨_, rfl, by rw [unhide EF]; exact unhide O2, unhide B2⟩
set_option maxHeartbeats 1000000 in
theorem specForms (s : ByteArray) (w : World) (hs : s.size ≤ 1048576) : Calls Tryd.prog 7 #[.string s] w fun e w' => ∃ v, e = .returned v ∧ IntsAt w' v (fout s) ∧ Below w.heap.size w w' := by
  by_cases hb : 65536 < s.size
  · have hb' : (65536 : Int) < (s.size : Int) := by omega
    have HE := hide (show fout s = [] by unfold fout ptsOut; rw [if_pos hb]; rfl)
    go_enter Tryd.func7, Tryd.ntmps7
    go_wp2
    go_ret
    refine ⟨_, rfl, ?_, (Below.refl _ _).alloc (Nat.le_refl _) _⟩
    rw [unhide HE]
    exact ⟨_, _, rfl, .inl rfl⟩
  · have hb' : ¬ (65536 : Int) < (s.size : Int) := by omega
    have HE := hide (show fout s = frs (pts s) by unfold fout ptsOut; rw [if_neg hb])
    have CP := hide (l01Points s w (by omega))
    have hl := pts_le s
    have CF := hide (fun v W h1 => sForms v (pts s) W h1 (by omega))
    generalize fout s = R at *
    generalize pts s = L at *
    go_enter Tryd.func7, Tryd.ntmps7
    go_wp2_with fail
    refine (unhide CP).mono ?_
    rintro e w1 ⟨v1, rfl, ho1, hb1⟩
    have O1 := hide ho1
    have B1 := hide hb1
    clear ho1 hb1
    go_wp2_with fail
    refine ((unhide CF) _ _ (IntsAt.owned (unhide O1))).mono ?_
    rintro e w2 ⟨v2, rfl, ho2, hb2⟩
    have O2 := hide (IntsAt.owned ho2)
    have B2 := hide ((unhide B1).trans (hb2.mono (unhide B1).size))
    clear ho2 hb2
    go_wp2
    go_ret
    exact ⟨_, rfl, by rw [unhide HE]; exact unhide O2, unhide B2⟩
set_option maxRecDepth 100000 in
set_option maxHeartbeats 1000000 in
theorem lawForms (s : ByteArray) (w : World) (ht : TabAt w) : Calls Tryd.prog 4 #[.string s] w fun e w' => e = .returned (.bool true) ∧ Below w.heap.size w w' := by
  by_cases hs : 1048576 < s.size
  · go_enter Tryd.func4, Tryd.ntmps4
    go_wp2
    go_ret
    exact ⟨rfl, Below.refl _ _⟩
  · obtain ⟨L, hL⟩ : ∃ L, fout s = L := ⟨_, rfl⟩
    have HT := hide ht
    clear ht
    have hn := fout_le s
    rw [hL] at hn
    have HS : Hid (s.size ≤ 1048576) := hide (by omega)
    have spec := fun W => specForms s W (unhide HS)
    have impl := fun W (h : TabAt W) => implForms s W h (unhide HS)
    rw [hL] at spec impl
    have SP := hide spec
    have IM := hide impl
    clear spec impl hL
    have hm : (1 + (L.length : Int) != 1 + (L.length : Int)) = false := by simp
    have h0 : ¬ (1 + (L.length : Int) < 0) := by omega
    go_enter Tryd.func4, Tryd.ntmps4
    go_wp2_with fail
    refine ((unhide SP) _).mono ?_
    rintro e w1 ⟨v0, rfl, ho0, hb1⟩
    have HO0 := hide ho0
    have HD := hide hb1
    clear ho0 hb1
    go_wp2_with fail
    refine ((unhide IM) _ ((unhide HT).below (unhide HD))).mono ?_
    rintro e w2 ⟨g, rfl, ho2, hb2⟩
    have HG2 := hide ho2
    have C2 := hide hb2
    clear ho2 hb2
    go_wp2_with fail
    refine (eqInts _ _ L _ (IntsAt.owned (unhide HG2)) ((unhide HO0).below (unhide C2)) (by omega)).mono ?_
    rintro e w3 ⟨rfl, hb3⟩
    have HG3 := hide (ownsRow_below (unhide HG2) hb3)
    have C3 := hide ((unhide C2).trans (hb3.mono (unhide C2).size))
    clear hb3 HG2 C2
    go_wp2_with fail
    refine (mark_any w1.heap.size g L 1 _ (by omega) (by omega) (by omega) (unhide HG3)).mono ?_
    rintro e w4 ⟨rfl, ho4, hb4⟩
    have HG4 := hide ho4
    have C4 := hide ((unhide C3).trans hb4)
    clear ho4 hb4 HG3 C3
    go_wp2_with fail
    refine (held_any g L.length 1 _ (by omega) (by omega) (by omega) (owned_seq (unhide HG4))).mono ?_
    rintro e w4' ⟨rfl, rfl⟩
    go_wp2_with fail
    refine ((unhide IM) _ (((unhide HT).below (unhide HD)).below (unhide C4))).mono ?_
    rintro e w5 ⟨h, rfl, ho5, hb5⟩
    have HH5 := hide ho5
    have HG5 := hide (ownsRow_below (unhide HG4) hb5)
    have C5 := hide ((unhide C4).trans (hb5.mono (unhide C4).size))
    clear ho5 hb5 HG4 C4
    go_wp2_with fail
    refine (eqInts _ _ L _ (IntsAt.owned (unhide HH5)) ((unhide HO0).below (unhide C5)) (by omega)).mono ?_
    rintro e w6 ⟨rfl, hb6⟩
    have HG6 := hide (ownsRow_below (unhide HG5) hb6)
    have C6 := hide ((unhide C5).trans (hb6.mono (unhide C5).size))
    clear hb6 HG5 C5 HH5
    go_wp2_with fail
    refine (held_any g L.length 1 _ (by omega) (by omega) (by omega) (owned_seq (unhide HG6))).mono ?_
    rintro e w6' ⟨rfl, rfl⟩
    go_wp2
    go_ret
    exact ⟨rfl, (unhide HD).trans ((unhide C6).mono (unhide HD).size)⟩
end Go.Proofs.YtgbfkomgmjibaaaDoor.Shp
