/- FormsOf of the program and of the specification, and the law. -/
import Derived.Test.YtgnbfeejoconfaaDoorShpS
namespace Go.Proofs.YtgnbfeejoconfaaDoor.Shp
open Go.RowKit Chr
set_option linter.unusedVariables false
/-- The forms of a text. -/
def fout (s : ByteArray) : List Int := frs (ptsOut s)
theorem fout_le (s : ByteArray) : (fout s).length ≤ 65537 := by unfold fout; rw [frs_len]; have := ptsOut_le s; omega
theorem own_mono {w : World} {B B2 n : Nat} {v : Value} {xs : List Value} (h : w.ownsRow B2 2 1 v n xs) (hb : B ≤ B2) : w.ownsRow B 2 1 v n xs := by
  refine ⟨h.1, ?_⟩
  rcases h.2 with h' | ⟨g, cap, cur, hv, hg, r⟩
  · exact .inl h'
  · exact .inr ⟨g, cap, cur, hv, by omega, r⟩
set_option maxHeartbeats 1000000 in
theorem implForms (s : ByteArray) (w : World) (ht : TabAt w) (hs : s.size ≤ 1048576) : Calls Tryd.prog 6 #[.string s] w fun e w' =>
    ∃ v, e = .returned v ∧ w'.ownsRow w.heap.size 2 1 v (fout s).length ((fout s).map (Value.int .i64)) ∧ Below w.heap.size w w' := by
  have HT := hide ht
  have CP := hide (implPointsOf s w hs)
  have hl := ptsOut_le s
  have CF := hide (fun v W h1 h2 => forms_any v (ptsOut s) W h1 h2 hl)
  have EF : Hid (fout s = frs (ptsOut s)) := hide rfl
  clear ht
  generalize fout s = R at *
  generalize ptsOut s = L at *
  go_enter Tryd.func6, Tryd.ntmps6
  go_wp2_with fail
  refine (unhide CP).mono ?_
  rintro e w1 ⟨v1, rfl, ho1, hb1⟩
  have O1 := hide ho1
  have B1 := hide hb1
  clear ho1 hb1
  go_wp2_with fail
  refine ((unhide CF) _ _ (IntsAt.owned (unhide O1)) ((unhide HT).below (unhide B1))).mono ?_
  rintro e w2 ⟨v2, rfl, ho2, hb2⟩
  have O2 := hide (own_mono ho2 (unhide B1).size)
  have B2 := hide ((unhide B1).trans (hb2.mono (unhide B1).size))
  clear ho2 hb2
  go_wp2
  go_ret
  exact ⟨_, rfl, by rw [unhide EF]; exact unhide O2, unhide B2⟩
set_option maxHeartbeats 1000000 in
theorem specForms (s : ByteArray) (w : World) (hs : s.size ≤ 1048576) : Calls Tryd.prog 8 #[.string s] w fun e w' => ∃ v, e = .returned v ∧ IntsAt w' v (fout s) ∧ Below w.heap.size w w' := by
  by_cases hb : 65536 < s.size
  · have hb' : (65536 : Int) < (s.size : Int) := by omega
    have HE := hide (show fout s = [] by unfold fout ptsOut; rw [if_pos hb]; rfl)
    go_enter Tryd.func8, Tryd.ntmps8
    go_wp2
    go_ret
    refine ⟨_, rfl, ?_, (Below.refl _ _).alloc (Nat.le_refl _) _⟩
    rw [unhide HE]
    exact ⟨_, _, rfl, .inl rfl⟩
  · have hb' : ¬ (65536 : Int) < (s.size : Int) := by omega
    have HE := hide (show fout s = frs (pts s) by unfold fout ptsOut; rw [if_neg hb])
    have CP := hide (l01Points s w (by omega))
    have hl := pts_le s
    have CF := hide (fun v W h1 => sForms v (pts s) W h1 (by omega))
    generalize fout s = R at *
    generalize pts s = L at *
    go_enter Tryd.func8, Tryd.ntmps8
    go_wp2_with fail
    refine (unhide CP).mono ?_
    rintro e w1 ⟨v1, rfl, ho1, hb1⟩
    have O1 := hide ho1
    have B1 := hide hb1
    clear ho1 hb1
    go_wp2_with fail
    refine ((unhide CF) _ _ (IntsAt.owned (unhide O1))).mono ?_
    rintro e w2 ⟨v2, rfl, ho2, hb2⟩
    have O2 := hide (IntsAt.owned ho2)
    have B2 := hide ((unhide B1).trans (hb2.mono (unhide B1).size))
    clear ho2 hb2
    go_wp2
    go_ret
    exact ⟨_, rfl, by rw [unhide HE]; exact unhide O2, unhide B2⟩
end Go.Proofs.YtgnbfeejoconfaaDoor.Shp
