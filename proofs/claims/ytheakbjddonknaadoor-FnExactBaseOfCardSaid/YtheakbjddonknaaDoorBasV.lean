/- BaseOf of the specification and its law, where l09TextOf lays classes and pairs. -/
import Derived.Test.YtheakbjddonknaaDoorBasT
import Derived.Test.YtheakbjddonknaaDoorBasC
namespace Go.Proofs.YtheakbjddonknaaDoor.Bs
open Go.RowKit Chr
set_option linter.unusedVariables false
/-- What l09TextOf lays: a box with the classes and the pairs. -/
def TextLays : Prop := ∀ (v : Value) (L : List Int) (w : World), IntsAt w v L → L.length ≤ 1000 →
  Calls Tryd.prog 7 #[v] w fun e w' => ∃ (g : Nat) (fv pv : Value), e = .returned (.pointer (some ⟨g, 0, none⟩)) ∧ w'.cell? ⟨g, 1, none⟩ = some fv ∧ w'.cell? ⟨g, 4, none⟩ = some pv ∧ IntsAt w' fv (L.map clS) ∧ IntsAt w' pv (stk (L.map clS) (L.map clS).length).2 ∧ Below w.heap.size w w'
set_option maxHeartbeats 1000000 in
theorem few_any (s : ByteArray) (w : World) (hs : s.size ≤ 1048576) :
    Calls Tryd.prog 6 #[.string s] w fun e w' => ∃ v b, e = .returned (.tuple #[v, .bool b]) ∧ (b = true → lst s = ptsOut s ∧ IntsAt w' v (lst s)) ∧ (b = false → lst s = []) ∧ Below w.heap.size w w' := by
  by_cases hb : 65536 < s.size
  · have hb' : (65536 : Int) < (s.size : Int) := by omega
    have R : Hid (lst s = []) := hide (by unfold lst ptsOut; rw [if_pos hb]; rfl)
    go_enter Tryd.func6, Tryd.ntmps6
    go_wp2
    go_ret2
    exact ⟨_, _, rfl, fun h => by simp at h, fun _ => unhide R, Below.refl _ _⟩
  have hb' : ¬ (65536 : Int) < (s.size : Int) := by omega
  have PC := hide (l01Points s w (by omega))
  have hp := pts_le s
  have ep : Hid (ptsOut s = pts s) := hide (by unfold ptsOut; rw [if_neg hb])
  go_enter Tryd.func6, Tryd.ntmps6
  go_wp2_with fail
  refine (unhide PC).mono ?_
  rintro e w1 ⟨v, rfl, ho, hbl⟩
  have hat := IntsAt.owned ho
  have HA := hide hat
  have HB := hide hbl
  obtain ⟨a, cap, rfl, _⟩ := hat
  clear ho hbl PC
  by_cases hl : (pts s).length ≤ 1000
  · have hl' : ((pts s).length : Int) ≤ 1000 := by omega
    have R : Hid (lst s = pts s) := hide (by unfold lst; rw [unhide ep, if_neg (by omega)])
    go_wp2
    go_ret2
    exact ⟨_, _, rfl, fun _ => ⟨(unhide R).trans (unhide ep).symm, by rw [unhide R]; exact unhide HA⟩, fun h => by simp at h, unhide HB⟩
  · have hl' : ¬ ((pts s).length : Int) ≤ 1000 := by omega
    have R : Hid (lst s = []) := hide (by unfold lst; rw [unhide ep, if_pos (by omega)])
    go_wp2
    go_ret2
    exact ⟨_, _, rfl, fun h => by simp at h; omega, fun _ => unhide R, unhide HB⟩
theorem map_cl (L : List Int) : (L.map clS).map mp = L.map clI := by
  rw [List.map_map]
  refine List.map_congr_left (fun p _ => ?_)
  exact (cl_eq p).symm
theorem bsK_bas (L : List Int) : bsK (L.map clS) 0 = bsL 0 (L.map clI) := by
  unfold bsK
  rw [map_cl]
  rfl
set_option maxHeartbeats 1000000 in
theorem specBase (TX : TextLays) (s : ByteArray) (w : World) (hs : s.size ≤ 1048576) :
    Calls Tryd.prog 4 #[.string s] w fun e w' => e = .returned (.int .i64 (basA s)) ∧ Below w.heap.size w w' := by
  have FC := hide (few_any s w hs)
  have hl := lst_len s
  go_enter Tryd.func4, Tryd.ntmps4
  go_wp2_with fail
  refine (unhide FC).mono ?_
  rintro e w1 ⟨v, b, rfl, hT, hF, hbl⟩
  have HB := hide hbl
  clear hbl FC
  cases b
  · have R : Hid (basA s = 0) := hide (by unfold basA; rw [hF rfl]; rfl)
    clear hT hF
    go_wp2
    go_ret
    rw [unhide R]
    exact ⟨rfl, unhide HB⟩
  · have hat := (hT rfl).2
    have HA := hide hat
    obtain ⟨a, cap, rfl, _⟩ := hat
    clear hT hF
    go_wp2_with fail
    refine (TX _ (lst s) w1 (unhide HA) hl).mono ?_
    rintro e w2 ⟨g, fv, pv, rfl, c1, c4, h1, h4, hbl⟩
    have BC := hide (base_any g fv pv ((lst s).map clS) w2 c1 c4 h1 h4 (by simp; omega))
    have HB2 := hide ((unhide HB).trans (hbl.mono (unhide HB).size))
    rw [List.length_map, bsK_bas] at BC
    clear hbl c1 c4 h1 h4 HB
    go_wp2_with fail
    refine (unhide BC).mono ?_
    rintro e w3 ⟨rfl, rfl⟩
    go_wp2
    go_ret
    exact ⟨rfl, unhide HB2⟩
set_option maxHeartbeats 1000000 in
theorem lawBase (TX : TextLays) (s : ByteArray) (w : World) (ht : TabAt w) :
    Calls Tryd.prog 3 #[.string s] w fun e w' => e = .returned (.bool true) ∧ Below w.heap.size w w' := by
  have HT := hide ht
  clear ht
  by_cases hb : 1048576 < s.size
  · have hb' : (1048576 : Int) < (s.size : Int) := by omega
    go_enter Tryd.func3, Tryd.ntmps3
    go_wp2
    go_ret
    exact ⟨rfl, Below.refl _ _⟩
  have hb' : ¬ (1048576 : Int) < (s.size : Int) := by omega
  have hne : (basA s != basA s) = false := by simp
  go_enter Tryd.func3, Tryd.ntmps3
  go_wp2_with fail
  refine (specBase TX s w (by omega)).mono ?_
  rintro e w1 ⟨rfl, hbl⟩
  have HB := hide hbl
  clear hbl
  go_wp2_with fail
  refine (implBase s w1 ((unhide HT).below (unhide HB)) (by omega)).mono ?_
  rintro e w2 ⟨rfl, hbl⟩
  have HB2 := hide ((unhide HB).trans (hbl.mono (unhide HB).size))
  clear hbl HB
  go_wp2
  go_ret
  exact ⟨rfl, unhide HB2⟩
end Go.Proofs.YtheakbjddonknaaDoor.Bs
