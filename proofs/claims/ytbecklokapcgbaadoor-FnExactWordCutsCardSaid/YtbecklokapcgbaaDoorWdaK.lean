/- WordCuts of the program and of the specification. -/
import Derived.Test.YtbecklokapcgbaaDoorWdaS
import Derived.Test.YtbecklokapcgbaaDoorChrL
namespace Go.Proofs.YtbecklokapcgbaaDoor
namespace Wrd
open Go.RowKit
open Chr (cutsL BoolsAt cutsAhead_any cutsNil own_mono)
set_option linter.unusedVariables false
/-- What WordCuts answers. -/
def wcO (s : ByteArray) (T : List Tl) : List Int := if 65536 < s.size ∨ 1000 < T.length then [] else wcA s T
theorem wcO_le (s : ByteArray) (T : List Tl) : (wcO s T).length ≤ 65537 := by
  unfold wcO
  split
  · simp
  · rename_i h
    unfold wcA
    have h1 := outk_len s T (alA (pts s)).length
    have h2 := alA_len (pts s)
    have h3 := pts_le s
    rw [List.length_append]
    split <;> simp <;> omega
set_option maxRecDepth 100000 in
set_option maxHeartbeats 4000000 in
theorem implWC (s : ByteArray) (vt : Value) (T : List Tl) (w : World) (ht : TabAt w) (hs : s.size ≤ 1048576) (htl : TlAt w vt T) (hT : T.length ≤ 1048576) :
    Calls Tryd.prog 8 #[.string s, vt] w fun e w' => ∃ v, e = .returned v ∧ w'.ownsRow w.heap.size 2 1 v (wcO s T).length ((wcO s T).map (Value.int .i64)) ∧ Below w.heap.size w w' := by
  have HT := hide ht
  have HTL := hide htl
  obtain ⟨ta, tc, rfl, _⟩ := htl
  clear ht
  by_cases h1000 : 1000 < T.length
  · have h' : (1000 : Int) < (T.length : Int) := by omega
    have e : wcO s T = [] := if_pos (.inr h1000)
    rw [e]
    clear e
    go_enter Tryd.func8, Tryd.ntmps8
    go_wp2
    go_ret
    exact ⟨_, rfl, World.ownsRow_nil _ _ _ _, Below.refl _ _⟩
  · have h' : ¬ (1000 : Int) < (T.length : Int) := by omega
    have CP := hide (fun W => implPointsOf s W hs)
    have CS := hide (fun v W h1 h2 h3 => startsW v (ptsOut s) (.slice ta T.length tc) T W h1 (ptsOut_le s) h2 h3 hT)
    by_cases hb : 65536 < s.size
    · have e : ptsOut s = [] := by unfold ptsOut; rw [if_pos hb]
      have e2 : wcO s T = [] := if_pos (.inl hb)
      rw [e] at CP CS
      rw [e2]
      clear e e2
      go_enter Tryd.func8, Tryd.ntmps8
      go_wp2_with (first
        | (go_at_call 23; refine ((unhide CP) _).mono ?_; rintro e w1 ⟨v1, rfl, ho1, hb1⟩; have B1 := hide hb1; have O1 := hide ho1; clear ho1 hb1)
        | (go_at_call 22; refine ((unhide CS) _ _ (IntsAt.owned (unhide O1)) ((unhide HT).below (unhide B1)) ((unhide HTL).below (unhide B1))).mono ?_; rintro e w2 ⟨g, rfl, hh2, hb2⟩; have B2 := hide ((unhide B1).trans (hb2.mono (unhide B1).size)); clear hb2 hh2)
        | (go_at_call 21; refine (cutsNil s _ _ _).mono ?_; rintro e w3 ⟨v3, rfl, ho3, hb3⟩; have O3 := hide (own_mono ho3 (unhide B2).size); have B3 := hide ((unhide B2).trans (hb3.mono (unhide B2).size)); clear ho3 hb3))
      go_ret
      exact ⟨_, rfl, unhide O3, unhide B3⟩
    · have e : ptsOut s = pts s := by unfold ptsOut; rw [if_neg hb]
      have e2 : wcO s T = cutsL s (wB (pts s) T (alA (pts s)).length) := by rw [cuts_wcA]; exact if_neg (fun h => h.elim hb h1000)
      rw [e] at CP CS
      rw [e2]
      have CC := hide (fun g c W h => cutsAhead_any s g c (wB (pts s) T (alA (pts s)).length) W (by omega) (wB_len _ _ _) h)
      rw [wB_len] at CC
      clear e e2
      go_enter Tryd.func8, Tryd.ntmps8
      go_wp2_with (first
        | (go_at_call 23; refine ((unhide CP) _).mono ?_; rintro e w1 ⟨v1, rfl, ho1, hb1⟩; have B1 := hide hb1; have O1 := hide ho1; clear ho1 hb1)
        | (go_at_call 22; refine ((unhide CS) _ _ (IntsAt.owned (unhide O1)) ((unhide HT).below (unhide B1)) ((unhide HTL).below (unhide B1))).mono ?_; rintro e w2 ⟨g, rfl, hh2, hb2⟩; have B2 := hide ((unhide B1).trans (hb2.mono (unhide B1).size)); have H2 := hide hh2; clear hb2 hh2)
        | (go_at_call 21; refine ((unhide CC) _ _ _ (unhide H2)).mono ?_; rintro e w3 ⟨v3, rfl, ho3, hb3⟩; have O3 := hide (own_mono ho3 (unhide B2).size); have B3 := hide ((unhide B2).trans (hb3.mono (unhide B2).size)); clear ho3 hb3))
      go_ret
      exact ⟨_, rfl, unhide O3, unhide B3⟩
set_option maxRecDepth 100000 in
theorem specWC (s : ByteArray) (vt : Value) (T : List Tl) (w : World) (hs : s.size ≤ 1048576) (htl : TlAt w vt T) (hT : T.length ≤ 1048576) :
    Calls Tryd.prog 6 #[.string s, vt] w fun e w' => ∃ v, e = .returned v ∧ IntsAt w' v (wcO s T) ∧ Below w.heap.size w w' := by
  have CS := hide (fun h => wordsS s vt T w h htl hT)
  obtain ⟨ta, tc, rfl, _⟩ := htl
  by_cases hb : 65536 < s.size
  · have hb' : (65536 : Int) < (s.size : Int) := by omega
    have HE := hide (show wcO s T = [] from if_pos (.inl hb))
    clear CS
    go_enter Tryd.func6, Tryd.ntmps6
    go_wp2
    go_ret
    refine ⟨_, rfl, ?_, (Below.refl _ _).alloc (Nat.le_refl _) _⟩
    rw [unhide HE]
    exact ⟨_, _, rfl, .inl rfl⟩
  · have hb' : ¬ (65536 : Int) < (s.size : Int) := by omega
    by_cases h1000 : 1000 < T.length
    · have h' : (1000 : Int) < (T.length : Int) := by omega
      have HE := hide (show wcO s T = [] from if_pos (.inr h1000))
      clear CS
      go_enter Tryd.func6, Tryd.ntmps6
      go_wp2
      go_ret
      refine ⟨_, rfl, ?_, (Below.refl _ _).alloc (Nat.le_refl _) _⟩
      rw [unhide HE]
      exact ⟨_, _, rfl, .inl rfl⟩
    · have h' : ¬ (1000 : Int) < (T.length : Int) := by omega
      have HE := hide (show wcO s T = wcA s T from if_neg (fun h => h.elim hb h1000))
      have C2 := hide ((unhide CS) (by omega))
      clear CS
      go_enter Tryd.func6, Tryd.ntmps6
      go_wp2_with (go_at_call 19; refine (unhide C2).mono ?_; rintro e w1 ⟨v1, rfl, hv1, hb1⟩; have B1 := hide hb1; have I1 := hide hv1; clear hv1 hb1)
      go_ret
      exact ⟨_, rfl, by rw [unhide HE]; exact unhide I1, unhide B1⟩
end Wrd
end Go.Proofs.YtbecklokapcgbaaDoor
