/- The sound of a text: the law. -/
import Derived.Test.YtamigjljgepfiaaGreatDoorSndS
import Derived.Test.YtamigjljgepfiaaGreatDoorLaidBC
namespace Go.Proofs.YtamigjljgepfiaaGreatDoor
namespace Snd
open Go.RowKit
set_option linter.unusedVariables false
theorem noneS_any (s : ByteArray) (w : World) (hs : s.size ≤ 65536) (H : ∀ W, Calls Tryz.prog 6 #[.string s] W fun e w' => ∃ v, e = .returned (.tuple #[v, .bool false]) ∧ Below W.heap.size W w') :
    Calls Tryz.prog 4 #[.string s] w fun e w' => e = .returned (.string (strOfNums [])) ∧ Below w.heap.size w w' := by
  have hle : ¬ (65536 : Int) < (s.size : Int) := by omega
  have CW := hide H
  clear H
  go_enter Tryz.func4, Tryz.ntmps4
  go_wp2_with (go_at_call 6; refine ((unhide CW) _).mono ?_; clear CW; rintro e w1 ⟨v1, rfl, hB1⟩; have B1 := hide hB1; clear hB1)
  go_ret
  exact ⟨rfl, unhide B1⟩
theorem specSound (s : ByteArray) (w : World) (hs : s.size ≤ 1048576) :
    Calls Tryz.prog 4 #[.string s] w fun e w' => e = .returned (.string (strOfNums (sndT s))) ∧ Below w.heap.size w w' := by
  unfold sndT
  by_cases h1 : 65536 < s.size
  · rw [if_pos h1]
    have hgt : (65536 : Int) < (s.size : Int) := by omega
    go_enter Tryz.func4, Tryz.ntmps4
    go_wp2
    go_ret
    exact ⟨rfl, Below.refl _ _⟩
  · rw [if_neg h1]
    by_cases h2 : (Chr.chA s).length ≤ 200
    · rw [if_pos h2]
      exact soundS_any s (by omega) h2 w
    · rw [if_neg h2]
      refine noneS_any s w (by omega) fun W => ?_
      have := l16_any s W (by omega)
      rw [decide_eq_false h2] at this
      exact this
set_option maxRecDepth 100000 in
theorem lawSound (s : ByteArray) (w : World) (ht : Cas.Both w) : Calls Tryz.prog 3 #[.string s] w fun e w' => e = .returned (.bool true) ∧ Below w.heap.size w w' := by
  have HT := hide ht
  clear ht
  by_cases hs : 1048576 < s.size
  · have hgt : (1048576 : Int) < (s.size : Int) := by omega
    go_enter Tryz.func3, Tryz.ntmps3
    go_wp2
    go_ret
    exact ⟨rfl, Below.refl _ _⟩
  · have hgt : ¬ (1048576 : Int) < (s.size : Int) := by omega
    have SP := hide (fun W => specSound s W (by omega))
    have IM := hide (fun W (h : Cas.Both W) => implSound s W h.1 h.2 (by omega))
    generalize sndT s = T at *
    go_enter Tryz.func3, Tryz.ntmps3
    go_wp2_with (first | (go_at_call 4; refine ((unhide SP) _).mono ?_; rintro e w1 ⟨rfl, hb1⟩; have B1 := hide hb1; clear hb1) | (go_at_call 5; refine ((unhide IM) _ ⟨(unhide HT).1.below (unhide B1), (unhide HT).2.below (unhide B1)⟩).mono ?_; rintro e w2 ⟨rfl, hb2⟩; have B2 := hide ((unhide B1).trans (hb2.mono (unhide B1).size)); clear hb2))
    go_ret
    exact ⟨rfl, unhide B2⟩
end Snd
end Go.Proofs.YtamigjljgepfiaaGreatDoor
