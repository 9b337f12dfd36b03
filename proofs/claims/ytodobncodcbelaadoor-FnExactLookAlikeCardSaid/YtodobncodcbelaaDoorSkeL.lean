/- SkeletonOf and LookAlike of the specification; the laws. -/
import Derived.Test.YtodobncodcbelaaDoorSkeT
namespace Go.Proofs.YtodobncodcbelaaDoor.Ske
open Go.RowKit
set_option linter.unusedVariables false
set_option maxRecDepth 100000 in
theorem specSke (s : ByteArray) (w : World) : Calls Tryd.prog 8 #[.string s] w fun e w' => e = .returned (.string (strOfNums (skT s))) ∧ Below w.heap.size w w' := by
  by_cases hs : 65536 < s.size
  · have hs' : (65536 : Int) < (s.size : Int) := by omega
    have HE : Hid (skT s = []) := hide (by
      have e : ptsOut s = [] := by unfold ptsOut; rw [if_pos hs]
      unfold skT ske
      rw [e, nrm_nil]
      show small (textL (nrmL 1 [])) = []
      rw [nrm_nil]
      rfl)
    go_enter Tryd.func8, Tryd.ntmps8
    go_wp2
    go_ret
    exact ⟨by rw [unhide HE]; rfl, Below.refl _ _⟩
  · have hs' : ¬ (65536 : Int) < (s.size : Int) := by omega
    have C1 := hide (skelS s w (by omega))
    have C2 := hide (fun v W h => l01Text v (ske s) W h (ske_len s))
    have C3 := hide (fun W => smallS (textL (ske s)) W)
    have HE : Hid (skT s = small (textL (ske s))) := hide rfl
    generalize skT s = T at *
    generalize small (textL (ske s)) = U at *
    generalize textL (ske s) = V at *
    generalize ske s = Z at *
    go_enter Tryd.func8, Tryd.ntmps8
    go_wp2_with (first
      | (go_at_call 23; refine (unhide C1).mono ?_; rintro e w1 ⟨v1, rfl, ho1, hb1⟩; have I1 := hide (IntsAt.owned ho1); have B1 := hide hb1; clear ho1 hb1)
      | (go_at_call 22; refine ((unhide C2) _ _ (unhide I1)).mono ?_; rintro e w2 ⟨rfl, hb2⟩; have B2 := hide (j2 (unhide B1) hb2); clear hb2)
      | (go_at_call 21; refine ((unhide C3) _).mono ?_; rintro e w' ⟨rfl, hw⟩; obtain rfl := hw.symm; clear hw))
    go_ret
    exact ⟨by rw [unhide HE]; rfl, unhide B2⟩
set_option maxRecDepth 100000 in
set_option maxHeartbeats 1000000 in
theorem specAlk (a b : ByteArray) (w : World) : Calls Tryd.prog 10 #[.string a, .string b] w fun e w' => e = .returned (.bool (alk a b)) ∧ Below w.heap.size w w' := by
  have hU : undef = Value.tuple #[] := rfl
  by_cases ha : a.size ≤ 65536
  · have ha' : (a.size : Int) ≤ 65536 := by omega
    by_cases hb : b.size ≤ 65536
    · have hb' : (b.size : Int) ≤ 65536 := by omega
      have HE := hide (show alk a b = sameB (ske a) (ske b) by simp [alk, ha, hb])
      have CA := hide (fun W => skelS a W ha)
      have CB := hide (fun W => skelS b W hb)
      have HLa := hide (ske_len a)
      have HLb := hide (ske_len b)
      generalize ske a = X at *
      generalize ske b = Y at *
      have TOL : True := trivial
      go_enter Tryd.func10, Tryd.ntmps10
      go_wp2_with (first
        | (clear TOL; go_at_call 23; refine ((unhide CA) _).mono ?_; rintro e w1 ⟨v1, rfl, ho1, hb1⟩; have O1 := hide ho1; have B1 := hide hb1; clear ho1 hb1)
        | (go_at_call 23; refine ((unhide CB) _).mono ?_; rintro e w2 ⟨v2, rfl, ho2, hb2⟩; have O2 := hide ho2; have P1 := hide (ownsRow_below (unhide O1) hb2); have B2 := hide (j2 (unhide B1) hb2); clear ho2 hb2)
        | (go_at_call 26; refine (same_any _ _ X Y _ (IntsAt.owned (unhide P1)) (IntsAt.owned (unhide O2)) (by have := unhide HLa; omega) (by have := unhide HLb; omega)).mono ?_; rintro e w3 ⟨rfl, n3, rfl⟩))
      go_ret
      exact ⟨by rw [unhide HE]; rfl, bdrew (unhide B2) _⟩
    · have hb' : ¬ (b.size : Int) ≤ 65536 := by omega
      have HE := hide (show alk a b = false by simp [alk, hb])
      go_enter Tryd.func10, Tryd.ntmps10
      go_wp2
      go_ret
      exact ⟨by rw [unhide HE]; rfl, Below.refl _ _⟩
  · have ha' : ¬ (a.size : Int) ≤ 65536 := by omega
    have HE := hide (show alk a b = false by simp [alk, ha])
    go_enter Tryd.func10, Tryd.ntmps10
    go_wp2
    go_ret
    exact ⟨by rw [unhide HE]; rfl, Below.refl _ _⟩
set_option maxRecDepth 100000 in
theorem lawSke (s : ByteArray) (w : World) (ht : TabAt w) : Calls Tryd.prog 4 #[.string s] w fun e w' => e = .returned (.bool true) ∧ Below w.heap.size w w' := by
  have HT := hide ht
  clear ht
  by_cases hs : s.size ≤ 1048576
  · have C1 := hide (specSke s w)
    have C2 := hide (fun W h => implSke s W h hs)
    have hs' : ¬ (1048576 : Int) < (s.size : Int) := by omega
    generalize strOfNums (skT s) = t at *
    go_enter Tryd.func4, Tryd.ntmps4
    go_wp2_with (first
      | (go_at_call 8; refine (unhide C1).mono ?_; rintro e w1 ⟨rfl, hb1⟩; have T1 := hide ((unhide HT).below hb1); have B1 := hide hb1; clear hb1)
      | (go_at_call 9; refine ((unhide C2) _ (unhide T1)).mono ?_; rintro e w2 ⟨rfl, hb2⟩; have B2 := hide (j2 (unhide B1) hb2); clear hb2))
    go_ret
    exact ⟨rfl, unhide B2⟩
  · have hs' : (1048576 : Int) < (s.size : Int) := by omega
    go_enter Tryd.func4, Tryd.ntmps4
    go_wp2
    go_ret
    exact ⟨rfl, Below.refl _ _⟩
set_option maxRecDepth 100000 in
theorem lawAlk (a b : ByteArray) (w : World) (ht : TabAt w) : Calls Tryd.prog 5 #[.string a, .string b] w fun e w' => e = .returned (.bool true) ∧ Below w.heap.size w w' := by
  have HT := hide ht
  clear ht
  by_cases ha : 1048576 < a.size
  · go_enter Tryd.func5, Tryd.ntmps5
    go_wp2
    go_ret
    exact ⟨rfl, Below.refl _ _⟩
  by_cases hb : 1048576 < b.size
  · go_enter Tryd.func5, Tryd.ntmps5
    go_wp2
    go_ret
    exact ⟨rfl, Below.refl _ _⟩
  · have SP := hide (fun W => specAlk a b W)
    have IM := hide (fun W h => implAlk a b W h)
    generalize alk a b = T at *
    have hne : (T != T) = false := by simp
    go_enter Tryd.func5, Tryd.ntmps5
    go_wp2_with (first | (go_at_call 10; refine ((unhide SP) _).mono ?_; rintro e w1 ⟨rfl, hb1⟩; have B1 := hide hb1; clear hb1) | (go_at_call 11; refine ((unhide IM) _ ((unhide HT).below (unhide B1))).mono ?_; rintro e w2 ⟨rfl, hb2⟩; have B2 := hide (j2 (unhide B1) hb2); clear hb2))
    go_ret
    exact ⟨rfl, unhide B2⟩
end Go.Proofs.YtodobncodcbelaaDoor.Ske
