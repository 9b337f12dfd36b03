/- GlyphsOf of the program and of the specification, and the law. -/
import Derived.Test.YthmbnlgcfibjeaaDoorGlyT
import Derived.Test.YthmbnlgcfibjeaaDoorGlyF
namespace Go.Proofs.YthmbnlgcfibjeaaDoor.Gly
open Go.RowKit Chr
set_option linter.unusedVariables false
/-- The glyphs of a text. -/
def glyS (s : ByteArray) : List (Int × Int × Int) := ord (ginS s)
theorem glyS_len (s : ByteArray) : (glyS s).length ≤ 65536 := by unfold glyS; rw [ord_len, ginS_len]; exact ptsOut_le s
theorem implG (s : ByteArray) (w : World) (ht : TabAt w) (hs : s.size ≤ 1048576) : Calls Tryd.prog 5 #[.string s] w fun e w' => ∃ v, e = .returned v ∧ GR w' w.heap.size v (glyS s) ∧ Below w.heap.size w w' :=
  glyphs_of s (ginS s) (by rw [ginS_len]; exact ptsOut_le s) (inOrder s hs) w ht
set_option maxHeartbeats 1000000 in
theorem specG (s : ByteArray) (w : World) (hs : s.size ≤ 1048576) : Calls Tryd.prog 4 #[.string s] w fun e w' => ∃ v, e = .returned v ∧ (∃ B, GR w' B v (glyS s)) ∧ Below w.heap.size w w' := by
  by_cases hb : 65536 < s.size
  · have hb' : (65536 : Int) < (s.size : Int) := by omega
    have e : glyS s = [] := List.eq_nil_of_length_eq_zero (by unfold glyS; rw [ord_len, ginS_len]; unfold ptsOut; rw [if_pos hb]; rfl)
    have HE := hide e
    have HO : Hid (GR (w.alloc (.cells #[] 30)) w.heap.size (.slice (some ⟨w.heap.size, 0, none⟩) 0 0) []) := hide (World.ownsRow_lit w #[] 0 (Nat.le_refl _) (by unfold maxLen; omega) rfl)
    clear e
    go_enter Tryd.func4, Tryd.ntmps4
    go_wp2
    go_ret
    exact ⟨_, rfl, ⟨_, by rw [unhide HE]; exact unhide HO⟩, (Below.refl _ _).alloc (Nat.le_refl _) _⟩
  · have hb' : ¬ (65536 : Int) < (s.size : Int) := by omega
    have e : glyS s = ord (gin s (pts s) (Shp.frs (pts s)) (bsS (pts s)) (pts s).length) := by
      have ep : ptsOut s = pts s := by unfold ptsOut; rw [if_neg hb]
      unfold glyS ginS
      rw [ep, sts_eq]
    have HE := hide e
    have C := hide (sGlyphs s w (by omega))
    rw [← unhide HE] at C
    clear e
    go_enter Tryd.func4, Tryd.ntmps4
    go_wp2_with fail
    refine (unhide C).mono ?_
    rintro e w1 ⟨v, rfl, ⟨B, ho⟩, hb⟩
    have O1 := hide ho
    have B1 := hide hb
    clear ho hb
    go_wp2
    go_ret
    exact ⟨_, rfl, ⟨_, unhide O1⟩, unhide B1⟩
theorem grown_belG {w w' : World} {v : Value} {B : Nat} (hg : w.grownBy w' v.ownBlock) (hv : ∀ k, v.ownBlock = some k → B ≤ k) (hB : B ≤ w.heap.size) : Below B w w' := (Below.refl _ _).grown hg hB hv
set_option maxHeartbeats 4000000 in
set_option maxRecDepth 100000 in
theorem lawGlyphs (s : ByteArray) (w : World) (ht : TabAt w) : Calls Tryd.prog 3 #[.string s] w fun e w' => e = .returned (.bool true) ∧ Below w.heap.size w w' := by
  by_cases hs : 1048576 < s.size
  · have hs' : (1048576 : Int) < (s.size : Int) := by omega
    go_enter Tryd.func3, Tryd.ntmps3
    go_wp2
    go_ret
    exact ⟨rfl, Below.refl _ _⟩
  have hs' : ¬ (1048576 : Int) < (s.size : Int) := by omega
  have HT := hide ht
  have SP := hide (specG s w (by omega))
  have IM := hide (fun W h => implG s W h (by omega))
  have hn := glyS_len s
  clear ht
  generalize glyS s = G at *
  obtain ⟨m, hm⟩ : ∃ m, m = G.length := ⟨_, rfl⟩
  rw [← hm] at hn
  have h0 : ¬ (1 + (m : Int) * 5) < 0 := by omega
  have hne : ((1 + (m : Int) * 5) != (1 + (m : Int) * 5)) = false := by simp
  go_enter Tryd.func3, Tryd.ntmps3
  go_wp2_with fail
  refine (unhide SP).mono ?_
  rintro e w1 ⟨v0, rfl, ⟨B0, ho⟩, hb⟩
  have S1 := hide ho
  have W1 := hide hb
  have N1 : Hid (∀ k, v0.ownBlock = some k → k < w1.heap.size) := hide (fun k hk => (World.ownsRow.lt (unhide S1) k hk).2)
  clear ho hb SP
  go_wp2_with fail
  refine ((unhide IM) _ ((unhide HT).below (unhide W1))).mono ?_
  rintro e w2 ⟨g, rfl, ho, hb⟩
  have G2 := hide ho
  have N2 : Hid (∀ k, g.ownBlock = some k → w1.heap.size ≤ k) := hide (fun k hk => (World.ownsRow.lt (unhide G2) k hk).1)
  have S2 := hide ((unhide S1).below hb)
  have W2 := hide hb
  clear ho hb S1
  go_wp2_with fail
  refine (eqGlyphs_any _ _ G _ _ _ (unhide G2) (unhide S2) (by omega)).mono ?_
  rintro e w3 ⟨rfl, hb⟩
  have G3 : Hid (FR w3 w1.heap.size g m (flt G)) := hide (by have := (unhide G2).below hb; unfold GR at this; rw [← hm] at this; exact this)
  have S3 := hide ((unhide S2).below hb)
  have W3 := hide ((unhide W2).trans (hb.mono (unhide W2).size))
  clear hb G2 S2 W2
  go_wp2_with fail
  refine (markG _ m _ _ _ (by omega) (unhide G3)).mono ?_
  rintro e w4 ⟨rfl, hmk, hg⟩
  have M4 := hide hmk
  have S4 : Hid (GR w4 B0 v0 G) := hide (rowAt (unhide S3) (fun k hk => hg.block k (World.ownsRow.lt (unhide S3) k hk).2 (fun e => by have a := unhide N1 k hk; have b := unhide N2 k e.symm; omega)))
  have W4 := hide ((unhide W3).trans (grown_belG hg (unhide N2) (unhide W3).size))
  clear hmk hg G3 S3 W3
  go_wp2_with fail
  refine (heldG _ m _ _ (by omega) (unhide M4)).mono ?_
  rintro e w5 ⟨rfl, e5⟩
  have e6 := e5.symm
  subst e6
  clear e5
  go_wp2_with fail
  refine ((unhide IM) _ (((unhide HT).below (unhide W1)).below (unhide W4))).mono ?_
  rintro e w6 ⟨h, rfl, ho, hb⟩
  have H6 := hide ho
  have M6 : Hid (FR w6 w1.heap.size g m (mks (m * 5))) := hide (ownsRow_below (unhide M4) hb)
  have S6 := hide ((unhide S4).below hb)
  have W6 := hide ((unhide W4).trans (hb.mono (unhide W4).size))
  clear ho hb M4 S4 W4
  go_wp2_with fail
  refine (eqGlyphs_any _ _ G _ _ _ (unhide H6) (unhide S6) (by omega)).mono ?_
  rintro e w7 ⟨rfl, hb⟩
  have M7 : Hid (FR w7 w1.heap.size g m (mks (m * 5))) := hide (ownsRow_below (unhide M6) hb)
  have W7 := hide ((unhide W6).trans (hb.mono (unhide W6).size))
  clear hb M6 S6 W6 H6
  go_wp2_with fail
  refine (heldG _ m _ _ (by omega) (unhide M7)).mono ?_
  rintro e w8 ⟨rfl, e8⟩
  have e9 := e8.symm
  subst e9
  clear e8
  go_wp2
  go_ret
  exact ⟨rfl, (unhide W1).trans ((unhide W7).mono (unhide W1).size)⟩
end Go.Proofs.YthmbnlgcfibjeaaDoor.Gly
