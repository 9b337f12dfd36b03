/- The classes of points that cuts of words ask for, as the program tells them. -/
import Derived.Test.YtdgafmhjbgddkaaDoorWrdP
import Derived.Test.YtdgafmhjbgddkaaDoorChrI
namespace Go.Proofs.YtdgafmhjbgddkaaDoor
namespace Wrd
open Go.RowKit
open Chr (cat ctl mrk)
theorem jn {w w1 w2 : World} (h : Below w.heap.size w w1) (h2 : Below w1.heap.size w1 w2) : Below w.heap.size w w2 := h.trans (h2.mono h.size)
theorem bel_al {w w' : World} (h : ∃ o, w' = w.alloc o) : Below w.heap.size w w' := by obtain ⟨o, rfl⟩ := h; exact (Below.refl _ _).alloc (Nat.le_refl _) _
theorem catB (p : Int) (w : World) (ht : TabAt w) : Calls Tryd.prog 91 #[.int .i64 p] w fun e w' => e = .returned (.int .i64 (cat p)) ∧ Below w.heap.size w w' :=
  (Chr.cat_any p w ht).mono fun _ _ h => ⟨h.1, bel_al h.2⟩
theorem ctlB (p : Int) (w : World) (ht : TabAt w) : Calls Tryd.prog 66 #[.int .i64 p] w fun e w' => e = .returned (.bool (ctl p)) ∧ Below w.heap.size w w' :=
  (Chr.isControl_any p w ht).mono fun _ _ h => ⟨h.1, bel_al h.2⟩
theorem mrkB (p : Int) (w : World) (ht : TabAt w) : Calls Tryd.prog 89 #[.int .i64 p] w fun e w' => e = .returned (.bool (mrk p)) ∧ Below w.heap.size w w' :=
  (Chr.isMark_any p w ht).mono fun _ _ h => ⟨h.1, bel_al h.2⟩
set_option maxRecDepth 100000 in
theorem spaceB (p : Int) (w : World) (ht : TabAt w) : Calls Tryd.prog 67 #[.int .i64 p] w fun e w' => e = .returned (.bool (cat p == 2)) ∧ Below w.heap.size w w' := by
  have C := hide (catB p w ht)
  clear ht
  generalize cat p = c at *
  go_enter Tryd.func67, Tryd.ntmps67
  go_wp2_with (go_at_call 91; refine (unhide C).mono ?_; rintro e w2 ⟨rfl, hb2⟩)
  go_ret
  exact ⟨rfl, hb2⟩
set_option maxRecDepth 100000 in
theorem dgtB (p : Int) (w : World) (ht : TabAt w) : Calls Tryd.prog 76 #[.int .i64 p] w fun e w' => e = .returned (.bool (dgt p)) ∧ Below w.heap.size w w' := by
  have C := hide (catB p w ht)
  clear ht
  unfold dgt
  generalize cat p = c at *
  go_enter Tryd.func76, Tryd.ntmps76
  go_wp2_with (go_at_call 91; refine (unhide C).mono ?_; rintro e w2 ⟨rfl, hb2⟩)
  go_ret
  exact ⟨rfl, hb2⟩
set_option maxRecDepth 100000 in
theorem ideB (p : Int) (w : World) (ht : TabAt w) : Calls Tryd.prog 47 #[.int .i64 p] w fun e w' => e = .returned (.bool (scr p == 9)) ∧ Below w.heap.size w w' := by
  have C := hide (scrI_any p w ht)
  clear ht
  generalize scr p = c at *
  go_enter Tryd.func47, Tryd.ntmps47
  go_wp2_with (go_at_call 77; refine (unhide C).mono ?_; rintro e w2 ⟨rfl, hb2⟩)
  go_ret
  exact ⟨rfl, hb2⟩
set_option maxRecDepth 100000 in
theorem hcsB (p : Int) (w : World) (ht : TabAt w) : Calls Tryd.prog 92 #[.int .i64 p] w fun e w' => e = .returned (.bool (hcs p)) ∧ Below w.heap.size w w' := by
  have C := hide (catB p w ht)
  clear ht
  have HE : Hid (hcs p = (cat p == 4 || cat p == 5 || cat p == 6)) := hide rfl
  generalize hcs p = D at *
  generalize cat p = c at *
  cases h4 : (c == 4) <;> cases h5 : (c == 5) <;> cases h6 : (c == 6)
  all_goals
    rw [h4, h5, h6] at HE
    go_enter Tryd.func92, Tryd.ntmps92
    go_wp2_with (go_at_call 91; refine (unhide C).mono ?_; rintro e w2 ⟨rfl, hb2⟩)
    go_ret
    exact ⟨by rw [unhide HE]; rfl, hb2⟩
set_option maxRecDepth 100000 in
set_option maxHeartbeats 4000000 in
theorem ltrB (p : Int) (w : World) (ht : TabAt w) : Calls Tryd.prog 75 #[.int .i64 p] w fun e w' => e = .returned (.bool (ltr p)) ∧ Below w.heap.size w w' := by
  have HT := hide ht
  have C1 := hide (hcsB p w ht)
  have C2 := hide (fun W (h : TabAt W) => catB p W h)
  have C3 := hide (fun W (h : TabAt W) => isPart_any p W h)
  have C4 := hide (fun W (h : TabAt W) => ideB p W h)
  clear ht
  have HE : Hid (ltr p = (hcs p || (cat p == 7 && !(scr p == 8) && !(scr p == 9)))) := hide rfl
  generalize ltr p = D at *
  generalize hcs p = k at *
  generalize (scr p == 8) = x8 at *
  generalize (scr p == 9) = x9 at *
  generalize cat p = c at *
  have run : ∀ (D : Bool), (D = (k || (c == 7 && !x8 && !x9))) → Calls Tryd.prog 75 #[.int .i64 p] w fun e w' => e = .returned (.bool D) ∧ Below w.heap.size w w' := by
    clear HE
    cases k
    · cases h7 : (c == 7)
      · intro D HE
        have HD := hide HE
        clear HE
        go_enter Tryd.func75, Tryd.ntmps75
        go_wp2_with (first | (go_at_call 92; refine (unhide C1).mono ?_; rintro e w2 ⟨rfl, hb2⟩; have B2 := hide hb2; have T2 := hide ((unhide HT).below hb2); clear hb2) | (go_at_call 91; refine ((unhide C2) _ (unhide T2)).mono ?_; rintro e w3 ⟨rfl, hb3⟩; have B3 := hide (jn (unhide B2) hb3); clear hb3))
        go_ret
        exact ⟨by rw [unhide HD]; rfl, unhide B3⟩
      · cases x8
        · intro D HE
          have HD := hide HE
          clear HE
          cases x9
          all_goals
            go_enter Tryd.func75, Tryd.ntmps75
            go_wp2_with (first | (go_at_call 92; refine (unhide C1).mono ?_; rintro e w2 ⟨rfl, hb2⟩; have B2 := hide hb2; have T2 := hide ((unhide HT).below hb2); clear hb2) | (go_at_call 91; refine ((unhide C2) _ (unhide T2)).mono ?_; rintro e w3 ⟨rfl, hb3⟩; have B3 := hide (jn (unhide B2) hb3); have T3 := hide ((unhide T2).below hb3); clear hb3) | (go_at_call 46; refine ((unhide C3) _ (unhide T3)).mono ?_; rintro e w4 ⟨rfl, hb4⟩; have B4 := hide (jn (unhide B3) hb4); have T4 := hide ((unhide T3).below hb4); clear hb4) | (go_at_call 47; refine ((unhide C4) _ (unhide T4)).mono ?_; rintro e w5 ⟨rfl, hb5⟩; have B5 := hide (jn (unhide B4) hb5); clear hb5))
            go_ret
            exact ⟨by rw [unhide HD]; rfl, unhide B5⟩
        · intro D HE
          have HD := hide HE
          clear HE
          go_enter Tryd.func75, Tryd.ntmps75
          go_wp2_with (first | (go_at_call 92; refine (unhide C1).mono ?_; rintro e w2 ⟨rfl, hb2⟩; have B2 := hide hb2; have T2 := hide ((unhide HT).below hb2); clear hb2) | (go_at_call 91; refine ((unhide C2) _ (unhide T2)).mono ?_; rintro e w3 ⟨rfl, hb3⟩; have B3 := hide (jn (unhide B2) hb3); have T3 := hide ((unhide T2).below hb3); clear hb3) | (go_at_call 46; refine ((unhide C3) _ (unhide T3)).mono ?_; rintro e w4 ⟨rfl, hb4⟩; have B4 := hide (jn (unhide B3) hb4); clear hb4))
          go_ret
          exact ⟨by rw [unhide HD]; rfl, unhide B4⟩
    · intro D HE
      have HD := hide HE
      clear HE
      go_enter Tryd.func75, Tryd.ntmps75
      go_wp2_with (go_at_call 92; refine (unhide C1).mono ?_; rintro e w2 ⟨rfl, hb2⟩; have B2 := hide hb2; clear hb2)
      go_ret
      exact ⟨by rw [unhide HD]; rfl, unhide B2⟩
  exact run D (unhide HE)
set_option maxRecDepth 100000 in
theorem lodB (p : Int) (w : World) (ht : TabAt w) : Calls Tryd.prog 45 #[.int .i64 p] w fun e w' => e = .returned (.bool (lod p)) ∧ Below w.heap.size w w' := by
  have HT := hide ht
  have C1 := hide (ltrB p w ht)
  have C2 := hide (fun W (h : TabAt W) => dgtB p W h)
  clear ht
  unfold lod
  generalize ltr p = k at *
  generalize dgt p = c at *
  cases k
  · go_enter Tryd.func45, Tryd.ntmps45
    go_wp2_with (first | (go_at_call 75; refine (unhide C1).mono ?_; rintro e w2 ⟨rfl, hb2⟩; have B2 := hide hb2; have T2 := hide ((unhide HT).below hb2); clear hb2) | (go_at_call 76; refine ((unhide C2) _ (unhide T2)).mono ?_; rintro e w3 ⟨rfl, hb3⟩; have B3 := hide (jn (unhide B2) hb3); clear hb3))
    go_ret
    exact ⟨rfl, unhide B3⟩
  · go_enter Tryd.func45, Tryd.ntmps45
    go_wp2_with (go_at_call 75; refine (unhide C1).mono ?_; rintro e w2 ⟨rfl, hb2⟩; have B2 := hide hb2; clear hb2)
    go_ret
    exact ⟨rfl, unhide B2⟩
set_option maxRecDepth 100000 in
set_option maxHeartbeats 1000000 in
theorem mblB (p : Int) (w : World) (ht : TabAt w) : Calls Tryd.prog 68 #[.int .i64 p] w fun e w' => e = .returned (.bool (mbl p)) ∧ Below w.heap.size w w' := by
  have HT := hide ht
  have C1 := hide (mrkB p w ht)
  have C2 := hide (fun W (h : TabAt W) => catB p W h)
  clear ht
  have HE : Hid (mbl p = (mrk p || (cat p == 11 && !(p == 7954) && !(p == 173)))) := hide rfl
  generalize mbl p = D at *
  generalize mrk p = k at *
  generalize cat p = c at *
  cases k
  · cases h7 : (c == 11)
    · rw [h7] at HE
      go_enter Tryd.func68, Tryd.ntmps68
      go_wp2_with (first | (go_at_call 89; refine (unhide C1).mono ?_; rintro e w2 ⟨rfl, hb2⟩; have B2 := hide hb2; have T2 := hide ((unhide HT).below hb2); clear hb2) | (go_at_call 91; refine ((unhide C2) _ (unhide T2)).mono ?_; rintro e w3 ⟨rfl, hb3⟩; have B3 := hide (jn (unhide B2) hb3); clear hb3))
      go_ret
      exact ⟨by rw [unhide HE]; rfl, unhide B3⟩
    · rw [h7] at HE
      cases hp : (p == 7954)
      · rw [hp] at HE
        have hp' : (p != 7954) = true := by simp [bne, hp]
        go_enter Tryd.func68, Tryd.ntmps68
        go_wp2_with (first | (go_at_call 89; refine (unhide C1).mono ?_; rintro e w2 ⟨rfl, hb2⟩; have B2 := hide hb2; have T2 := hide ((unhide HT).below hb2); clear hb2) | (go_at_call 91; refine ((unhide C2) _ (unhide T2)).mono ?_; rintro e w3 ⟨rfl, hb3⟩; have B3 := hide (jn (unhide B2) hb3); clear hb3))
        go_ret
        exact ⟨by rw [unhide HE]; rfl, unhide B3⟩
      · rw [hp] at HE
        have hp' : (p != 7954) = false := by simp [bne, hp]
        go_enter Tryd.func68, Tryd.ntmps68
        go_wp2_with (first | (go_at_call 89; refine (unhide C1).mono ?_; rintro e w2 ⟨rfl, hb2⟩; have B2 := hide hb2; have T2 := hide ((unhide HT).below hb2); clear hb2) | (go_at_call 91; refine ((unhide C2) _ (unhide T2)).mono ?_; rintro e w3 ⟨rfl, hb3⟩; have B3 := hide (jn (unhide B2) hb3); clear hb3))
        go_ret
        exact ⟨by rw [unhide HE]; rfl, unhide B3⟩
  · go_enter Tryd.func68, Tryd.ntmps68
    go_wp2_with (go_at_call 89; refine (unhide C1).mono ?_; rintro e w2 ⟨rfl, hb2⟩; have B2 := hide hb2; clear hb2)
    go_ret
    exact ⟨by rw [unhide HE]; rfl, unhide B2⟩
end Wrd
end Go.Proofs.YtdgafmhjbgddkaaDoor
