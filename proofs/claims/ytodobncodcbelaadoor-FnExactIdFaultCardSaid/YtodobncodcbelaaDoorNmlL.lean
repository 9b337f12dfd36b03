/- Normalize of the program, and the law. -/
import Derived.Test.YtodobncodcbelaaDoorNrmI
namespace Go.Proofs.YtodobncodcbelaaDoor
open Go.RowKit
set_option maxRecDepth 100000 in
theorem implNormalize (f : Int) (s : ByteArray) (w : World) (hs1 : s.size ≤ 1048576) :
    Calls Tryd.prog 35 #[.int .i64 f, .string s] w fun e w' => e = .returned (.string (strOfNums (nmlOut f s))) ∧ Below w.heap.size w w' := by
  have CF := hide (fun W => isFormI f W)
  by_cases hs : 65536 < s.size
  · have HE : Hid (strOfNums (nmlOut f s) = { data := #[] }) := hide (by unfold nmlOut; rw [if_pos (.inl hs)]; rfl)
    go_enter Tryd.func35, Tryd.ntmps35
    go_wp2
    go_ret
    exact ⟨by rw [unhide HE]; rfl, Below.refl _ _⟩
  · have hs2 : s.size ≤ 65536 := by omega
    cases hf : isF f with
    | false =>
      have HE : Hid (strOfNums (nmlOut f s) = { data := #[] }) := hide (by unfold nmlOut; rw [if_pos (.inr hf)]; rfl)
      rw [hf] at CF
      clear hf
      go_enter Tryd.func35, Tryd.ntmps35
      go_wp2_with (go_at_call 34; refine ((unhide CF) _).mono ?_; rintro e w1 ⟨rfl, rfl⟩)
      go_ret
      exact ⟨by rw [unhide HE]; rfl, Below.refl _ _⟩
    | true =>
      have HE : Hid (small (textL (nrmL f (pts s))) = nmlOut f s) := hide (by unfold nmlOut nrmT; rw [if_neg (by rintro (h | h); exact hs h; rw [hf] at h; cases h)])
      have hpl := pts_le s
      have hl := nrmL_len f (pts s)
      have C1 := hide (fun W => implPoints s W hs2)
      have C2 := hide (fun (W : World) (B0 : Nat) (v : Value) (ho : W.ownsRow B0 2 1 v (pts s).length ((pts s).map (Value.int .i64))) => normalI f B0 _ v (pts s) W ho (by omega))
      have C3 := hide (fun (W : World) (v : Value) (h : IntsAt W v (nrmL f (pts s))) => boundedI v _ W h (by omega))
      rw [hf] at CF
      clear hf hpl hl
      generalize nrmL f (pts s) = Y at *
      generalize pts s = X at *
      go_enter Tryd.func35, Tryd.ntmps35
      go_wp2_with (first | (go_at_call 34; refine ((unhide CF) _).mono ?_; rintro e w1 ⟨rfl, rfl⟩) | (go_at_call 15; refine ((unhide C1) _).mono ?_; rintro e w2 ⟨v2, rfl, ho2, hb2⟩) | (go_at_call 44; refine ((unhide C2) _ _ _ ho2).mono ?_; rintro e w3 ⟨v3, rfl, ho3, hb3⟩) | (go_at_call 24; refine ((unhide C3) _ _ (IntsAt.owned ho3)).mono ?_; rintro e w4 ⟨rfl, hb4⟩))
      go_ret
      exact ⟨by rw [← unhide HE]; rfl, (hb2.trans (hb3.mono hb2.size)).trans (hb4.mono (Nat.le_trans hb2.size hb3.size))⟩
end Go.Proofs.YtodobncodcbelaaDoor
