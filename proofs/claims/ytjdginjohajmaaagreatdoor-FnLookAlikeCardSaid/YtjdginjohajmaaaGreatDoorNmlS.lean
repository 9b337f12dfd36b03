/- Normalize of the specification; the text of points that is not too long, of both. -/
import Derived.Test.YtjdginjohajmaaaGreatDoorNrmS
import Derived.Test.YtjdginjohajmaaaGreatDoorNPointsI
import Derived.Test.YtjdginjohajmaaaGreatDoorNTextW
namespace Go.Proofs.YtjdginjohajmaaaGreatDoor
open Go.RowKit
theorem steps_bd (s : ByteArray) : ∀ n, ∀ p ∈ (steps s n).1, 0 ≤ p ∧ p ≤ 1114111
  | 0 => by simp [steps]
  | n + 1 => by
    unfold steps
    split
    · rename_i h
      intro p hp
      rcases List.mem_append.1 hp with hp | hp
      · exact steps_bd s n p hp
      · rw [List.mem_singleton] at hp
        have := (dN_bd s _ h).2.2
        omega
    · exact steps_bd s n
theorem pts_bd (s : ByteArray) : ∀ p ∈ pts s, 0 ≤ p ∧ p ≤ 1114111 := steps_bd s _
theorem cmpQ_len (L : List Int) : (cmpQ L).1.length ≤ L.length := (cmpQ_bd _ L rfl).2.2
theorem nrmL_len (f : Int) (l : List Int) : (nrmL f l).length ≤ 4 * l.length := by
  have h1 := nrmA_len (isK f) l
  have h2 := ordL_len (nrmA (isK f) l)
  have h3 := cmpQ_len (ordL (nrmA (isK f) l))
  unfold nrmL
  split <;> omega
/-- A text in a form. -/
def nrmT (f : Int) (s : ByteArray) : List Int := textL (nrmL f (pts s))
/-- What is not too long. -/
def small (t : List Int) : List Int := if 65536 < t.length then [] else t
def nmlOut (f : Int) (s : ByteArray) : List Int := if 65536 < s.size ∨ isF f = false then [] else small (nrmT f s)
set_option maxRecDepth 100000 in
theorem l05TextS (f : Int) (s : ByteArray) (w : World) (hf : isF f = true) (hs : s.size ≤ 131072) :
    Calls Tryz.prog 37 #[.int .i64 f, .string s] w fun e w' => e = .returned (.string (strOfNums (nrmT f s))) ∧ Below w.heap.size w w' := by
  have C1 := hide (fun W => l01Points s W hs)
  have hpl := pts_le s
  have C2 := hide (fun (W : World) (B0 : Nat) (v : Value) (ho : W.ownsRow B0 2 1 v (pts s).length ((pts s).map (Value.int .i64))) => normS f B0 _ v (pts s) W ho (pts_bd s) hf (by omega))
  have hl := nrmL_len f (pts s)
  have C3 := hide (fun (W : World) (v : Value) (h : IntsAt W v (nrmL f (pts s))) => l01Text v _ W h (by omega))
  have HE : Hid (textL (nrmL f (pts s)) = nrmT f s) := hide rfl
  clear hf hs hpl hl
  generalize nrmL f (pts s) = Y at *
  generalize pts s = X at *
  go_enter Tryz.func37, Tryz.ntmps37
  go_wp2_with (first | (go_at_call 30; refine ((unhide C1) _).mono ?_; rintro e w1 ⟨v1, rfl, ho1, hb1⟩) | (go_at_call 41; refine ((unhide C2) _ _ _ ho1).mono ?_; rintro e w2 ⟨v2, rfl, ho2, hb2⟩) | (go_at_call 21; refine ((unhide C3) _ _ (IntsAt.owned ho2)).mono ?_; rintro e w3 ⟨rfl, hb3⟩))
  go_ret
  refine ⟨by rw [← unhide HE]; rfl, (hb1.trans (hb2.mono hb1.size)).trans (hb3.mono (Nat.le_trans hb1.size hb2.size))⟩
theorem smallS (t : List Int) (w : World) : Calls Tryz.prog 20 #[.string (strOfNums t)] w fun e w' => e = .returned (.string (strOfNums (small t))) ∧ w' = w := by
  by_cases h : 65536 < t.length
  · have hz : 65536 < (strOfNums t).size := by rw [strOfNums_size]; exact h
    have HE : Hid (strOfNums (small t) = { data := #[] }) := hide (by unfold small; rw [if_pos h]; rfl)
    clear h
    generalize strOfNums t = s at *
    go_enter Tryz.func20, Tryz.ntmps20
    go_wp2
    go_ret
    exact ⟨by rw [unhide HE]; rfl, rfl⟩
  · have hz : (strOfNums t).size ≤ 65536 := by rw [strOfNums_size]; omega
    have e : small t = t := by unfold small; rw [if_neg h]
    rw [e]
    exact small_any _ w hz
set_option maxRecDepth 100000 in
theorem specNormalize (f : Int) (s : ByteArray) (w : World) (hs1 : s.size ≤ 1048576) :
    Calls Tryz.prog 16 #[.int .i64 f, .string s] w fun e w' => e = .returned (.string (strOfNums (nmlOut f s))) ∧ Below w.heap.size w w' := by
  have CF := hide (fun W => isFormS f W)
  by_cases hs : 65536 < s.size
  · have HE : Hid (strOfNums (nmlOut f s) = { data := #[] }) := hide (by unfold nmlOut; rw [if_pos (.inl hs)]; rfl)
    go_enter Tryz.func16, Tryz.ntmps16
    go_wp2
    go_ret
    exact ⟨by rw [unhide HE]; rfl, Below.refl _ _⟩
  · have hs2 : s.size ≤ 65536 := by omega
    cases hf : isF f with
    | false =>
      have HE : Hid (strOfNums (nmlOut f s) = { data := #[] }) := hide (by unfold nmlOut; rw [if_pos (.inr hf)]; rfl)
      rw [hf] at CF
      clear hf
      go_enter Tryz.func16, Tryz.ntmps16
      go_wp2_with (go_at_call 36; refine ((unhide CF) _).mono ?_; rintro e w1 ⟨rfl, rfl⟩)
      go_ret
      exact ⟨by rw [unhide HE]; rfl, Below.refl _ _⟩
    | true =>
      have HE : Hid (small (nrmT f s) = nmlOut f s) := hide (by unfold nmlOut; rw [if_neg (by rintro (h | h); exact hs h; rw [hf] at h; cases h)])
      have C1 := hide (fun W => l05TextS f s W hf (by omega))
      have C2 := hide (fun W => smallS (nrmT f s) W)
      rw [hf] at CF
      clear hf
      generalize small (nrmT f s) = T2 at *
      generalize nrmT f s = T1 at *
      go_enter Tryz.func16, Tryz.ntmps16
      go_wp2_with (first | (go_at_call 36; refine ((unhide CF) _).mono ?_; rintro e w1 ⟨rfl, rfl⟩) | (go_at_call 37; refine ((unhide C1) _).mono ?_; rintro e w2 ⟨rfl, hb2⟩) | (go_at_call 20; refine ((unhide C2) _).mono ?_; rintro e w3 ⟨rfl, rfl⟩))
      go_ret
      exact ⟨by rw [← unhide HE]; rfl, hb2⟩
theorem boundedI (v : Value) (l : List Int) (w : World) (h : IntsAt w v l) (hl : l.length ≤ 600000) :
    Calls Tryz.prog 18 #[v] w fun e w' => e = .returned (.string (strOfNums (small (textL l)))) ∧ Below w.heap.size w w' := by
  have C := hide (implWritten v l w h hl)
  have hle := textL_le l
  have hz := strOfNums_size (textL l)
  clear h
  by_cases hb : 65536 < (textL l).length
  · have hz2 : 65536 < (strOfNums (textL l)).size := by rw [hz]; exact hb
    have hz3 : (strOfNums (textL l)).size ≤ 2400000 := by rw [hz]; omega
    have HE : Hid (strOfNums (small (textL l)) = { data := #[] }) := hide (by unfold small; rw [if_pos hb]; rfl)
    clear hz hb hle
    generalize small (textL l) = T2 at *
    generalize strOfNums (textL l) = s at *
    go_enter Tryz.func18, Tryz.ntmps18
    go_wp2_with (go_at_call 38; refine (unhide C).mono ?_; rintro e w2 ⟨rfl, hb2⟩)
    go_ret
    exact ⟨by rw [unhide HE]; rfl, hb2⟩
  · have hz2 : (strOfNums (textL l)).size ≤ 65536 := by rw [hz]; omega
    have e : small (textL l) = textL l := by unfold small; rw [if_neg hb]
    rw [e]
    clear hz hb hle e
    generalize strOfNums (textL l) = s at *
    go_enter Tryz.func18, Tryz.ntmps18
    go_wp2_with (go_at_call 38; refine (unhide C).mono ?_; rintro e w2 ⟨rfl, hb2⟩)
    go_ret
    exact ⟨rfl, hb2⟩
end Go.Proofs.YtjdginjohajmaaaGreatDoor
