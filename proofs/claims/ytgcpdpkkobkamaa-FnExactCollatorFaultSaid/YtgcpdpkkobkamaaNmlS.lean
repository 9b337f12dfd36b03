/- Normalize of the specification; the text of points that is not too long, of both. -/
import Derived.Test.YtgcpdpkkobkamaaNrmS
import Derived.Test.YtgcpdpkkobkamaaNPointsI
import Derived.Test.YtgcpdpkkobkamaaNTextW
namespace Go.Proofs.Ytgcpdpkkobkamaa
open Go.RowKit
theorem steps_bd (s : ByteArray) : ∀ n, ∀ p ∈ (steps s n).1, 0 ≤ p ∧ p ≤ 1114111
  | 0 => by simp [steps]
  | n + 1 => by
    unfold steps
    split
    · rename_i h
      intro p hp
      rcases List.mem_append.1 hp with hp | hp
      · exact steps_bd s n p hp
      · rw [List.mem_singleton] at hp
        have := (dN_bd s _ h).2.2
        omega
    · exact steps_bd s n
theorem pts_bd (s : ByteArray) : ∀ p ∈ pts s, 0 ≤ p ∧ p ≤ 1114111 := steps_bd s _
theorem cmpQ_len (L : List Int) : (cmpQ L).1.length ≤ L.length := (cmpQ_bd _ L rfl).2.2
theorem nrmL_len (f : Int) (l : List Int) : (nrmL f l).length ≤ 4 * l.length := by
  have h1 := nrmA_len (isK f) l
  have h2 := ordL_len (nrmA (isK f) l)
  have h3 := cmpQ_len (ordL (nrmA (isK f) l))
  unfold nrmL
  split <;> omega
/-- A text in a form. -/
def nrmT (f : Int) (s : ByteArray) : List Int := textL (nrmL f (pts s))
/-- What is not too long. -/
def small (t : List Int) : List Int := if 65536 < t.length then [] else t
def nmlOut (f : Int) (s : ByteArray) : List Int := if 65536 < s.size ∨ isF f = false then [] else small (nrmT f s)
theorem boundedI (v : Value) (l : List Int) (w : World) (h : IntsAt w v l) (hl : l.length ≤ 600000) :
    Calls Try.prog 44 #[v] w fun e w' => e = .returned (.string (strOfNums (small (textL l)))) ∧ Below w.heap.size w w' := by
  have C := hide (implWritten v l w h hl)
  have hle := textL_le l
  have hz := strOfNums_size (textL l)
  clear h
  by_cases hb : 65536 < (textL l).length
  · have hz2 : 65536 < (strOfNums (textL l)).size := by rw [hz]; exact hb
    have hz3 : (strOfNums (textL l)).size ≤ 2400000 := by rw [hz]; omega
    have HE : Hid (strOfNums (small (textL l)) = { data := #[] }) := hide (by unfold small; rw [if_pos hb]; rfl)
    clear hz hb hle
    generalize small (textL l) = T2 at *
    generalize strOfNums (textL l) = s at *
    go_enter Try.func44, Try.ntmps44
    go_wp2_with (go_at_call 51; refine (unhide C).mono ?_; rintro e w2 ⟨rfl, hb2⟩)
    go_ret
    exact ⟨by rw [unhide HE]; rfl, hb2⟩
  · have hz2 : (strOfNums (textL l)).size ≤ 65536 := by rw [hz]; omega
    have e : small (textL l) = textL l := by unfold small; rw [if_neg hb]
    rw [e]
    clear hz hb hle e
    generalize strOfNums (textL l) = s at *
    go_enter Try.func44, Try.ntmps44
    go_wp2_with (go_at_call 51; refine (unhide C).mono ?_; rintro e w2 ⟨rfl, hb2⟩)
    go_ret
    exact ⟨rfl, hb2⟩
end Go.Proofs.Ytgcpdpkkobkamaa
