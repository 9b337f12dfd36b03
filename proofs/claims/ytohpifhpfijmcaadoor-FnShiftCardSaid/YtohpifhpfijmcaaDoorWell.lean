/- A text well written: the text of its points, a thousand at a time. -/
import Derived.Test.YtohpifhpfijmcaaDoorPointsC
import Derived.Test.YtohpifhpfijmcaaDoorTextB
import Derived.WalkMore
namespace Go.Proofs.YtohpifhpfijmcaaDoor
open Go.RowKit
theorem small_one (s : ByteArray) (w : World) (h : s.size ≤ 65536) : Calls Tryd.prog 41 #[.string s] w fun e w' => e = .returned (.string s) ∧ w' = w := by
  go_enter Tryd.func41, Tryd.ntmps41
  go_wp2
  go_ret
  exact ⟨rfl, rfl⟩
theorem textOf_few (v : Value) (l : List Int) (w : World) (h : IntsAt w v l) (hl : l.length ≤ 1000) :
    Calls Tryd.prog 35 #[v] w fun e w' => e = .returned (.string (strOfNums (textL l))) ∧ Below w.heap.size w w' := by
  have H := hide h
  obtain ⟨a, cap, rfl, _⟩ := h
  have hsz : (strOfNums (textL l)).size ≤ 65536 := by rw [strOfNums_size]; have := textL_le l; omega
  have HL : Hid (l.length ≤ 65536) := hide (by omega)
  go_enter Tryd.func35, Tryd.ntmps35
  go_wp2_with (first | (go_at_call 44; refine (l01Text _ l _ (unhide H) (unhide HL)).mono ?_; rintro e w2 ⟨rfl, hb2⟩) | (go_at_call 41; refine (small_one _ _ hsz).mono ?_; rintro e w3 ⟨rfl, rfl⟩))
  go_ret
  exact ⟨rfl, hb2⟩
theorem nums_add (A B : List Int) : strOfNums A ++ strOfNums B = strOfNums (A ++ B) := by
  unfold strOfNums
  apply ByteArray.ext
  simp [ByteArray.data_append]
theorem ptsOut_len (s : ByteArray) : (ptsOut s).length ≤ 65536 := by
  unfold ptsOut
  split
  · simp
  · have := pts_le s; omega
def lenS : Value → Nat
  | .slice _ n _ => n
  | _ => 0
/-- The rest of a row of numbers, from the k-th on. -/
def Rest (w : World) (L : List Int) (k n : Nat) (a : Option Addr) : Prop := n = 0 ∨ ∃ b off, a = some ⟨b, off, none⟩ ∧ b < w.heap.size ∧ ∀ i, i < n → w.cell? ⟨b, off + i, none⟩ = some (.int .i64 (nth L (k + i)))
theorem Rest.ints {w wr : World} {L : List Int} {k n m cap b off : Nat} (hkn : k + n = L.length) (hm : m ≤ n) (hb : b < w.heap.size) (hc : ∀ i, i < n → w.cell? ⟨b, off + i, none⟩ = some (.int .i64 (nth L (k + i)))) (h : Below w.heap.size w wr) : IntsAt wr (.slice (some ⟨b, off, none⟩) m cap) ((L.drop k).take m) := by
  have hl : ((L.drop k).take m).length = m := by simp; omega
  refine ⟨_, _, by rw [hl], .inr ⟨b, off, rfl, Nat.lt_of_lt_of_le hb h.size, fun i hi => ?_⟩⟩
  rw [hl] at hi
  rw [h.cell (p := ⟨b, off + i, none⟩) hb, hc i (by omega)]
  have e : nth ((L.drop k).take m) i = nth L (k + i) := by
    simp [nth, List.getD, List.getElem?_drop, hi]
  rw [e]
set_option maxHeartbeats 4000000 in
set_option maxRecDepth 100000 in
theorem well_any (s : ByteArray) (w : World) (hs : s.size ≤ 1048576) :
    Calls Tryd.prog 11 #[.string s] w fun e w' => e = .returned (.string (strOfNums (textL (ptsOut s)))) ∧ Below w.heap.size w w' := by
  have hle := ptsOut_len s
  go_enter Tryd.func11, Tryd.ntmps11
  go_wp2_with fail
  refine (specPointsOf s _ hs).mono ?_
  rintro e w1 ⟨v, rfl, ho, hb1⟩
  have HB1 := hide hb1
  have hw1 := hb1.size
  obtain ⟨L, hL⟩ : ∃ L, ptsOut s = L := ⟨_, rfl⟩
  rw [hL] at ho hle
  have HL := hide hL
  clear hL hb1
  obtain ⟨a0, cap0, rfl, hR0, hcap0, hcm0⟩ : ∃ a cap, v = .slice a L.length cap ∧ Rest w1 L 0 L.length a ∧ L.length ≤ cap ∧ cap ≤ 9223372036854775807 := by
    rcases ho.2 with ⟨hv, hn⟩ | ⟨g, cap, cur, hv, hg, hh, hn, hm, hs', ht⟩
    · exact ⟨none, 0, by rw [hv, hn], .inl hn, by omega, by omega⟩
    · subst hv
      refine ⟨_, cap, rfl, .inr ⟨g, 0, rfl, (Array.getElem?_eq_some_iff.1 hh).1, fun i hi => ?_⟩, hn, by unfold maxLen at hm; omega⟩
      have hc := ho.cellAt i (by omega)
      rw [Nat.zero_add, hc, List.getElem?_map]
      simp [nth, List.getD, hi]
  have HR0 := hide hR0
  clear ho hR0
  go_wp2
  go_loopw [3, 4] (fun l o wr => ∃ (k n cap : Nat) (a : Option Addr), l = .slice a n cap ∧ o = .string (strOfNums (textL (L.take k))) ∧ k + n = L.length ∧ n ≤ cap ∧ cap ≤ 9223372036854775807 ∧ Hid (Rest w1 L k n a) ∧ Hid (Below w1.heap.size w1 wr)) (fun l _ _ => lenS l)
  case atStart => exact ⟨0, L.length, cap0, a0, rfl, rfl, by omega, hcap0, hcm0, HR0, hide (Below.refl _ _)⟩
  case round =>
    obtain ⟨k, n, cap, a, rfl, rfl, hkn, hnc, hcm, HR, HB⟩ := hrel
    clear HR0
    have HKN := hide hkn
    have hk : k ≤ 65536 := by omega
    have hn : n ≤ 65536 := by omega
    clear hkn hcap0 hcm0
    by_cases hlt : 0 < n
    · obtain ⟨b, off, rfl, hbs, hc⟩ : ∃ b off, a = some ⟨b, off, none⟩ ∧ b < w1.heap.size ∧ ∀ i, i < n → w1.cell? ⟨b, off + i, none⟩ = some (.int .i64 (nth L (k + i))) := by
        rcases unhide HR with h | h
        · omega
        · exact h
      have HC := hide hc
      clear hc HR
      have hm : 1000 < n ∨ n ≤ 1000 := by omega
      rcases hm with hm | hm
      · have HI := hide (Rest.ints (cap := cap) (unhide HKN) (show 1000 ≤ n by omega) hbs (unhide HC) (unhide HB))
        have hlen : ((L.drop k).take 1000).length ≤ 1000 := by simp; omega
        have hadd : ∀ W, (Op.stringOp .add (strOfNums (textL (L.take k))) (strOfNums (textL ((L.drop k).take 1000)))).run Tryd.prog W = .ok (.string (strOfNums (textL (L.take (k + 1000))))) W := fun W => by
          have e : textL (L.take (k + 1000)) = textL (L.take k) ++ textL ((L.drop k).take 1000) := by unfold textL; rw [← List.flatMap_append, ← List.take_add]
          rw [e, ← nums_add]
          refine run_string_add_sum W _ _ ?_
          rw [strOfNums_size, strOfNums_size]
          have h1 := textL_le (L.take k)
          have h2 := textL_le ((L.drop k).take 1000)
          have h3 : (L.take k).length ≤ k := List.length_take_le _ _
          omega
        have HLN := hide hlen
        clear hlen
        go_wp2_with fail
        refine (textOf_few _ _ _ (unhide HI) (unhide HLN)).mono ?_
        rintro e w3 ⟨rfl, hb3⟩
        have HB3 := hide ((unhide HB).trans (hb3.mono (unhide HB).size))
        clear hb3 HB
        go_wp2
        go_roundw
        case rel =>
          refine ⟨k + 1000, n - 1000, cap - 1000, some ⟨b, off + 1000, none⟩, ?_, rfl, by have := unhide HKN; omega, by omega, by omega, hide (.inr ⟨b, off + 1000, rfl, hbs, fun i hi => ?_⟩), HB3⟩
          · first | rfl | (congr 1 <;> omega) | go_num
          · have := (unhide HC) (1000 + i) (by omega)
            rw [← Nat.add_assoc, ← Nat.add_assoc] at this
            exact this
        case measure => simp [lenS]; omega
      · have HI := hide (Rest.ints (cap := cap) (unhide HKN) (Nat.le_refl n) hbs (unhide HC) (unhide HB))
        have hlen : ((L.drop k).take n).length ≤ 1000 := by simp; omega
        have hadd : ∀ W, (Op.stringOp .add (strOfNums (textL (L.take k))) (strOfNums (textL ((L.drop k).take n)))).run Tryd.prog W = .ok (.string (strOfNums (textL (L.take (k + n))))) W := fun W => by
          have e : textL (L.take (k + n)) = textL (L.take k) ++ textL ((L.drop k).take n) := by unfold textL; rw [← List.flatMap_append, ← List.take_add]
          rw [e, ← nums_add]
          refine run_string_add_sum W _ _ ?_
          rw [strOfNums_size, strOfNums_size]
          have h1 := textL_le (L.take k)
          have h2 := textL_le ((L.drop k).take n)
          have h3 : (L.take k).length ≤ k := List.length_take_le _ _
          omega
        have HLN := hide hlen
        clear hlen
        go_wp2_with fail
        refine (textOf_few _ _ _ (unhide HI) (unhide HLN)).mono ?_
        rintro e w3 ⟨rfl, hb3⟩
        have HB3 := hide ((unhide HB).trans (hb3.mono (unhide HB).size))
        clear hb3 HB
        go_wp2
        go_roundw
        case rel =>
          exact ⟨k + n, 0, cap - n, if cap = n then some ⟨b, off, none⟩ else some ⟨b, off + n, none⟩, rfl, rfl, by have := unhide HKN; omega, by omega, by omega, hide (.inl rfl), HB3⟩
        case measure => simp [lenS]; omega
    · obtain rfl : n = 0 := by omega
      have hkL : k = L.length := by have := unhide HKN; omega
      subst hkL
      rw [List.take_length]
      go_wp2
      go_ret
      exact ⟨by rw [unhide HL]; rfl, (unhide HB1).trans ((unhide HB).mono hw1)⟩
end Go.Proofs.YtohpifhpfijmcaaDoor
