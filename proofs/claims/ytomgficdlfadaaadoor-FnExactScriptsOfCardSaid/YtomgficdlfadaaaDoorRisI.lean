/- Numbers told of points, in rising order, each once: as the program tells them. -/
import Derived.Test.YtomgficdlfadaaaDoorRisC
import Derived.Test.YtomgficdlfadaaaDoorNPointsI
import Derived.Test.YtomgficdlfadaaaDoorAppG
import Derived.Test.YtomgficdlfadaaaDoorShelfS
import Derived.Lib.SlKeysI
namespace Go.Proofs.YtomgficdlfadaaaDoor.Ris
open Go.RowKit Go.Shelf
set_option linter.unusedVariables false
theorem j2 {w w1 w2 : World} (h : Below w.heap.size w w1) (k : Below w1.heap.size w1 w2) : Below w.heap.size w w2 := h.trans (k.mono h.size)
theorem bf {a b : Int} (h : ¬ a = b) : (a == b) = false := by rw [beq_eq_false_iff_ne]; exact h
theorem bt' {a b : Int} (h : a = b) : (a == b) = true := by rw [beq_iff_eq]; exact h
theorem rd_at {w : World} {v : Value} {L : List Int} (h : IntsAt w v L) (hl : 0 < L.length) : ∃ b off cap, v = .slice (some ⟨b, off, none⟩) L.length cap ∧ b < w.heap.size ∧ ∀ i, i < L.length → w.cell? ⟨b, off + i, none⟩ = some (.int .i64 (nth L i)) := by
  obtain ⟨a, cap, rfl, h⟩ := h
  rcases h with h | ⟨b, off, rfl, hbs, hc⟩
  · rw [h] at hl; simp at hl
  · exact ⟨b, off, cap, rfl, hbs, hc⟩
theorem caseI (p : Int) (w : World) (ht : TabAt w) : Calls Tryd.prog 27 #[.int .i64 p] w fun e w' => e = .returned (.bool (catI p == 4 || catI p == 5 || catI p == 6)) ∧ Below w.heap.size w w' := by
  have C := hide (implCat p w ht)
  clear ht
  generalize catI p = c at *
  by_cases h4 : c = 4
  · subst h4
    go_enter Tryd.func27, Tryd.ntmps27
    go_wp2_with (go_at_call 28; refine (unhide C).mono ?_; rintro e w1 ⟨rfl, hb1⟩)
    go_ret
    exact ⟨rfl, hb1⟩
  · have n4 := bf h4
    by_cases h5 : c = 5
    · subst h5
      go_enter Tryd.func27, Tryd.ntmps27
      go_wp2_with (go_at_call 28; refine (unhide C).mono ?_; rintro e w1 ⟨rfl, hb1⟩)
      go_ret
      exact ⟨rfl, hb1⟩
    · have n5 := bf h5
      by_cases h6 : c = 6
      · subst h6
        go_enter Tryd.func27, Tryd.ntmps27
        go_wp2_with (go_at_call 28; refine (unhide C).mono ?_; rintro e w1 ⟨rfl, hb1⟩)
        go_ret
        exact ⟨rfl, hb1⟩
      · have n6 := bf h6
        rw [n4, n5, n6]
        go_enter Tryd.func27, Tryd.ntmps27
        go_wp2_with (go_at_call 28; refine (unhide C).mono ?_; rintro e w1 ⟨rfl, hb1⟩)
        go_ret
        exact ⟨rfl, hb1⟩
theorem letrI (p : Int) (w : World) (ht : TabAt w) : Calls Tryd.prog 16 #[.int .i64 p] w fun e w' => e = .returned (.bool (let1 p)) ∧ Below w.heap.size w w' := by
  have hU : undef = Value.tuple #[] := rfl
  have C := hide (caseI p w ht)
  have C2 := hide (fun W (h : Below w.heap.size w W) => implCat p W (ht.below h))
  clear ht
  have HL : Hid (let1 p = ((catI p == 4 || catI p == 5 || catI p == 6) || catI p == 7)) := hide rfl
  generalize (catI p == 4 || catI p == 5 || catI p == 6) = a at *
  generalize let1 p = l at *
  generalize catI p = c at *
  cases a with
  | true =>
    go_enter Tryd.func16, Tryd.ntmps16
    go_wp2_with (go_at_call 27; refine (unhide C).mono ?_; rintro e w1 ⟨rfl, hb1⟩; have B1 := hide hb1; clear hb1)
    go_ret
    exact ⟨by rw [unhide HL]; rfl, unhide B1⟩
  | false =>
    rw [Bool.false_or] at HL
    go_enter Tryd.func16, Tryd.ntmps16
    go_wp2_with (first
      | (go_at_call 27; refine (unhide C).mono ?_; rintro e w1 ⟨rfl, hb1⟩; have B1 := hide hb1; clear hb1)
      | (go_at_call 28; refine ((unhide C2) _ (unhide B1)).mono ?_; rintro e w2 ⟨rfl, hb2⟩; have B2 := hide (j2 (unhide B1) hb2); clear hb2))
    go_ret
    exact ⟨by rw [unhide HL]; rfl, unhide B2⟩
theorem digB (p : Int) (w : World) (ht : TabAt w) : Calls Tryd.prog 19 #[.int .i64 p] w fun e w' => e = .returned (.bool (dgt1 p)) ∧ Below w.heap.size w w' := by
  have C := hide (implCat p w ht)
  unfold dgt1
  clear ht
  generalize catI p = c at *
  go_enter Tryd.func19, Tryd.ntmps19
  go_wp2_with (go_at_call 28; refine (unhide C).mono ?_; rintro e w1 ⟨rfl, hb1⟩)
  go_ret
  exact ⟨rfl, hb1⟩
theorem scr_bd (p : Int) : -512 ≤ scr p ∧ scr p ≤ 1114111 := by
  rw [← scr_i]
  unfold scrI
  have hbd := row_bd (twin p)
  have ht := twin_bd p
  split <;> omega
set_option maxRecDepth 100000 in
theorem sysB (p : Int) (w : World) (ht : TabAt w) : Calls Tryd.prog 20 #[.int .i64 p] w fun e w' => e = .returned (.int .i64 (sysI p)) ∧ Below w.heap.size w w' := by
  have C := hide (scrI_any p w ht)
  clear ht
  have hb := scr_bd p
  have HE : Hid (sysI p = if 0 < scr p then scr p - 1 else if p < 10016 then 0 else 6) := hide rfl
  generalize sysI p = z at *
  generalize scr p = c at *
  obtain ⟨c0, c1⟩ := hb
  by_cases h1 : 0 < c
  · rw [if_pos h1] at HE
    go_enter Tryd.func20, Tryd.ntmps20
    go_wp2_with (go_at_call 17; refine (unhide C).mono ?_; rintro e w1 ⟨rfl, hb1⟩; have B1 := hide hb1; clear hb1)
    go_ret
    exact ⟨by rw [unhide HE]; rfl, unhide B1⟩
  · rw [if_neg h1] at HE
    by_cases h2 : p < 10016
    · rw [if_pos h2] at HE
      go_enter Tryd.func20, Tryd.ntmps20
      go_wp2_with (go_at_call 17; refine (unhide C).mono ?_; rintro e w1 ⟨rfl, hb1⟩; have B1 := hide hb1; clear hb1)
      go_ret
      exact ⟨by rw [unhide HE]; rfl, unhide B1⟩
    · rw [if_neg h2] at HE
      go_enter Tryd.func20, Tryd.ntmps20
      go_wp2_with (go_at_call 17; refine (unhide C).mono ?_; rintro e w1 ⟨rfl, hb1⟩; have B1 := hide hb1; clear hb1)
      go_ret
      exact ⟨by rw [unhide HE]; rfl, unhide B1⟩
/-- slices.Sort of a row of the call's own. -/
theorem sortR (w0 w : World) (B g n cap : Nat) (O : List Int) (hn : n ≤ 1048576) (h : Rw w0 w B g n cap O) : Calls Tryd.prog 25 #[.slice (some ⟨g, 0, none⟩) n cap] w fun e w' => e = .returned (.tuple #[]) ∧ Rw w0 w' B g n cap (srt O) := by
  have hl := h.len
  subst hl
  obtain ⟨h1, h2⟩ | ⟨g', cap', cur, hv, hB, hh, hc1, hc2, hc3, hc4⟩ := h.ow.2
  · cases h1
  cases hv
  have hH := holds_of_block_i hh (by simpa using hc4)
  have C := AnyM.slices_Sort_int Tryd.laysSort g 0 cap O w hH (Array.getElem?_eq_some_iff.1 hh).1 (by omega)
  refine Calls.mono C ?_
  rintro e w' ⟨rfl, m, os, rfl⟩
  refine ⟨rfl, ?_, ?_⟩
  · have := ownsRow_sorted_i (n := m) (os := os) (ss := O) (ts := srt O) (base := B) (cap := cap) (List.length_mergeSort _) hB hh hc1 hc2 (by simpa using hc3)
    exact this
  · exact h.gr.trans (grownBy_sorted_i _)
end Go.Proofs.YtomgficdlfadaaaDoor.Ris
