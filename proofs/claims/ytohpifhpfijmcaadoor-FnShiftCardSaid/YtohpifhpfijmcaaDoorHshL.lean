/- The law on DecodeShift, walked. -/
import Derived.Test.YtohpifhpfijmcaaDoorHshS
import Derived.Test.YtohpifhpfijmcaaDoorHshD
namespace Go.Proofs.YtohpifhpfijmcaaDoor
open Go.RowKit
theorem iDecShift_big (s : ByteArray) (w : World) (hs : 65536 < s.size) (hs2 : s.size ≤ 1048576) :
    Calls Tryd.prog 10 #[.string s] w fun e w' => e = .returned (legV (2, 0, [])) ∧ Below w.heap.size w w' := by
  go_enter Tryd.func10, Tryd.ntmps10
  go_wp2
  go_step3
  go_wp2
  rw [Exit.noGoto_ret]
  refine bodyPost_ret (by simp [results, Tryd.results10, go_sem]; try rfl) rfl ?_
  exact ⟨rfl, (Below.refl _ _).alloc (Nat.le_refl _) _⟩
theorem sDecShift_big (s : ByteArray) (w : World) (hs : 65536 < s.size) (hs2 : s.size ≤ 1048576) :
    Calls Tryd.prog 19 #[.string s] w fun e w' => e = .returned (legV (2, 0, [])) ∧ Below w.heap.size w w' := by
  go_enter Tryd.func19, Tryd.ntmps19
  go_wp2
  go_returns
  exact ⟨rfl, (Below.refl _ _).alloc (Nat.le_refl _) _⟩
theorem iDecH (s : ByteArray) (w : World) (hs2 : s.size ≤ 1048576) (ht : TabAt w) :
    Calls Tryd.prog 10 #[.string s] w fun e w' => e = .returned (legV (shiftD s)) ∧ Below w.heap.size w w' := by
  unfold shiftD
  by_cases h : 65536 < s.size
  · rw [if_pos h]; exact iDecShift_big s w h hs2
  · rw [if_neg h]; exact iDecShift s w (by omega) ht
theorem sDecH (s : ByteArray) (w : World) (hs2 : s.size ≤ 1048576) :
    Calls Tryd.prog 19 #[.string s] w fun e w' => e = .returned (legV (shiftD s)) ∧ Below w.heap.size w w' := by
  unfold shiftD
  by_cases h : 65536 < s.size
  · rw [if_pos h]; exact sDecShift_big s w h hs2
  · rw [if_neg h]; exact sDecShift s w (by omega)
set_option maxRecDepth 100000 in
theorem lawDecShift (s : ByteArray) (w : World) (ht : TabAt w) :
    Calls Tryd.prog 6 #[.string s] w fun e w' => e = .returned (.bool true) ∧ Below w.heap.size w w' := by
  have HT := hide ht
  clear ht
  by_cases hl : 1048576 < s.size
  · go_enter Tryd.func6, Tryd.ntmps6
    go_wp2
    go_ret
    exact ⟨rfl, Below.refl _ _⟩
  have hl' : s.size ≤ 1048576 := by omega
  obtain ⟨⟨x0, x1, x2⟩, hx⟩ : ∃ x, shiftD s = x := ⟨_, rfl⟩
  have S1 : Hid (∀ W, Calls Tryd.prog 19 #[.string s] W fun e w' => e = .returned (.agg #[.int .i64 x0, .int .i64 x1, .string (strOfNums x2)]) ∧ Below W.heap.size W w') := hide fun W => by
    have h := sDecH s W hl'
    rw [hx] at h
    exact h
  have S2 : Hid (∀ W, TabAt W → Calls Tryd.prog 10 #[.string s] W fun e w' => e = .returned (.agg #[.int .i64 x0, .int .i64 x1, .string (strOfNums x2)]) ∧ Below W.heap.size W w') := hide fun W hW => by
    have h := iDecH s W hl' hW
    rw [hx] at h
    exact h
  clear hx
  generalize strOfNums x2 = t at *
  go_enter Tryd.func6, Tryd.ntmps6
  go_wp2_with fail
  refine ((unhide S1) _).mono ?_
  rintro e w1 ⟨rfl, hb1⟩
  have HB1 := hide hb1
  clear hb1
  go_wp2_with fail
  refine ((unhide S2) _ (((unhide HT).below (unhide HB1)).alloc _)).mono ?_
  rintro e w2 ⟨rfl, hb2⟩
  have hc2 : w2.heap[w1.heap.size]? = some (.cells #[.int .i64 x0, .int .i64 x1, .string t] 25) := (hb2.block _ (by simp)).trans (heap_alloc_new _ _)
  have hlt : w1.heap.size < w2.heap.size := (Array.getElem?_eq_some_iff.1 hc2).1
  have HB2 : Hid (Below w.heap.size w w2) := hide (((unhide HB1).alloc (unhide HB1).size _).trans (hb2.mono (by have := (unhide HB1).size; simp; omega)))
  have k0 : ∀ o, (w2.alloc o).cell? ⟨w1.heap.size, 0, none⟩ = some (.int .i64 x0) := fun o => (((Below.refl _ _).alloc (Nat.le_refl _) o).cell (p := ⟨w1.heap.size, 0, none⟩) hlt).trans (store3 hc2).1
  have k1 : ∀ o, (w2.alloc o).cell? ⟨w1.heap.size, 1, none⟩ = some (.int .i64 x1) := fun o => (((Below.refl _ _).alloc (Nat.le_refl _) o).cell (p := ⟨w1.heap.size, 1, none⟩) hlt).trans (store3 hc2).2.1
  have k2 : ∀ o, (w2.alloc o).cell? ⟨w1.heap.size, 2, none⟩ = some (.string t) := fun o => (((Below.refl _ _).alloc (Nat.le_refl _) o).cell (p := ⟨w1.heap.size, 2, none⟩) hlt).trans (store3 hc2).2.2.1
  clear hb2 HB1 hc2
  go_wp2_with fail
  refine (eqLeg_same x0 x1 t _).mono ?_
  rintro e w3 ⟨rfl, hb3⟩
  have HB3 := hide (((unhide HB2).alloc (unhide HB2).size _).trans (hb3.mono (by have := (unhide HB2).size; simp; omega)))
  clear hb3 HB2
  go_wp2
  go_ret
  exact ⟨rfl, unhide HB3⟩
end Go.Proofs.YtohpifhpfijmcaaDoor
