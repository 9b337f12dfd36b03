/- The specification's reading of eight, all of it. -/
import Derived.Test.YtiianallpmfcbaaDoorEight
import Derived.Lib.ValidLaws
import Derived.Lib.TrimUEq
namespace Go.Proofs.YtiianallpmfcbaaDoor
open Go.RowKit
def usedAt (w : World) (R : Nat) : Nat := match w.cell? ⟨R, 2, none⟩ with | some (.int _ z) => z.toNat | _ => 0
theorem usedAt_of {w : World} {B R u nb : Nat} (h : RS w B R u nb) : usedAt w R = u := by
  unfold usedAt; rw [h.used]; simp
/-- So far: nothing broken, and what is left tells; or something is broken. -/
def SoFar (s : ByteArray) (u nb : Nat) : Prop := (nb = 0 ∧ Lib.validD (s.data.toList.drop u) = Lib.validD s.data.toList) ∨ (0 < nb ∧ Lib.validD s.data.toList = false)
theorem soFar_step {s : ByteArray} {u nb u' nb' : Nat} (h : SoFar s u nb) (hu : u < s.size)
    (hs : (NB.okB (dP s u) (dN s u) = true ∧ u' = u + dN s u ∧ nb' = nb) ∨ (NB.okB (dP s u) (dN s u) = false ∧ nb' = nb + 1)) : SoFar s u' nb' := by
  have hne : s.data.toList.drop u ≠ [] := by
    intro e
    have := congrArg List.length e
    simp at this
    omega
  have hst := Lib.validD_step _ hne
  rw [Lib.decodeL_drop] at hst
  have hP : (Utf8.decode s u).1 = dP s u := rfl
  have hN : (Utf8.decode s u).2 = dN s u := rfl
  rw [hP, hN, List.drop_drop] at hst
  rcases hs with ⟨hok, rfl, rfl⟩ | ⟨hok, rfl⟩
  · have hn : ¬ (dP s u = 65533 ∧ dN s u = 1) := by
      intro hh
      have : NB.okB (dP s u : Int) (dN s u : Int) = false := by unfold NB.okB; simp; omega
      rw [this] at hok; cases hok
    rw [if_neg hn] at hst
    rcases h with ⟨h0, hv⟩ | h
    · exact .inl ⟨h0, by rw [← hst]; exact hv⟩
    · exact .inr h
  · have hy : dP s u = 65533 ∧ dN s u = 1 := by
      have := hok
      unfold NB.okB at this
      simp at this
      omega
    rw [if_pos hy] at hst
    rcases h with ⟨h0, hv⟩ | ⟨h0, hv⟩
    · exact .inr ⟨by omega, by rw [← hv]; exact hst⟩
    · exact .inr ⟨by omega, hv⟩
theorem soFar_end {s : ByteArray} {u nb : Nat} (h : SoFar s u nb) (hu : s.size ≤ u) : nb = 0 ↔ Lib.validD s.data.toList = true := by
  have hd : s.data.toList.drop u = [] := List.drop_eq_nil_of_le (by simpa using hu)
  rcases h with ⟨h0, hv⟩ | ⟨h0, hv⟩
  · rw [hd] at hv
    rw [← hv]
    exact ⟨fun _ => Lib.validD_nil, fun _ => h0⟩
  · rw [hv]
    constructor
    · intro e; omega
    · intro e; cases e
/-- What the reading answers: how many pieces are broken. -/
def Told (s : ByteArray) (e : Ending) : Prop := ∃ x a n c z, e = .returned (.agg #[x, .slice a n c, z]) ∧ (n = 0 ↔ Lib.validD s.data.toList = true)
theorem rs_zero (w : World) : RS ((w.alloc (.cells #[.slice none 0 0, .slice none 0 0, .int .i64 0] 40)).alloc (.cells #[.slice none 0 0, .slice none 0 0, .int .i64 0] 40)) (w.heap.size + 1) (w.heap.size + 1) 0 0 :=
  ⟨.slice none 0 0, .slice none 0 0, 0, [], [], by have := heap_alloc_new (w.alloc (.cells #[.slice none 0 0, .slice none 0 0, .int .i64 0] 40)) (.cells #[.slice none 0 0, .slice none 0 0, .int .i64 0] 40); simpa using this, World.ownsRow_nil _ _ _ _, World.ownsRow_nil _ _ _ _, Nat.le_refl _, Nat.le_refl _, fun k h => by cases h⟩
set_option maxHeartbeats 4000000 in
theorem decode1 (s : ByteArray) (w : World) (hs : s.size ≤ 1048576) :
    Calls Tryd.prog 20 #[.int .i64 1, .string s, .bool true] w fun e w' => Told s e ∧ Below w.heap.size w w' := by
  have R0 := hide (rs_zero w)
  have B0 : Hid (Below (w.heap.size + 1) (w.alloc (.cells #[.slice none 0 0, .slice none 0 0, .int .i64 0] 40)) ((w.alloc (.cells #[.slice none 0 0, .slice none 0 0, .int .i64 0] 40)).alloc (.cells #[.slice none 0 0, .slice none 0 0, .int .i64 0] 40))) := hide ((Below.refl _ _).alloc (by simp) _)
  have RC : Hid ((w.alloc (.cells #[.slice none 0 0, .slice none 0 0, .int .i64 0] 40)).heap[w.heap.size]? = some (.cells #[.slice none 0 0, .slice none 0 0, .int .i64 0] 40)) := hide (heap_alloc_new _ _)
  have S0 : Hid (SoFar s 0 0) := hide (.inl ⟨rfl, by simp⟩)
  have BW : Hid (Below w.heap.size w (w.alloc (.cells #[.slice none 0 0, .slice none 0 0, .int .i64 0] 40))) := hide ((Below.refl _ _).alloc (Nat.le_refl _) _)
  have hsW : (w.alloc (.cells #[.slice none 0 0, .slice none 0 0, .int .i64 0] 40)).heap.size = w.heap.size + 1 := by simp
  obtain ⟨W0, hW0⟩ : ∃ W0, w.alloc (.cells #[.slice none 0 0, .slice none 0 0, .int .i64 0] 40) = W0 := ⟨_, rfl⟩
  rw [hW0] at R0 B0 RC BW hsW
  go_enter Tryd.func20, Tryd.ntmps20
  go_wp2
  clear hW0
  go_loopw [9] (fun _ wr => ∃ u nb : Nat, u ≤ s.size ∧ nb ≤ u ∧ Hid (SoFar s u nb) ∧ Hid (RS wr (w.heap.size + 1) (w.heap.size + 1) u nb) ∧ Hid (Below (w.heap.size + 1) W0 wr)) (fun _ wr => s.size - usedAt wr (w.heap.size + 1))
  case atStart => exact ⟨0, 0, by omega, by omega, S0, R0, B0⟩
  case round =>
    obtain ⟨u, nb, hu, hnb, HS, HR, HB⟩ := hrel
    clear R0 B0 S0
    have c2 := (unhide HR).used
    have hBs := (unhide HB).size
    have HM := hide (usedAt_of (unhide HR))
    by_cases hlt : u < s.size
    · have hlt' : (u : Int) < (s.size : Int) := by omega
      go_wp2_with fail
      refine (eight_any s _ (w.heap.size + 1) (w.heap.size + 1) u nb (unhide HR) hlt hs (by omega) (by omega)).mono ?_
      rintro e w2 ⟨rfl, u', nb', hr, hb, h1, h2, hst⟩
      have HR2 := hide hr
      have HB2 := hide ((unhide HB).trans hb)
      have hnb' : nb' ≤ u' := by rcases hst with ⟨_, _, h⟩ | ⟨_, h⟩ <;> omega
      have HS2 := hide (soFar_step (unhide HS) hlt hst)
      have HM2 := hide (usedAt_of (unhide HR2))
      clear hr hb hst c2
      go_wp2
      go_roundw
      case rel => exact ⟨u', nb', by omega, by omega, HS2, HR2, HB2⟩
      case measure => rw [unhide HM, unhide HM2]; omega
    · have hge : (s.size : Int) ≤ (u : Int) := by omega
      have HE := hide (soFar_end (unhide HS) (by omega))
      obtain ⟨vp, vb, np, xp, xb, hh, hop, hob, _, _, _⟩ := unhide HR
      obtain ⟨a1, c1, hvp⟩ := own_form hop
      obtain ⟨a2, c2', hvb⟩ := own_form hob
      subst hvp hvb
      obtain ⟨d0, d1, d2, g0, g1, g2⟩ := read_cells hh
      have hr0 := ((unhide HB).block w.heap.size (by omega)).trans (unhide RC)
      obtain ⟨e0, e1, e2, k0, k1, k2⟩ := read_cells hr0
      have HB9 := hide ((unhide BW).trans ((unhide HB).mono (by omega)))
      have hr9 : (((wr.setCell ⟨w.heap.size, 0, none⟩ (.slice a1 np c1)).setCell ⟨w.heap.size, 1, none⟩ (.slice a2 nb c2')).setCell ⟨w.heap.size, 2, none⟩ (.int .i64 u)).heap[w.heap.size]? = some (.cells #[.slice a1 np c1, .slice a2 nb c2', .int .i64 u] 40) :=
        heap_setCell_same _ w.heap.size 2 _ 40 (.int .i64 u) (heap_setCell_same _ w.heap.size 1 _ 40 (.slice a2 nb c2') (heap_setCell_same wr w.heap.size 0 _ 40 (.slice a1 np c1) hr0))
      have hr7 := heap_setCell_same wr w.heap.size 0 _ 40 (.slice a1 np c1) hr0
      have hr8 := heap_setCell_same _ w.heap.size 1 _ 40 (.slice a2 nb c2') hr7
      have p0 : (wr.setCell ⟨w.heap.size, 0, none⟩ (.slice a1 np c1)).cell? ⟨w.heap.size, 0, none⟩ = some (.slice a1 np c1) := (read_cells hr7).1
      have p1 : ((wr.setCell ⟨w.heap.size, 0, none⟩ (.slice a1 np c1)).setCell ⟨w.heap.size, 1, none⟩ (.slice a2 nb c2')).cell? ⟨w.heap.size, 1, none⟩ = some (.slice a2 nb c2') := (read_cells hr8).2.1
      obtain ⟨q0, q1, q2, _, _, _⟩ := read_cells hr9
      clear hh hop hob hr0 HR HS hr7 hr8 hr9
      go_wp2
      try simp only [Exit.inBlock, Exit.then]
      refine bodyPost_ret (by simp [results, Tryd.results20, go_sem, p0, p1, q2]; try rfl) rfl ?_
      exact ⟨⟨_, _, _, _, _, rfl, unhide HE⟩, below_set (below_set (below_set (unhide HB9) (Nat.le_refl _) _) (Nat.le_refl _) _) (Nat.le_refl _) _⟩
end Go.Proofs.YtiianallpmfcbaaDoor
