/- A rope of a text, the specification's and the program's; two ropes held against each other. -/
import Derived.Test.YtjhmkiecpefniaaDoorRopB
namespace Go.Proofs.YtjhmkiecpefniaaDoor.Rop
open Go.RowKit
set_option linter.unusedVariables false
theorem two_cellsR {w : World} {g : Nat} {a b : Value} {T : TypeId} (h : w.heap[g]? = some (.cells #[a, b] T (0, 0))) : w.cell? ⟨g, 0, none⟩ = some a ∧ w.cell? ⟨g, 1, none⟩ = some b ∧ w.frozen? ⟨g, 0, none⟩ = false ∧ w.frozen? ⟨g, 1, none⟩ = false := by
  refine ⟨?_, ?_, ?_, ?_⟩ <;> simp [World.cell?, World.frozen?, h]
theorem two_put {A : Nat} {w : World} {v x y : Value} {L : List Nd} (h : Ny (A + 1) w v L) : Ny (A + 1) ((w.setCell ⟨A, 0, none⟩ x).setCell ⟨A, 1, none⟩ y) v L :=
  ownsRow_setCell_below (ownsRow_setCell_below h (a := ⟨A, 0, none⟩) (by show A < A + 1; omega) x) (a := ⟨A, 1, none⟩) (by show A < A + 1; omega) y
set_option maxRecDepth 100000 in
set_option maxHeartbeats 2000000 in
theorem specRope (t : ByteArray) (T : RT) (h : IsTr t T) (w : World) (hs : t.size ≤ 65536) :
    Calls Tryd.prog 9 #[.string t] w fun e w' => ∃ v, e = .returned (.agg #[v, .slice none 0 0]) ∧ Ny w.heap.size w' v (nds T 0) ∧ Below w.heap.size w w' := by
  have hc := h.count.1
  have hle : ¬ (65536 : Int) < (t.size : Int) := by omega
  have CB := hide (fun B v W (ho : Ny B W v []) (hb : B ≤ W.heap.size) => buildS h B v [] W ho hb (by simp; omega) hs)
  go_enter Tryd.func9, Tryd.ntmps9
  go_wp2_with fail
  have e1 : (w.alloc (.cells #[.slice none 0 0, .slice none 0 0] 25)).heap.size = w.heap.size + 1 := by simp
  have o0 : Ny (w.heap.size + 1) ((w.alloc (.cells #[.slice none 0 0, .slice none 0 0] 25)).alloc (.cells #[] 55)) (.slice (some ⟨w.heap.size + 1, 0, none⟩) 0 0) [] := by
    have := World.ownsRow_lit (e := 55) (size := 5) (base := w.heap.size + 1) (w.alloc (.cells #[.slice none 0 0, .slice none 0 0] 25)) #[] 0 (by simp) (by unfold maxLen; omega) rfl
    rw [e1] at this
    exact this
  refine ((unhide CB) (w.heap.size + 1) _ _ o0 (by simp)).mono ?_
  rintro e w1 ⟨v, rfl, ho, hb⟩
  have ho' : Ny (w.heap.size + 1) w1 v (nds T 0) := by simpa using ho
  obtain ⟨a6, c6, rfl⟩ := own_formN ho'
  have O6 := hide ho'
  have BB : Hid (Below w.heap.size w w1) := hide ((((Below.refl w.heap.size w).alloc (Nat.le_refl _) _).alloc (by simp) _).trans (hb.mono (by omega)))
  have NN : w1.heap[w.heap.size]? = some (.cells #[.slice none 0 0, .slice none 0 0] 25 (0, 0)) := (hb.block _ (by omega)).trans ((Below.heap_alloc _ _ _ (by simp)).trans (heap_alloc_new _ _))
  clear ho ho' hb o0 e1 CB
  obtain ⟨c0, c1, f0, f1⟩ := two_cellsR NN
  clear NN
  go_wp2
  have hB2 := ((unhide BB).setCell (p := ⟨w.heap.size, 0, none⟩) (Nat.le_refl _) (.slice a6 (nds T 0).length c6)).setCell (p := ⟨w.heap.size, 1, none⟩) (Nat.le_refl _) (.slice none 0 0)
  refine bodyPost_ret (v := .agg #[.slice a6 (nds T 0).length c6, .slice none 0 0]) (by simp [results, Tryd.results9, go_sem, c0, c1]) rfl ⟨_, rfl, ?_, hB2⟩
  exact own_base (two_put (unhide O6)) (by omega)
set_option maxRecDepth 100000 in
set_option maxHeartbeats 2000000 in
theorem implRope (t : ByteArray) (T : RT) (h : IsTr t T) (w : World) (hs : t.size ≤ 65536) (hT : TabD w) :
    Calls Tryd.prog 10 #[.string t] w fun e w' => ∃ v, e = .returned (.agg #[v, .slice none 0 0]) ∧ Ny w.heap.size w' v (nds T 0) ∧ Below w.heap.size w w' := by
  have CT := hide (fun W (hW : TabD W) => treeI h W hW hs)
  have CN := hide (fun H W (hi : In W.heap.size W H) (hh : H.sh = T) => (callsIn_wide (n := 6)).1 (nodesI H t (hh ▸ h) hs W hi))
  have HT := hide hT
  have CI : Hid (∀ W, Calls Tryd.prog 27 #[.string t] W fun e w' => e = .returned (.bool false) ∧ w' = W) := hide (fun W => by
    have hle : ¬ (65536 : Int) < (t.size : Int) := by omega
    go_enter Tryd.func27, Tryd.ntmps27
    go_wp2
    go_ret
    exact ⟨rfl, rfl⟩)
  clear h hT
  obtain ⟨x, hx⟩ : ∃ x : Obj, x = .cells #[.slice none 0 0, .slice none 0 0] 25 (0, 0) := ⟨_, rfl⟩
  obtain ⟨w0, hw0⟩ : ∃ w0, w0 = w.alloc x := ⟨_, rfl⟩
  have B0 : Hid (Below w.heap.size w w0) := hide (by rw [hw0]; exact (Below.refl _ _).alloc (Nat.le_refl _) x)
  have Z0 : Hid (w0.heap.size = w.heap.size + 1) := hide (by rw [hw0]; simp)
  have N0 : Hid (w0.heap[w.heap.size]? = some x) := hide (by rw [hw0]; exact heap_alloc_new _ _)
  go_enter Tryd.func10, Tryd.ntmps10
  go_wp2_with fail
  subst hx
  rw [← hw0]
  clear hw0
  refine ((unhide CI) _).mono ?_
  rintro e w' ⟨rfl, hw⟩
  obtain rfl := hw.symm
  clear hw
  go_wp2_with fail
  refine ((unhide CT) _ ((unhide HT).below (unhide B0))).mono ?_
  rintro e w1 ⟨H, rfl, hsh, hi, hb1⟩
  have HI := hide hi
  have HS := hide hsh
  have B1 := hide hb1
  clear hi hsh hb1 CT CI HT
  go_wp2_with fail
  refine ((unhide CN) H _ (unhide HI) (unhide HS)).mono ?_
  rintro e w2 ⟨v, rfl, ho, hb2⟩
  rw [unhide HS] at ho
  have z1 := (unhide B1).size
  have ho' : Ny (w.heap.size + 1) w2 v (nds T 0) := own_base ho (by have := unhide Z0; omega)
  obtain ⟨a6, c6, rfl⟩ := own_formN ho'
  have O6 := hide ho'
  have BB : Hid (Below w.heap.size w w2) := hide ((unhide B0).trans (((unhide B1).trans (hb2.mono z1)).mono (by have := unhide Z0; omega)))
  have NN : w2.heap[w.heap.size]? = some (.cells #[.slice none 0 0, .slice none 0 0] 25 (0, 0)) := (hb2.block _ (by have := unhide Z0; omega)).trans (((unhide B1).block _ (by have := unhide Z0; omega)).trans (unhide N0))
  clear ho ho' hb2 z1 CN HI HS B1
  obtain ⟨c0, c1, f0, f1⟩ := two_cellsR NN
  clear NN
  go_wp2
  have hB2 := ((unhide BB).setCell (p := ⟨w.heap.size, 0, none⟩) (Nat.le_refl _) (.slice a6 (nds T 0).length c6)).setCell (p := ⟨w.heap.size, 1, none⟩) (Nat.le_refl _) (.slice none 0 0)
  refine bodyPost_ret (v := .agg #[.slice a6 (nds T 0).length c6, .slice none 0 0]) (by simp [results, Tryd.results10, go_sem, c0, c1]) rfl ⟨_, rfl, ?_, hB2⟩
  exact own_base (two_put (unhide O6)) (by omega)
end Go.Proofs.YtjhmkiecpefniaaDoor.Rop
