/- A copy of entries. -/
import Derived.Test.YtgcpdpkkobkamaaColE
import Derived.Test.YtgcpdpkkobkamaaMA
namespace Go.Proofs.Ytgcpdpkkobkamaa.Col
open Go.RowKit
set_option linter.unusedVariables false
theorem infoEn : (Try.prog.info? 36).map (fun i => (i.zero, i.size, i.bytes)) = some (some (.agg #[.string ⟨#[]⟩, .slice none 0 0]), 2, 40) := by kernel_rfl
theorem down {w : World} {B B2 : Nat} {v : Value} {L : List Sp} (h : SpRow w B2 v L) (hb : B ≤ B2) : SpRow w B v L := by
  refine ⟨h.1, ?_⟩
  rcases h.2 with h' | ⟨g, cap, cur, hv, hg, r⟩
  · exact .inl h'
  · exact .inr ⟨g, cap, cur, hv, by omega, r⟩
theorem heap_new (w : World) (o : Obj) : (w.alloc o).heap[w.heap.size]? = some o := by unfold World.alloc; exact Array.getElem?_push_size
theorem two_cells {w : World} {g : Nat} {a b : Value} {T : TypeId} (h : w.heap[g]? = some (.cells #[a, b] T (0, 0))) : w.cell? ⟨g, 0, none⟩ = some a ∧ w.cell? ⟨g, 1, none⟩ = some b ∧ w.frozen? ⟨g, 0, none⟩ = false ∧ w.frozen? ⟨g, 1, none⟩ = false := by
  simp [World.cell?, World.frozen?, h]
theorem put2_row {w : World} {B s : Nat} {u x y z q t : Value} {L : List Sp} {T S : TypeId} (h : SpRow w B u L) (hu : u.ownBlock = some (s + 3)) (h1 : w.heap[s + 1]? = some (.cells #[x, y] T (0, 0))) (h2 : w.heap[s + 1 + 1]? = some (.cells #[z, q] S (0, 0))) :
    SpRow (((w.setCell ⟨s + 1 + 1, 1, none⟩ u).setCell ⟨s + 1, 0, none⟩ t).setCell ⟨s + 1, 1, none⟩ u) B u L := by
  refine ownsRow_at h fun k hk => ?_
  rw [hu] at hk
  cases hk
  rw [heap_setCell_other _ ⟨s + 1, 1, none⟩ (s + 3) u (by simp), heap_setCell_other _ ⟨s + 1, 0, none⟩ (s + 3) t (by simp), heap_setCell_other _ ⟨s + 1 + 1, 1, none⟩ (s + 3) u (by simp)]
theorem put2_below {w w4 : World} {x u : Value} (h : Below w.heap.size w w4) : Below w.heap.size w (((w4.setCell ⟨w.heap.size + 1 + 1, 1, none⟩ u).setCell ⟨w.heap.size + 1, 0, none⟩ x).setCell ⟨w.heap.size + 1, 1, none⟩ u) :=
  ((h.setCell (p := ⟨w.heap.size + 1 + 1, 1, none⟩) (by simp; omega) u).setCell (p := ⟨w.heap.size + 1, 0, none⟩) (by simp) x).setCell (p := ⟨w.heap.size + 1, 1, none⟩) (by simp) u
set_option maxRecDepth 100000 in
set_option maxHeartbeats 4000000 in
theorem toEntry_any (t : ByteArray) (v : Value) (L : List Sp) (w : World) (hv : SpsAt w v L) (hL : L.length ≤ 1048576) :
    Calls Try.prog 21 #[.agg #[.string t, v]] w fun e w' => ∃ u, e = .returned (.agg #[.string t, u]) ∧ SpRow w' w.heap.size u L ∧ Below w.heap.size w w' := by
  have CT := hide (fun W h => toSpans v L W h hL)
  have HV := hide hv
  clear hv
  go_enter Try.func21, Try.ntmps21
  go_wp2_with fail
  have hb3 : Below w.heap.size w (((w.alloc (.cells #[.string t, v] 50)).alloc (.cells #[.string ⟨#[]⟩, .slice none 0 0] 36)).alloc (.cells #[.string t, .slice none 0 0] 36)) := ((((Below.refl _ _).alloc (Nat.le_refl _) _).alloc (by simp) _).alloc (by simp; omega) _)
  have hz3 : (((w.alloc (.cells #[.string t, v] 50)).alloc (.cells #[.string ⟨#[]⟩, .slice none 0 0] 36)).alloc (.cells #[.string t, .slice none 0 0] 36)).heap.size = w.heap.size + 3 := by simp
  have h1 : (((w.alloc (.cells #[.string t, v] 50)).alloc (.cells #[.string ⟨#[]⟩, .slice none 0 0] 36)).alloc (.cells #[.string t, .slice none 0 0] 36)).heap[w.heap.size + 1]? = some (.cells #[.string ⟨#[]⟩, .slice none 0 0] 36 (0, 0)) := by
    rw [Below.heap_alloc _ _ _ (by simp)]
    have := heap_new (w.alloc (.cells #[.string t, v] 50)) (.cells #[.string ⟨#[]⟩, .slice none 0 0] 36)
    simpa using this
  have h2 : (((w.alloc (.cells #[.string t, v] 50)).alloc (.cells #[.string ⟨#[]⟩, .slice none 0 0] 36)).alloc (.cells #[.string t, .slice none 0 0] 36)).heap[w.heap.size + 1 + 1]? = some (.cells #[.string t, .slice none 0 0] 36 (0, 0)) := by
    have := heap_new ((w.alloc (.cells #[.string t, v] 50)).alloc (.cells #[.string ⟨#[]⟩, .slice none 0 0] 36)) (.cells #[.string t, .slice none 0 0] 36)
    simpa using this
  generalize ((w.alloc (.cells #[.string t, v] 50)).alloc (.cells #[.string ⟨#[]⟩, .slice none 0 0] 36)).alloc (.cells #[.string t, .slice none 0 0] 36) = w3 at *
  refine ((unhide CT) _ ((unhide HV).below hb3)).mono ?_
  rintro e w4 ⟨rfl, ho4, hb4⟩
  have k1 := (hb4.block (w.heap.size + 1) (by omega)).trans h1
  have k2 := (hb4.block (w.heap.size + 1 + 1) (by omega)).trans h2
  have hb5 := hb3.trans (hb4.mono hb3.size)
  have hub : w.heap.size + 3 = w3.heap.size := by omega
  clear CT HV h1 h2 hb3 hb4
  have hw3 : w.heap.size ≤ w3.heap.size := by omega
  have ho5 := down ho4 hw3
  generalize w3.heap.size = q at *
  have hob : (Value.slice (some ⟨q, 0, none⟩) L.length L.length).ownBlock = some (w.heap.size + 3) := by rw [hub]; rfl
  have R := hide (put2_row (t := .string t) ho5 hob k1 k2)
  have BB := hide (put2_below hb5 (x := .string t) (u := .slice (some ⟨q, 0, none⟩) L.length L.length))
  obtain ⟨a0, a1, a2, a3⟩ := two_cells k2
  have m2 := heap_setCell_same w4 (w.heap.size + 1 + 1) 1 _ 36 (.slice (some ⟨q, 0, none⟩) L.length L.length) k2
  have m1 := (heap_setCell_other w4 ⟨w.heap.size + 1 + 1, 1, none⟩ (w.heap.size + 1) (.slice (some ⟨q, 0, none⟩) L.length L.length) (by simp)).trans k1
  obtain ⟨b0, b1, b2, b3⟩ := two_cells m2
  obtain ⟨c0, c1, c2, c3⟩ := two_cells m1
  have n1 := heap_setCell_same _ (w.heap.size + 1) 0 _ 36 (.string t) m1
  obtain ⟨d0, d1, d2, d3⟩ := two_cells n1
  have o1 := heap_setCell_same _ (w.heap.size + 1) 1 _ 36 (.slice (some ⟨q, 0, none⟩) L.length L.length) n1
  obtain ⟨e0, e1, e2, e3⟩ := two_cells o1
  clear k1 k2 m1 m2 n1 o1 hz3 ho4 ho5 hb5 hub hob hw3
  go_wp2
  refine bodyPost_ret (v := .agg #[.string t, .slice (some ⟨q, 0, none⟩) L.length L.length]) (by simp [results, Try.results21, go_sem, e0, e1]; try rfl) rfl ?_
  exact ⟨_, rfl, unhide R, unhide BB⟩
end Go.Proofs.Ytgcpdpkkobkamaa.Col
