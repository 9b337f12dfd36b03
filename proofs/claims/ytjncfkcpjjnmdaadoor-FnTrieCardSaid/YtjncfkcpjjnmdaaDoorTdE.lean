/- UnpackTrie of the empty text. -/
import Derived.Test.YtjncfkcpjjnmdaaDoorRdrE
namespace Go.Proofs.YtjncfkcpjjnmdaaDoor
open Go.RowKit
set_option linter.unusedVariables false
theorem four_c {w : World} {g : Nat} {a b c d : Value} {T : TypeId} (h : w.heap[g]? = some (.cells #[a, b, c, d] T (0, 0))) :
    (w.cell? ⟨g, 0, none⟩ = some a ∧ w.cell? ⟨g, 1, none⟩ = some b ∧ w.cell? ⟨g, 2, none⟩ = some c ∧ w.cell? ⟨g, 3, none⟩ = some d) ∧
    w.frozen? ⟨g, 0, none⟩ = false ∧ w.frozen? ⟨g, 1, none⟩ = false ∧ w.frozen? ⟨g, 2, none⟩ = false ∧ w.frozen? ⟨g, 3, none⟩ = false := by
  simp [World.cell?, World.frozen?, h]
theorem heap_last (w : World) (o : Obj) : (w.alloc o).heap[w.heap.size]? = some o := by unfold World.alloc; exact Array.getElem?_push_size
set_option maxHeartbeats 4000000 in
set_option maxRecDepth 100000 in
theorem unpack_end (w : World) (T : ByteArray) (hT : T.size = 0) : Calls Tryd.prog 9 #[.string T] w fun e w' => e = .returned (.agg #[.int .i64 3, .int .i64 0, .slice none 0 0, .slice none 0 0]) ∧ Below w.heap.size w w' := by
  have hz : hb T 0 = 0 := by unfold hb; rw [dif_neg (by omega)]
  have C1 := hide (fun W g (q : RdAt W W g T 0) hg => trie_end W g 0 T q hg (by omega) (by omega) hz)
  have hT' : ¬ (65536 : Int) < (T.size : Int) := by omega
  have HT := hide hT
  clear hz hT
  go_enter Tryd.func9, Tryd.ntmps9
  go_wp2_with fail
  have X0 : Hid (((w.alloc (.cells #[.int .i64 0, .int .i64 0, .slice none 0 0, .slice none 0 0] 36)).alloc (.cells #[.string T, .int .i64 0] 59)).heap[w.heap.size]? = some (.cells #[.int .i64 0, .int .i64 0, .slice none 0 0, .slice none 0 0] 36 (0, 0))) := hide (by rw [Below.heap_alloc _ _ _ (by simp)]; exact heap_last w _)
  have R0 : Hid (((w.alloc (.cells #[.int .i64 0, .int .i64 0, .slice none 0 0, .slice none 0 0] 36)).alloc (.cells #[.string T, .int .i64 0] 59)).heap[w.heap.size + 1]? = some (.cells #[.string T, .int .i64 0] 59 (0, 0))) := hide (by have := heap_last (w.alloc (.cells #[.int .i64 0, .int .i64 0, .slice none 0 0, .slice none 0 0] 36)) (.cells #[.string T, .int .i64 0] 59); simpa using this)
  have hs0 : ((w.alloc (.cells #[.int .i64 0, .int .i64 0, .slice none 0 0, .slice none 0 0] 36)).alloc (.cells #[.string T, .int .i64 0] 59)).heap.size = w.heap.size + 2 := by simp
  have B0 : Hid (Below w.heap.size w ((w.alloc (.cells #[.int .i64 0, .int .i64 0, .slice none 0 0, .slice none 0 0] 36)).alloc (.cells #[.string T, .int .i64 0] 59))) := hide (((Below.refl w.heap.size w).alloc (Nat.le_refl _) _).alloc (by simp) _)
  generalize ((w.alloc (.cells #[.int .i64 0, .int .i64 0, .slice none 0 0, .slice none 0 0] 36)).alloc (.cells #[.string T, .int .i64 0] 59)) = w0 at *
  refine ((unhide C1) _ _ ⟨unhide R0, Dr.grown_refl _ _⟩ (by omega)).mono ?_
  rintro e w1 ⟨rfl, r1⟩
  have X1 := (r1.blk (b := w.heap.size) (by omega) (by omega)).trans (unhide X0)
  have hs1 := r1.2.size
  have R1 := r1.1
  have B1 := hide ((unhide B0).trans (below_grown r1.2 (by omega) (by omega)))
  clear r1 C1 X0 R0 B0
  have X2 := (Below.heap_alloc w1 (.cells #[.slice none 0 0, .slice none 0 0] 28) w.heap.size (by omega)).trans X1
  have R2 := (Below.heap_alloc w1 (.cells #[.slice none 0 0, .slice none 0 0] 28) (w.heap.size + 1) (by omega)).trans R1
  have B2 := hide ((unhide B1).alloc (by omega) (.cells #[.slice none 0 0, .slice none 0 0] 28))
  clear X1 R1 B1
  obtain ⟨c0, c1, _⟩ := rd_cells R2
  obtain ⟨⟨p00, p01, p02, p03⟩, q00, q01, q02, q03⟩ := four_c X2
  have m0 := heap_setCell_same _ w.heap.size 0 _ 36 (.int .i64 3) X2
  obtain ⟨⟨p10, p11, p12, p13⟩, q10, q11, q12, q13⟩ := four_c m0
  have m1 := heap_setCell_same _ w.heap.size 1 _ 36 (.int .i64 0) m0
  obtain ⟨⟨p20, p21, p22, p23⟩, q20, q21, q22, q23⟩ := four_c m1
  have m2 := heap_setCell_same _ w.heap.size 2 _ 36 (.slice none 0 0) m1
  obtain ⟨⟨p30, p31, p32, p33⟩, q30, q31, q32, q33⟩ := four_c m2
  have m3 := heap_setCell_same _ w.heap.size 3 _ 36 (.slice none 0 0) m2
  obtain ⟨⟨e0, e1, e2, e3⟩, _⟩ := four_c m3
  have FB := hide (((((unhide B2).setCell (p := ⟨w.heap.size, 0, none⟩) (Nat.le_refl _) (.int .i64 3)).setCell (p := ⟨w.heap.size, 1, none⟩) (Nat.le_refl _) (.int .i64 0)).setCell (p := ⟨w.heap.size, 2, none⟩) (Nat.le_refl _) (.slice none 0 0)).setCell (p := ⟨w.heap.size, 3, none⟩) (Nat.le_refl _) (.slice none 0 0))
  clear X2 R2 B2 m0 m1 m2 m3
  go_wp2
  refine bodyPost_ret (v := .agg #[.int .i64 3, .int .i64 0, .slice none 0 0, .slice none 0 0]) (by simp [results, Tryd.results9, go_sem, e0, e1, e2, e3]; try rfl) rfl ?_
  exact ⟨rfl, unhide FB⟩
end Go.Proofs.YtjncfkcpjjnmdaaDoor
