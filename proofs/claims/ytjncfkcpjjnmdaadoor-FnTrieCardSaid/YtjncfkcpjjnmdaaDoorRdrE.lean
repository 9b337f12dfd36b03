/- The reader of a text that has no byte left: nothing is read. -/
import Derived.Test.YtjncfkcpjjnmdaaDoorGE
import Derived.Test.YtjncfkcpjjnmdaaDoorGF
namespace Go.Proofs.YtjncfkcpjjnmdaaDoor
open Go.RowKit
set_option linter.unusedVariables false
set_option maxHeartbeats 1000000 in
theorem digits_end (w : World) (g k : Nat) (T : ByteArray) (h : RdAt w w g T k) (hk : k ≤ T.size) (hT : T.size ≤ 65536) (hz : hb T k = 0) :
    Calls Tryd.prog 56 #[.pointer (some ⟨g, 0, none⟩)] w fun e w' => e = .returned (.tuple #[.int .i64 0, .bool false]) ∧ RdAt w w' g T k := by
  have C := hide (takes_no w g k 48 T h hk (by omega))
  have CH := hide (fun W (q : RdAt w W g T k) => here_any W g k T q.self hk)
  rw [hz] at CH
  clear h hz
  go_enter Tryd.func56, Tryd.ntmps56
  go_wp2_with fail
  refine (unhide C).mono ?_
  rintro e w1 ⟨rfl, H⟩
  obtain ⟨c0, c1, f1⟩ := rd_cells H.1
  clear C
  have H := hide H
  go_wp2
  clear c0 c1 f1
  go_loopw [5] (fun nv wr => nv = .int .i64 0 ∧ Hid (RdAt w wr g T k)) (fun _ _ => 0)
  case atStart => exact ⟨rfl, H⟩
  case round =>
    obtain ⟨rfl, HR⟩ := hrel
    clear H
    go_wp2_with fail
    refine ((unhide CH) _ (unhide HR)).mono ?_
    rintro e w2 ⟨rfl, H4⟩
    obtain ⟨c0, c1, f1⟩ := rd_cells H4.1
    have HR := hide ((unhide HR).trans H4)
    clear H4 CH
    go_wp2
    go_quiet (fail)
    go_wp2
    go_returns
    exact ⟨rfl, (unhide HR).drewN _⟩
theorem number_end (w : World) (g k : Nat) (T : ByteArray) (h : RdAt w w g T k) (hk : k ≤ T.size) (hT : T.size ≤ 65536) (hz : hb T k = 0) :
    Calls Tryd.prog 55 #[.pointer (some ⟨g, 0, none⟩)] w fun e w' => e = .returned (.tuple #[.int .i64 0, .bool false]) ∧ RdAt w w' g T k := by
  obtain ⟨c0, c1, f1⟩ := rd_cells h.1
  have C := hide (takes_no w g k 45 T h hk (by omega))
  have CD := hide (fun W (q : RdAt w W g T k) => digits_end W g k T q.self hk hT hz)
  clear h hz
  go_enter Tryd.func55, Tryd.ntmps55
  go_wp2_with fail
  refine (unhide C).mono ?_
  rintro e w1 ⟨rfl, H⟩
  have H := hide H
  clear C c0 c1 f1
  go_wp2_with fail
  refine ((unhide CD) _ (unhide H)).mono ?_
  rintro e w2 ⟨rfl, H4⟩
  have H := hide ((unhide H).trans H4)
  clear H4 CD
  go_wp2
  go_returns
  exact ⟨rfl, unhide H⟩
theorem run_end (w : World) (g k : Nat) (T : ByteArray) (h : RdAt w w g T k) (hk : k ≤ T.size) (hT : T.size ≤ 65536) (hz : hb T k = 0) :
    Calls Tryd.prog 49 #[.pointer (some ⟨g, 0, none⟩)] w fun e w' => e = .returned (.tuple #[.int .i64 0, .int .i64 1, .bool false]) ∧ RdAt w w' g T k := by
  have C := hide (number_end w g k T h hk hT hz)
  have hU : undef = Value.tuple #[] := rfl
  clear h hz
  go_enter Tryd.func49, Tryd.ntmps49
  go_wp2_with fail
  refine (unhide C).mono ?_
  rintro e w1 ⟨rfl, H⟩
  have H := hide H
  clear C
  go_wp2
  go_returns
  exact ⟨rfl, unhide H⟩
set_option maxHeartbeats 1000000 in
theorem items_end (w : World) (g k : Nat) (T : ByteArray) (h : RdAt w w g T k) (hk : k ≤ T.size) (hT : T.size ≤ 65536) (hz : hb T k = 0) :
    Calls Tryd.prog 44 #[.pointer (some ⟨g, 0, none⟩)] w fun e w' => e = .returned (.tuple #[.slice none 0 0, .bool false]) ∧ RdAt w w' g T k := by
  have C := hide (fun W (q : RdAt w W g T k) => run_end W g k T q.self hk hT hz)
  have H0 := hide h
  clear h hz
  go_enter Tryd.func44, Tryd.ntmps44
  go_wp2
  go_loopw [4] (fun nv wr => nv = .slice none 0 0 ∧ Hid (RdAt w wr g T k)) (fun _ _ => 0)
  case atStart => exact ⟨rfl, H0⟩
  case round =>
    obtain ⟨rfl, HR⟩ := hrel
    obtain ⟨c0, c1, f1⟩ := rd_cells (unhide HR).1
    clear H0
    go_wp2_with fail
    refine ((unhide C) _ (unhide HR)).mono ?_
    rintro e w2 ⟨rfl, H4⟩
    have HR := hide ((unhide HR).trans H4)
    clear H4 C
    go_wp2
    go_returns
    exact ⟨rfl, unhide HR⟩
set_option maxHeartbeats 1000000 in
theorem trie_end (w : World) (g k : Nat) (T : ByteArray) (h : RdAt w w g T k) (hg : g < w.heap.size) (hk : k ≤ T.size) (hT : T.size ≤ 65536) (hz : hb T k = 0) :
    Calls Tryd.prog 28 #[.pointer (some ⟨g, 0, none⟩)] w fun e w' => e = .returned (.tuple #[.agg #[.slice none 0 0, .slice none 0 0], .bool false]) ∧ RdAt w w' g T k := by
  have hU : undef = Value.tuple #[] := rfl
  have C := hide (fun W (q : RdAt W W g T k) => items_end W g k T q hk hT hz)
  have H0 := hide h
  have X0 : Hid (RdAt (w.alloc (.cells #[.slice none 0 0, .slice none 0 0] 28)) (w.alloc (.cells #[.slice none 0 0, .slice none 0 0] 28)) g T k) := hide ⟨(Below.heap_alloc w _ g hg).trans h.1, Dr.grown_refl _ _⟩
  have G0 : w.grownBy (w.alloc (.cells #[.slice none 0 0, .slice none 0 0] 28)) (some g) := Dr.grown_alloc _ _ _
  have hb0 : (w.alloc (.cells #[.slice none 0 0, .slice none 0 0] 28)).heap[w.heap.size]? = some (.cells #[.slice none 0 0, .slice none 0 0] 28 (0, 0)) := by unfold World.alloc; exact Array.getElem?_push_size
  have hs0 : w.heap.size < (w.alloc (.cells #[.slice none 0 0, .slice none 0 0] 28)).heap.size := by simp
  clear h hz
  go_enter Tryd.func28, Tryd.ntmps28
  go_wp2_with fail
  generalize w.alloc (.cells #[.slice none 0 0, .slice none 0 0] 28) = w0 at *
  refine ((unhide C) _ (unhide X0)).mono ?_
  rintro e w2 ⟨rfl, H4⟩
  have hb2 := (H4.2.block w.heap.size hs0 (fun e => by injection e with e; omega)).trans hb0
  have HR : Hid (RdAt w w2 g T k) := hide ⟨H4.1, Dr.grown_trans G0 H4.2⟩
  obtain ⟨c0, c1, d0, d1⟩ : w2.cell? ⟨w.heap.size, 0, none⟩ = some (.slice none 0 0) ∧ w2.cell? ⟨w.heap.size, 1, none⟩ = some (.slice none 0 0) ∧ w2.frozen? ⟨w.heap.size, 0, none⟩ = false ∧ w2.frozen? ⟨w.heap.size, 1, none⟩ = false := by simp [World.cell?, World.frozen?, hb2]
  have n1 := heap_setCell_same w2 w.heap.size 0 _ 28 (.slice none 0 0) hb2
  have n2 := heap_setCell_same _ w.heap.size 1 _ 28 (.slice none 0 0) n1
  obtain ⟨e0, e1, e2, e3⟩ : (w2.setCell ⟨w.heap.size, 0, none⟩ (.slice none 0 0)).cell? ⟨w.heap.size, 0, none⟩ = some (.slice none 0 0) ∧ (w2.setCell ⟨w.heap.size, 0, none⟩ (.slice none 0 0)).cell? ⟨w.heap.size, 1, none⟩ = some (.slice none 0 0) ∧ (w2.setCell ⟨w.heap.size, 0, none⟩ (.slice none 0 0)).frozen? ⟨w.heap.size, 0, none⟩ = false ∧ (w2.setCell ⟨w.heap.size, 0, none⟩ (.slice none 0 0)).frozen? ⟨w.heap.size, 1, none⟩ = false := by simp [World.cell?, World.frozen?, n1]
  obtain ⟨f0, f1⟩ : ((w2.setCell ⟨w.heap.size, 0, none⟩ (.slice none 0 0)).setCell ⟨w.heap.size, 1, none⟩ (.slice none 0 0)).cell? ⟨w.heap.size, 0, none⟩ = some (.slice none 0 0) ∧ ((w2.setCell ⟨w.heap.size, 0, none⟩ (.slice none 0 0)).setCell ⟨w.heap.size, 1, none⟩ (.slice none 0 0)).cell? ⟨w.heap.size, 1, none⟩ = some (.slice none 0 0) := by simp [World.cell?, n2]
  have FR : Hid (RdAt w ((w2.setCell ⟨w.heap.size, 0, none⟩ (.slice none 0 0)).setCell ⟨w.heap.size, 1, none⟩ (.slice none 0 0)) g T k) := hide ⟨by rw [heap_setCell_other _ _ _ _ (by simp; omega), heap_setCell_other _ _ _ _ (by simp; omega)]; exact (unhide HR).1, ⟨(unhide HR).2.os, (unhide HR).2.tape, (unhide HR).2.output, by simp; exact (unhide HR).2.size, fun j hj hr => by rw [heap_setCell_other _ _ _ _ (by simp; omega), heap_setCell_other _ _ _ _ (by simp; omega)]; exact (unhide HR).2.block j hj hr⟩⟩
  clear H4 C hb0 hb2 n1 n2 G0 X0 H0 HR
  go_wp2
  refine bodyPost_ret (v := .tuple #[.agg #[.slice none 0 0, .slice none 0 0], .bool false]) (by simp [results, Tryd.results28, go_sem, f0, f1]; try rfl) rfl ?_
  exact ⟨rfl, unhide FR⟩
end Go.Proofs.YtjncfkcpjjnmdaaDoor
