/- A trie out of spans: the program's walk for spans that are not right. -/
import Derived.Test.YtjncfkcpjjnmdaaDoorBldJ
namespace Go.Proofs.YtjncfkcpjjnmdaaDoor
open Go.RowKit
set_option maxHeartbeats 1500000 in
theorem implBuild_no (v : Value) (L : List Sp) (o : Int) (B : Nat) (w : World) (h : SpRow w B v L) (hr : right L = false) (hl : L.length ≤ 1048576) :
    Calls Tryd.prog 5 #[v, .int .i64 o] w fun e w' => e = .returned (.agg #[.slice none 0 0, .slice none 0 0]) ∧ Below w.heap.size w w' := by
  have HF : Hid (faultOf L = 1) := hide (by unfold faultOf; rw [hr]; rfl)
  have H := hide h
  clear h hr
  have W0 : Hid (Below w.heap.size w (w.alloc (.cells #[.slice none 0 0, .slice none 0 0] 28))) := hide ((Below.refl _ _).alloc (Nat.le_refl _) _)
  have S0 : Hid ((w.alloc (.cells #[.slice none 0 0, .slice none 0 0] 28)).heap.size = w.heap.size + 1) := hide (by simp)
  have C0 : Hid ((w.alloc (.cells #[.slice none 0 0, .slice none 0 0] 28)).heap[w.heap.size]? = some (.cells #[.slice none 0 0, .slice none 0 0] 28 (0, 0))) := hide (heap_alloc_new _ _)
  have H0 := hide ((unhide H).below (unhide W0))
  clear H
  go_enter Tryd.func5, Tryd.ntmps5
  go_wp2_with fail
  generalize w.alloc (.cells #[.slice none 0 0, .slice none 0 0] 28) = w0 at *
  refine (implFault _ L B _ (unhide H0) hl).mono ?_
  rintro e w1 ⟨rfl, hb1⟩
  rw [unhide HF]
  have B1 : Hid (Below (w.heap.size + 1) w0 w1) := hide (hb1.mono (by rw [unhide S0]; exact Nat.le_refl _))
  have h7 : w1.heap[w.heap.size]? = some (.cells #[.slice none 0 0, .slice none 0 0] 28 (0, 0)) := ((unhide B1).block _ (by omega)).trans (unhide C0)
  have e0 : w1.cell? ⟨w.heap.size, 0, none⟩ = some (.slice none 0 0) := by simp [World.cell?, h7]
  have e1 : w1.cell? ⟨w.heap.size, 1, none⟩ = some (.slice none 0 0) := by simp [World.cell?, h7]
  have f0 : w1.frozen? ⟨w.heap.size, 0, none⟩ = false := by simp [World.frozen?, h7]
  have f1 : w1.frozen? ⟨w.heap.size, 1, none⟩ = false := by simp [World.frozen?, h7]
  clear hb1 H0 h7
  go_wp2
  refine bodyPost_ret (by simp [results, Tryd.results5, go_sem, e0, e1]; try rfl) rfl ?_
  exact ⟨rfl, (((unhide W0).trans ((unhide B1).mono (by omega))).setCell (p := ⟨w.heap.size, 0, none⟩) (Nat.le_refl _) _).setCell (p := ⟨w.heap.size, 1, none⟩) (Nat.le_refl _) _⟩
end Go.Proofs.YtjncfkcpjjnmdaaDoor
