/- A trie out of spans: the specification's walk for spans that are not right. -/
import Derived.Test.YtnfdkcphmolkiaaBldT2
namespace Go.Proofs.Ytnfdkcphmolkiaa
open Go.RowKit
set_option maxHeartbeats 1500000 in
set_option maxRecDepth 100000 in
theorem specBuild_no (v : Value) (L : List Sp) (o : Int) (B : Nat) (w : World) (h : SpRow w B v L) (hr : right L = false) (hl : L.length ≤ 1048576) :
    Calls Try.prog 21 #[v, .int .i64 o] w fun e w' => e = .returned (.agg #[.slice none 0 0, .slice none 0 0]) ∧ Below w.heap.size w w' := by
  have HF : Hid (faultOf L = 1) := hide (by unfold faultOf; rw [hr]; rfl)
  have H := hide h
  clear h hr
  obtain ⟨x, hx⟩ : ∃ x : Obj, x = .cells #[.slice none 0 0, .slice none 0 0] 34 (0, 0) := ⟨_, rfl⟩
  have W0 : Hid (Below w.heap.size w ((w.alloc x).alloc x)) := hide (((Below.refl _ _).alloc (Nat.le_refl _) x).alloc (by simp) x)
  have S0 : Hid (((w.alloc x).alloc x).heap.size = w.heap.size + 2) := hide (by simp)
  have C0 : Hid (((w.alloc x).alloc x).heap[w.heap.size]? = some x) := hide ((alloc_block _ _ (by simp)).trans (heap_alloc_new _ _))
  have C1 : Hid (((w.alloc x).alloc x).heap[w.heap.size + 1]? = some x) := hide (by have := heap_alloc_new (w.alloc x) x; simpa using this)
  have H0 := hide ((unhide H).below (unhide W0))
  subst hx
  clear H
  go_enter Try.func21, Try.ntmps21
  go_wp2_with fail
  generalize (w.alloc (.cells #[.slice none 0 0, .slice none 0 0] 34)).alloc (.cells #[.slice none 0 0, .slice none 0 0] 34) = w0 at *
  refine (specFault _ L B _ (unhide H0) hl).mono ?_
  rintro e w1 ⟨rfl, hb1⟩
  rw [unhide HF]
  have B1 : Hid (Below (w.heap.size + 2) w0 w1) := hide (hb1.mono (by rw [unhide S0]; exact Nat.le_refl _))
  have h7 : w1.heap[w.heap.size]? = some (.cells #[.slice none 0 0, .slice none 0 0] 34 (0, 0)) := ((unhide B1).block _ (by omega)).trans (unhide C0)
  have h8 : w1.heap[w.heap.size + 1]? = some (.cells #[.slice none 0 0, .slice none 0 0] 34 (0, 0)) := ((unhide B1).block _ (by omega)).trans (unhide C1)
  have e0 : w1.cell? ⟨w.heap.size, 0, none⟩ = some (.slice none 0 0) := by simp [World.cell?, h7]
  have e1 : w1.cell? ⟨w.heap.size, 1, none⟩ = some (.slice none 0 0) := by simp [World.cell?, h7]
  have f0 : w1.frozen? ⟨w.heap.size, 0, none⟩ = false := by simp [World.frozen?, h7]
  have f1 : w1.frozen? ⟨w.heap.size, 1, none⟩ = false := by simp [World.frozen?, h7]
  have x0 : w1.cell? ⟨w.heap.size + 1, 0, none⟩ = some (.slice none 0 0) := by simp [World.cell?, h8]
  have x1 : w1.cell? ⟨w.heap.size + 1, 1, none⟩ = some (.slice none 0 0) := by simp [World.cell?, h8]
  clear hb1 H0 h7 h8
  go_wp2
  refine bodyPost_ret (by simp [results, Try.results21, go_sem, e0, e1]; try rfl) rfl ?_
  exact ⟨rfl, (((unhide W0).trans ((unhide B1).mono (by omega))).setCell (p := ⟨w.heap.size, 0, none⟩) (Nat.le_refl _) _).setCell (p := ⟨w.heap.size, 1, none⟩) (Nat.le_refl _) _⟩
end Go.Proofs.Ytnfdkcphmolkiaa
