/- A drawn point: some number; the source is one again. -/
import Derived.Test.YtfcabmpklcmbgaaDSource
namespace Go.Proofs.Ytfcabmpklcmbgaa.Dr
open Go.RowKit
theorem grown_alloc (w : World) (o : Obj) (r : Option Nat) : w.grownBy (w.alloc o) r :=
  ⟨rfl, rfl, rfl, by simp, fun k hk _ => Below.heap_alloc w o k hk⟩
theorem src_lt {w : World} {src len cap : Nat} {a : Option Addr} {size : Int} (h : SrcAt w src a len cap size) : src < w.heap.size := by
  obtain ⟨_, p, mix, _, _, hh⟩ := h
  exact (Array.getElem?_eq_some_iff.1 hh).1
/-- The source stays one where its own block and the code's have not turned. -/
theorem src_keep {w w' : World} {src len cap : Nat} {a : Option Addr} {size : Int} (h : SrcAt w src a len cap size) (hs : w.heap.size ≤ w'.heap.size) (hb : ∀ k, k < w.heap.size → w'.heap[k]? = w.heap[k]?) : SrcAt w' src a len cap size := by
  have hlt := src_lt h
  obtain ⟨hc, p, mix, hp, hwf, hh⟩ := h
  refine ⟨?_, p, mix, hp, hwf, (hb src hlt).trans hh⟩
  rcases hc with h0 | ⟨cb, off, ha, hcb, hne, hcc⟩
  · exact .inl h0
  · refine .inr ⟨cb, off, ha, by omega, hne, fun i hi => ?_⟩
    obtain ⟨z, hz, hzb⟩ := hcc i hi
    exact ⟨z, (World.cell?_of_block (a := ⟨cb, off + i, none⟩) (hb cb hcb)).trans hz, hzb⟩
theorem src_alloc {w : World} {src len cap : Nat} {a : Option Addr} {size : Int} (h : SrcAt w src a len cap size) (o : Obj) : SrcAt (w.alloc o) src a len cap size :=
  src_keep h (by simp) (fun k hk => Below.heap_alloc w o k hk)
theorem n_nat (w : World) (src : Nat) (a : Option Addr) (len cap : Nat) (size most : Int) (hm : 0 < most) (hm2 : most ≤ 1000000) (hl : len ≤ 1048576) (h : SrcAt w src a len cap size) :
    Calls Try.prog 27 #[.pointer (some ⟨src, 0, none⟩), .int .i64 most] w fun e w' => ∃ r : Nat, e = .returned (.int .i64 r) ∧ (r : Int) < most ∧ SrcAt w' src a len cap size ∧ w.grownBy w' (some src) := by
  refine (n_any w src a len cap size most hm hm2 hl h).mono fun e w' ⟨r, he, r0, r1, hs, hg⟩ => ?_
  obtain ⟨n, rfl⟩ := Int.eq_ofNat_of_zero_le r0
  exact ⟨n, he, r1, hs, hg⟩
theorem n_idx (w : World) (O : Array Value) (src : Nat) (a : Option Addr) (len cap : Nat) (size : Int) (m : Nat) (hm : 0 < m) (hm2 : m ≤ 1000) (hl : len ≤ 1048576) (h : SrcAt w src a len cap size) (hO : ∀ i, i < m → ∃ x : Int, O[i]? = some (.int .i64 x)) :
    Calls Try.prog 27 #[.pointer (some ⟨src, 0, none⟩), .int .i64 (m : Int)] (w.alloc (.cells O 2)) fun e w' => ∃ (r : Nat) (x : Int), e = .returned (.int .i64 r) ∧ r < m ∧ w'.cell? ⟨w.heap.size, r, none⟩ = some (.int .i64 x) ∧ SrcAt w' src a len cap size ∧ w.grownBy w' (some src) := by
  refine (n_nat (w.alloc (.cells O 2)) src a len cap size m (by omega) (by omega) hl (src_alloc h _)).mono fun e w' ⟨r, he, r1, hs, hg⟩ => ?_
  obtain ⟨x, hx⟩ := hO r (by omega)
  have hlt := src_lt h
  refine ⟨r, x, he, by omega, ?_, hs, grown_trans (grown_alloc _ _ _) hg⟩
  rw [World.cell?_of_block (a := ⟨w.heap.size, r, none⟩) (hg.block w.heap.size (by simp) (by simp; omega))]
  simpa using hx
end Go.Proofs.Ytfcabmpklcmbgaa.Dr
