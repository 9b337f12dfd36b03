/- The table of unlike blocks: what it holds, and how a block is put into it. -/
import Derived.Test.YtfcabmpklcmbgaaSloT
namespace Go.Proofs.Ytfcabmpklcmbgaa
open Go.RowKit
/-- A block of 64 numbers below B. -/
def BlkAt (w : World) (B : Nat) (v : Value) (b : List Int) : Prop := b.length = 64 ∧ ∃ g off cap, v = .slice (some ⟨g, off, none⟩) 64 cap ∧ g < B ∧ ∀ j, j < 64 → w.cell? ⟨g, off + j, none⟩ = some (.int .i64 (nth b j))
theorem BlkAt.ints {w : World} {B : Nat} {v : Value} {b : List Int} (h : BlkAt w B v b) (hB : B ≤ w.heap.size) : IntsAt w v b := by
  obtain ⟨hl, g, off, cap, rfl, hg, hc⟩ := h
  exact ⟨_, cap, by rw [hl], .inr ⟨g, off, rfl, by omega, fun i hi => hc i (by omega)⟩⟩
theorem BlkAt.same {w w' : World} {B : Nat} {v : Value} {b : List Int} (h : BlkAt w B v b) (hs : ∀ k, k < B → w'.heap[k]? = w.heap[k]?) : BlkAt w' B v b := by
  obtain ⟨hl, g, off, cap, rfl, hg, hc⟩ := h
  exact ⟨hl, g, off, cap, rfl, hg, fun j hj => (World.cell?_of_block (a := ⟨g, off + j, none⟩) (hs g hg)).trans (hc j hj)⟩
theorem own_ne_tag {w : World} {B : Nat} {e t : TypeId} {s : Nat} {v : Value} {n : Nat} {xs : List Value} {g : Nat} {cur : Array Value} {f : Nat × Nat} (h : w.ownsRow B e s v n xs) (hh : w.heap[g]? = some (.cells cur t f)) (hne : e ≠ t) : some g ≠ v.ownBlock := by
  intro e1
  rcases h.2 with ⟨rfl, _⟩ | ⟨g', cap, cur', rfl, _, hh', _⟩
  · cases e1
  · simp only [Value.ownBlock, Option.some.injEq] at e1
    rw [← e1, hh] at hh'
    injection hh' with hh'
    injection hh' with _ h2 _
    exact hne h2.symm
theorem rows_apart {w : World} {B B' : Nat} {e e' : TypeId} {s s' : Nat} {v v' : Value} {n n' : Nat} {xs xs' : List Value} (h : w.ownsRow B e s v n xs) (h' : w.ownsRow B' e' s' v' n' xs') (hne : e ≠ e') : v.ownBlock = none ∨ v.ownBlock ≠ v'.ownBlock := by
  rcases h.2 with ⟨rfl, _⟩ | ⟨g, cap, cur, rfl, _, hh, _⟩
  · exact .inl rfl
  · refine .inr fun e => ?_
    rcases h'.2 with ⟨rfl, _⟩ | ⟨g', cap', cur', rfl, _, hh', _⟩
    · cases e
    · simp only [Value.ownBlock, Option.some.injEq] at e
      rw [← e, hh] at hh'
      injection hh' with hh'
      injection hh' with _ h2 _
      exact hne h2
theorem set_grown {w : World} {R j : Nat} {u : Value} : w.grownBy (w.setCell ⟨R, j, none⟩ u) (some R) :=
  ⟨rfl, rfl, rfl, by simp, fun k _ hk => heap_setCell_other w ⟨R, j, none⟩ k u (fun e => hk (by simp [e]))⟩
theorem own_ge {w : World} {B : Nat} {e : TypeId} {s : Nat} {v : Value} {n : Nat} {xs : List Value} (h : w.ownsRow B e s v n xs) {k : Nat} (hk : k < B) : some k ≠ v.ownBlock := by
  intro e1
  have := (h.lt k e1.symm).1
  omega
theorem alloc_block (w : World) (o : Obj) {k : Nat} (h : k < w.heap.size) : (w.alloc o).heap[k]? = w.heap[k]? := Below.heap_alloc w o k h
theorem info29 : (Try.prog.info? 50).map (fun i => (i.zero, i.size, i.bytes)) = some (some (.slice none 0 0), 1, 24) := by kernel_rfl
/-- The new row is where the old one was, or new. -/
def NewAt (w : World) (v v' : Value) : Prop := ∀ k, v'.ownBlock = some k → v.ownBlock = some k ∨ w.heap.size ≤ k
end Go.Proofs.Ytfcabmpklcmbgaa
