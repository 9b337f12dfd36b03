/- A text as points and where each begins, as the specification tells it. -/
import Derived.Test.YtnmlfgnnhhaeoaaDoorChrC
import Derived.Maps.AppendAt
namespace Go.Proofs.YtnmlfgnnhhaeoaaDoor
namespace Chr
open Go.RowKit
/-- Where each point begins. -/
def atl (s : ByteArray) (k : Nat) : List Int := (List.range k).map (fun i => ((steps s i).2 : Int))
theorem atl_succ (s : ByteArray) (k : Nat) : atl s (k + 1) = atl s k ++ [((steps s k).2 : Int)] := by
  unfold atl; rw [List.range_succ, List.map_append]; rfl
theorem atl_len (s : ByteArray) (k : Nat) : (atl s k).length = k := by simp [atl]
theorem own_keep {w w2 : World} {B n : Nat} {v : Value} {xs : List Value} (h : w.ownsRow B 2 1 v n xs) (hk : ∀ g, v.ownBlock = some g → w2.heap[g]? = w.heap[g]?) : w2.ownsRow B 2 1 v n xs := by
  refine ⟨h.1, ?_⟩
  rcases h.2 with h' | ⟨g, cap, cur, hv, hg, hh, r⟩
  · exact .inl h'
  · exact .inr ⟨g, cap, cur, hv, hg, (hk g (by rw [hv]; rfl)).trans hh, r⟩
theorem own_block {w : World} {B n g : Nat} {v : Value} {xs : List Value} (h : w.ownsRow B 2 1 v n xs) (hg : v.ownBlock = some g) : ∃ cur, w.heap[g]? = some (.cells cur 2 (0, 0)) := by
  rcases h.2 with ⟨hv, _⟩ | ⟨g', cap, cur, hv, _, hh, r⟩
  · rw [hv] at hg; cases hg
  · rw [hv] at hg
    simp only [Value.ownBlock, Option.some.injEq] at hg
    exact ⟨cur, by rw [← hg]; exact hh⟩
/-- Two rows of the call's own, in a box. -/
structure WSt (w wr : World) (v1 v2 : Value) (L A : List Int) : Prop where
  bel : Below w.heap.size w wr
  o1 : wr.ownsRow w.heap.size 2 1 v1 L.length (L.map (Value.int .i64))
  o2 : wr.ownsRow w.heap.size 2 1 v2 A.length (A.map (Value.int .i64))
  ne : ∀ g, v1.ownBlock = some g → v2.ownBlock ≠ some g
  bx : wr.heap[w.heap.size + 1]? = some (.cells #[v1, v2] 59 (0, 0))
  rx : wr.heap[w.heap.size]? = some (.cells #[.slice none 0 0, .slice none 0 0] 59 (0, 0))
theorem WSt.size {w wr : World} {v1 v2 : Value} {L A : List Int} (h : WSt w wr v1 v2 L A) : w.heap.size + 1 < wr.heap.size := (Array.getElem?_eq_some_iff.1 h.bx).1
theorem WSt.below {w wr w2 : World} {v1 v2 : Value} {L A : List Int} (h : WSt w wr v1 v2 L A) (hb : Below wr.heap.size wr w2) : WSt w w2 v1 v2 L A := by
  have hs := h.size
  exact ⟨h.bel.trans (hb.mono (by omega)), ownsRow_below h.o1 hb, ownsRow_below h.o2 hb, h.ne, by rw [hb.block _ (by omega)]; exact h.bx, by rw [hb.block _ (by omega)]; exact h.rx⟩
theorem WSt.far {w wr : World} {v1 v2 : Value} {L A : List Int} (h : WSt w wr v1 v2 L A) (k : Nat) (hk : k = w.heap.size ∨ k = w.heap.size + 1) : v1.ownBlock ≠ some k ∧ v2.ownBlock ≠ some k := by
  have hc : ∃ cs, wr.heap[k]? = some (.cells cs 59 (0, 0)) := by rcases hk with rfl | rfl; exact ⟨_, h.rx⟩; exact ⟨_, h.bx⟩
  obtain ⟨cs, hc⟩ := hc
  constructor
  · intro e
    obtain ⟨cur, hh⟩ := own_block h.o1 e
    rw [hc] at hh; cases hh
  · intro e
    obtain ⟨cur, hh⟩ := own_block h.o2 e
    rw [hc] at hh; cases hh
theorem WSt.app1 {w wr w2 : World} {v1 v2 v' : Value} {L A : List Int} {p : Int} {o : Obj} (h : WSt w wr v1 v2 L A) (ho : w2.ownsRow w.heap.size 2 1 v' (L.length + 1) (L.map (Value.int .i64) ++ [.int .i64 p]))
    (hg : (wr.alloc o).grownBy w2 v1.ownBlock) (hat : v'.ownBlock = v1.ownBlock ∨ v'.ownBlock = some (wr.alloc o).heap.size) : WSt w (w2.setCell ⟨w.heap.size + 1, 0, none⟩ v') v' v2 (L ++ [p]) A := by
  have hs := h.size
  have hblk : ∀ k, k < wr.heap.size → v1.ownBlock ≠ some k → w2.heap[k]? = wr.heap[k]? := fun k hk hne => by
    rw [hg.block k (by simp; omega) (fun e => hne e.symm), Below.heap_alloc wr o k hk]
  have hb2 : w2.heap[w.heap.size + 1]? = some (.cells #[v1, v2] 59 (0, 0)) := by rw [hblk _ (by omega) (h.far _ (.inr rfl)).1]; exact h.bx
  have hr2 : w2.heap[w.heap.size]? = some (.cells #[.slice none 0 0, .slice none 0 0] 59 (0, 0)) := by rw [hblk _ (by omega) (h.far _ (.inl rfl)).1]; exact h.rx
  have hoth : ∀ k, k ≠ w.heap.size + 1 → (w2.setCell ⟨w.heap.size + 1, 0, none⟩ v').heap[k]? = w2.heap[k]? := fun k hk => heap_setCell_other _ _ _ _ hk
  have ho2 : w2.ownsRow w.heap.size 2 1 v2 A.length (A.map (Value.int .i64)) := own_keep h.o2 (fun g hg2 => hblk g (h.o2.lt g hg2).2 (fun e => h.ne g e hg2))
  refine ⟨((h.bel.alloc (by omega) o).grown hg (by simp; omega) (fun j hj => (h.o1.lt j hj).1)).setCell (p := ⟨w.heap.size + 1, 0, none⟩) (by simp) _, ?_, ?_, ?_, ?_, ?_⟩
  · rw [List.length_append, List.map_append]
    refine own_keep ho (fun g hg2 => hoth g (fun e => ?_))
    obtain ⟨cur, hh⟩ := own_block ho hg2
    rw [e, hb2] at hh; cases hh
  · refine own_keep ho2 (fun g hg2 => hoth g (fun e => ?_))
    rw [e] at hg2
    exact (h.far _ (.inr rfl)).2 hg2
  · intro g hg2 hg3
    rcases hat with e | e
    · exact h.ne g (e ▸ hg2) hg3
    · rw [e] at hg2
      have := (h.o2.lt g hg3).2
      simp at hg2
      omega
  · have := heap_setCell_same w2 (w.heap.size + 1) 0 _ 59 v' hb2
    simpa using this
  · rw [hoth _ (by omega)]; exact hr2
theorem WSt.app2 {w wr w2 : World} {v1 v2 v' : Value} {L A : List Int} {p : Int} {o : Obj} (h : WSt w wr v1 v2 L A) (ho : w2.ownsRow w.heap.size 2 1 v' (A.length + 1) (A.map (Value.int .i64) ++ [.int .i64 p]))
    (hg : (wr.alloc o).grownBy w2 v2.ownBlock) (hat : v'.ownBlock = v2.ownBlock ∨ v'.ownBlock = some (wr.alloc o).heap.size) : WSt w (w2.setCell ⟨w.heap.size + 1, 1, none⟩ v') v1 v' L (A ++ [p]) := by
  have hs := h.size
  have hblk : ∀ k, k < wr.heap.size → v2.ownBlock ≠ some k → w2.heap[k]? = wr.heap[k]? := fun k hk hne => by
    rw [hg.block k (by simp; omega) (fun e => hne e.symm), Below.heap_alloc wr o k hk]
  have hb2 : w2.heap[w.heap.size + 1]? = some (.cells #[v1, v2] 59 (0, 0)) := by rw [hblk _ (by omega) (h.far _ (.inr rfl)).2]; exact h.bx
  have hr2 : w2.heap[w.heap.size]? = some (.cells #[.slice none 0 0, .slice none 0 0] 59 (0, 0)) := by rw [hblk _ (by omega) (h.far _ (.inl rfl)).2]; exact h.rx
  have hoth : ∀ k, k ≠ w.heap.size + 1 → (w2.setCell ⟨w.heap.size + 1, 1, none⟩ v').heap[k]? = w2.heap[k]? := fun k hk => heap_setCell_other _ _ _ _ hk
  have ho1 : w2.ownsRow w.heap.size 2 1 v1 L.length (L.map (Value.int .i64)) := own_keep h.o1 (fun g hg2 => hblk g (h.o1.lt g hg2).2 (fun e => h.ne g hg2 e))
  refine ⟨((h.bel.alloc (by omega) o).grown hg (by simp; omega) (fun j hj => (h.o2.lt j hj).1)).setCell (p := ⟨w.heap.size + 1, 1, none⟩) (by simp) _, ?_, ?_, ?_, ?_, ?_⟩
  · refine own_keep ho1 (fun g hg2 => hoth g (fun e => ?_))
    rw [e] at hg2
    exact (h.far _ (.inr rfl)).1 hg2
  · rw [List.length_append, List.map_append]
    refine own_keep ho (fun g hg2 => hoth g (fun e => ?_))
    obtain ⟨cur, hh⟩ := own_block ho hg2
    rw [e, hb2] at hh; cases hh
  · intro g hg2 hg3
    rcases hat with e | e
    · exact h.ne g hg2 (e ▸ hg3)
    · rw [e] at hg3
      have := (h.o1.lt g hg2).2
      simp at hg3
      omega
  · have := heap_setCell_same w2 (w.heap.size + 1) 1 _ 59 v' hb2
    simpa using this
  · rw [hoth _ (by omega)]; exact hr2
theorem two_cells {w : World} {g : Nat} {a b : Value} {T : TypeId} (h : w.heap[g]? = some (.cells #[a, b] T (0, 0))) : w.cell? ⟨g, 0, none⟩ = some a ∧ w.cell? ⟨g, 1, none⟩ = some b ∧ w.frozen? ⟨g, 0, none⟩ = false ∧ w.frozen? ⟨g, 1, none⟩ = false := by
  simp [World.cell?, World.frozen?, h]
theorem first_w (w : World) : WSt w ((w.alloc (.cells #[.slice none 0 0, .slice none 0 0] 59)).alloc (.cells #[.slice none 0 0, .slice none 0 0] 59)) (.slice none 0 0) (.slice none 0 0) [] [] := by
  refine ⟨bel2 _ _ _, World.ownsRow_nil _ _ _ _, World.ownsRow_nil _ _ _ _, (fun g h => by cases h), ?_, ?_⟩
  · have e : (w.alloc (.cells #[.slice none 0 0, .slice none 0 0] 59)).heap.size = w.heap.size + 1 := by simp
    rw [← e]
    exact heap_alloc_last _ _
  · rw [Below.heap_alloc _ _ _ (by simp)]
    exact heap_alloc_last _ _
end Chr
end Go.Proofs.YtnmlfgnnhhaeoaaDoor
