/- The table of unlike blocks: what it holds, and how a block is put into it. -/
import Derived.Test.YtnfdkcphmolkiaaSloT
namespace Go.Proofs.Ytnfdkcphmolkiaa
open Go.RowKit
/-- A block of 64 numbers below B. -/
def BlkAt (w : World) (B : Nat) (v : Value) (b : List Int) : Prop := b.length = 64 ∧ ∃ g off cap, v = .slice (some ⟨g, off, none⟩) 64 cap ∧ g < B ∧ ∀ j, j < 64 → w.cell? ⟨g, off + j, none⟩ = some (.int .i64 (nth b j))
theorem BlkAt.ints {w : World} {B : Nat} {v : Value} {b : List Int} (h : BlkAt w B v b) (hB : B ≤ w.heap.size) : IntsAt w v b := by
  obtain ⟨hl, g, off, cap, rfl, hg, hc⟩ := h
  exact ⟨_, cap, by rw [hl], .inr ⟨g, off, rfl, by omega, fun i hi => hc i (by omega)⟩⟩
theorem BlkAt.same {w w' : World} {B : Nat} {v : Value} {b : List Int} (h : BlkAt w B v b) (hs : ∀ k, k < B → w'.heap[k]? = w.heap[k]?) : BlkAt w' B v b := by
  obtain ⟨hl, g, off, cap, rfl, hg, hc⟩ := h
  exact ⟨hl, g, off, cap, rfl, hg, fun j hj => (World.cell?_of_block (a := ⟨g, off + j, none⟩) (hs g hg)).trans (hc j hj)⟩
structure TabI (w : World) (B g : Nat) (T PT : List (List Int)) (V : Value) (bs : List Value) (S : Nat → Value) : Prop where
  hB : B ≤ w.heap.size
  hg : B ≤ g
  own : w.ownsRow B 24 1 V T.length bs
  blk : ∀ i, i < T.length → ∃ v, bs[i]? = some v ∧ BlkAt w B v (tb T i)
  nodup : T.Nodup
  c0 : w.cell? ⟨g, 0, none⟩ = some V
  cs : ∀ s, s < 512 → w.cell? ⟨g, 1 + s, none⟩ = some (S s)
  fr : ∀ j, w.frozen? ⟨g, j, none⟩ = false
  tag : ∃ cur, w.heap[g]? = some (.cells cur 65 (0, 0))
  rows : ∀ s, s < 512 → w.ownsRow B 2 1 (S s) (places PT s).length (natCells (places PT s))
  apart : ∀ s s', s < 512 → s' < 512 → s ≠ s' → (S s).ownBlock = none ∨ (S s).ownBlock ≠ (S s').ownBlock
theorem own_ne_tag {w : World} {B : Nat} {e t : TypeId} {s : Nat} {v : Value} {n : Nat} {xs : List Value} {g : Nat} {cur : Array Value} {f : Nat × Nat} (h : w.ownsRow B e s v n xs) (hh : w.heap[g]? = some (.cells cur t f)) (hne : e ≠ t) : some g ≠ v.ownBlock := by
  intro e1
  rcases h.2 with ⟨rfl, _⟩ | ⟨g', cap, cur', rfl, _, hh', _⟩
  · cases e1
  · simp only [Value.ownBlock, Option.some.injEq] at e1
    rw [← e1, hh] at hh'
    injection hh' with hh'
    injection hh' with _ h2 _
    exact hne h2.symm
theorem rows_apart {w : World} {B B' : Nat} {e e' : TypeId} {s s' : Nat} {v v' : Value} {n n' : Nat} {xs xs' : List Value} (h : w.ownsRow B e s v n xs) (h' : w.ownsRow B' e' s' v' n' xs') (hne : e ≠ e') : v.ownBlock = none ∨ v.ownBlock ≠ v'.ownBlock := by
  rcases h.2 with ⟨rfl, _⟩ | ⟨g, cap, cur, rfl, _, hh, _⟩
  · exact .inl rfl
  · refine .inr fun e => ?_
    rcases h'.2 with ⟨rfl, _⟩ | ⟨g', cap', cur', rfl, _, hh', _⟩
    · cases e
    · simp only [Value.ownBlock, Option.some.injEq] at e
      rw [← e, hh] at hh'
      injection hh' with hh'
      injection hh' with _ h2 _
      exact hne h2
theorem set_grown {w : World} {R j : Nat} {u : Value} : w.grownBy (w.setCell ⟨R, j, none⟩ u) (some R) :=
  ⟨rfl, rfl, rfl, by simp, fun k _ hk => heap_setCell_other w ⟨R, j, none⟩ k u (fun e => hk (by simp [e]))⟩
theorem own_ge {w : World} {B : Nat} {e : TypeId} {s : Nat} {v : Value} {n : Nat} {xs : List Value} (h : w.ownsRow B e s v n xs) {k : Nat} (hk : k < B) : some k ≠ v.ownBlock := by
  intro e1
  have := (h.lt k e1.symm).1
  omega
theorem alloc_block (w : World) (o : Obj) {k : Nat} (h : k < w.heap.size) : (w.alloc o).heap[k]? = w.heap[k]? := Below.heap_alloc w o k h
theorem info29 : (Try.prog.info? 24).map (fun i => (i.zero, i.size, i.bytes)) = some (some (.slice none 0 0), 1, 24) := by kernel_rfl
theorem TabI.glt {w : World} {B g : Nat} {T PT : List (List Int)} {V : Value} {bs : List Value} {S : Nat → Value} (h : TabI w B g T PT V bs S) : g < w.heap.size := by
  obtain ⟨cur, hc⟩ := h.tag
  exact (Array.getElem?_eq_some_iff.1 hc).1
/-- Behind the first append: what the store needs, and what it leaves. -/
theorem TabI.grow1 {w w2 : World} {B g : Nat} {T PT : List (List Int)} {V : Value} {bs : List Value} {S : Nat → Value} {o : Obj} (h : TabI w B g T PT V bs S) (hg : (w.alloc o).grownBy w2 V.ownBlock) :
    w2.cell? ⟨g, 0, none⟩ = some V ∧ w2.frozen? ⟨g, 0, none⟩ = false ∧ (∀ k, k < B → w2.heap[k]? = w.heap[k]?) ∧ w2.heap[g]? = w.heap[g]? ∧ (∀ s, s < 512 → w2.ownsRow B 2 1 (S s) (places PT s).length (natCells (places PT s))) ∧ w.heap.size ≤ w2.heap.size ∧ Below B w w2 := by
  obtain ⟨cur, hc⟩ := h.tag
  have hgl := h.glt
  have e : w2.heap[g]? = w.heap[g]? := (hg.block g (by simp; omega) (own_ne_tag h.own hc (by decide))).trans (alloc_block w o hgl)
  have hs : w.heap.size ≤ w2.heap.size := by have := hg.size; simp at this; omega
  refine ⟨(World.cell?_of_block (a := ⟨g, 0, none⟩) e).trans h.c0, (World.frozen?_of_block (a := ⟨g, 0, none⟩) e).trans (h.fr 0), fun k hk => ?_, e, fun s hs => ?_, hs, ?_⟩
  · have := h.hB
    exact (hg.block k (by simp; omega) (own_ge h.own hk)).trans (alloc_block w o (by omega))
  · exact World.ownsRow.kept (World.ownsRow.alloc (h.rows s hs) o) hg (rows_apart (h.rows s hs) h.own (by decide))
  · exact ((Below.refl B w).alloc h.hB o).grown hg (by have := h.hB; simp; omega) (fun k hk => (h.own.lt k hk).1)
theorem TabI.put1 {w w2 : World} {B g : Nat} {T PT : List (List Int)} {V V' : Value} {bs : List Value} {S : Nat → Value} {o : Obj} {vb : Value} {b : List Int} (h : TabI w B g T PT V bs S) (hb : BlkAt w B vb b) (hn : b ∉ T)
    (ho : w2.ownsRow B 24 1 V' (T.length + 1) (bs ++ [vb])) (hg : (w.alloc o).grownBy w2 V.ownBlock) :
    TabI (w2.setCell ⟨g, 0, none⟩ V') B g (T ++ [b]) PT V' (bs ++ [vb]) S ∧ Below B w (w2.setCell ⟨g, 0, none⟩ V') := by
  obtain ⟨q0, q1, q2, q3, q4, q5, q6⟩ := h.grow1 hg
  obtain ⟨cur, hc⟩ := h.tag
  have hc2 : w2.heap[g]? = some (.cells cur 65 (0, 0)) := q3.trans hc
  have hbl : bs.length = T.length := by have := h.own.1; omega
  have hlow : ∀ k, k < B → (w2.setCell ⟨g, 0, none⟩ V').heap[k]? = w.heap[k]? := fun k hk => (heap_setCell_other w2 ⟨g, 0, none⟩ k V' (by have := h.hg; show k ≠ g; omega)).trans (q2 k hk)
  have hlen : (T ++ [b]).length = T.length + 1 := by simp
  refine ⟨⟨?_, h.hg, ?_, ?_, ?_, ?_, ?_, ?_, ?_, ?_, h.apart⟩, q6.setCell (p := ⟨g, 0, none⟩) h.hg _⟩
  · have := h.hB; simp; omega
  · rw [hlen]
    exact World.ownsRow.kept ho (set_grown (R := g)) (.inr (fun e => own_ne_tag ho hc2 (by decide) e.symm))
  · intro i hi
    rw [hlen] at hi
    by_cases e : i = T.length
    · subst e
      refine ⟨vb, ?_, ?_⟩
      · rw [List.getElem?_append_right (by omega), hbl, Nat.sub_self]; rfl
      · rw [tb_app_last]; exact hb.same hlow
    · obtain ⟨v, hv, hk⟩ := h.blk i (by omega)
      refine ⟨v, ?_, ?_⟩
      · rw [List.getElem?_append_left (by omega)]; exact hv
      · rw [tb_app_left (by omega)]; exact hk.same hlow
  · have := addB_nodup (b := b) h.nodup
    rwa [addB_not hn] at this
  · exact World.cell?_setCell_same _ _ _ q0
  · intro s hs
    rw [World.cell?_setCell_other _ _ _ _ (by simp)]
    exact (World.cell?_of_block (a := ⟨g, 1 + s, none⟩) q3).trans (h.cs s hs)
  · intro j
    rw [World.frozen?_setCell]
    exact (World.frozen?_of_block (a := ⟨g, j, none⟩) q3).trans (h.fr j)
  · exact ⟨_, heap_setCell_same w2 g 0 cur 65 V' hc2⟩
  · intro s hs
    exact World.ownsRow.kept (q4 s hs) (set_grown (R := g)) (.inr (fun e => own_ne_tag (q4 s hs) hc2 (by decide) e.symm))
/-- Behind the second append. -/
theorem TabI.grow2 {w w2 : World} {B g : Nat} {T PT : List (List Int)} {V : Value} {bs : List Value} {S : Nat → Value} {o : Obj} {r : Nat} (h : TabI w B g T PT V bs S) (hr : r < 512) (hg : (w.alloc o).grownBy w2 (S r).ownBlock) :
    w2.cell? ⟨g, 1 + r, none⟩ = some (S r) ∧ w2.frozen? ⟨g, 1 + r, none⟩ = false ∧ (∀ k, k < B → w2.heap[k]? = w.heap[k]?) ∧ w2.heap[g]? = w.heap[g]? ∧ (∀ s, s < 512 → s ≠ r → w2.ownsRow B 2 1 (S s) (places PT s).length (natCells (places PT s))) ∧ w.heap.size ≤ w2.heap.size ∧ Below B w w2 ∧ w2.ownsRow B 24 1 V T.length bs := by
  obtain ⟨cur, hc⟩ := h.tag
  have hgl := h.glt
  have e : w2.heap[g]? = w.heap[g]? := (hg.block g (by simp; omega) (own_ne_tag (h.rows r hr) hc (by decide))).trans (alloc_block w o hgl)
  have hs : w.heap.size ≤ w2.heap.size := by have := hg.size; simp at this; omega
  refine ⟨(World.cell?_of_block (a := ⟨g, 1 + r, none⟩) e).trans (h.cs r hr), (World.frozen?_of_block (a := ⟨g, 1 + r, none⟩) e).trans (h.fr _), fun k hk => ?_, e, fun s hs hne => ?_, hs, ?_, ?_⟩
  · have := h.hB
    exact (hg.block k (by simp; omega) (own_ge (h.rows r hr) hk)).trans (alloc_block w o (by omega))
  · exact World.ownsRow.kept (World.ownsRow.alloc (h.rows s hs) o) hg (h.apart s r hs hr hne)
  · exact ((Below.refl B w).alloc h.hB o).grown hg (by have := h.hB; simp; omega) (fun k hk => ((h.rows r hr).lt k hk).1)
  · exact World.ownsRow.kept (World.ownsRow.alloc h.own o) hg (rows_apart h.own (h.rows r hr) (by decide))
/-- The new row is where the old one was, or new. -/
def NewAt (w : World) (v v' : Value) : Prop := ∀ k, v'.ownBlock = some k → v.ownBlock = some k ∨ w.heap.size ≤ k
theorem TabI.put2 {w w2 : World} {B g : Nat} {T : List (List Int)} {V S' : Value} {bs : List Value} {S : Nat → Value} {o : Obj} {b : List Int} (h : TabI w B g (T ++ [b]) T V bs S)
    (ho : w2.ownsRow B 2 1 S' ((places T (slotN b)).length + 1) (natCells (places T (slotN b)) ++ [.int .i64 (T.length : Int)])) (hg : (w.alloc o).grownBy w2 (S (slotN b)).ownBlock) (hnew : NewAt w (S (slotN b)) S') :
    TabI (w2.setCell ⟨g, 1 + slotN b, none⟩ S') B g (T ++ [b]) (T ++ [b]) V bs (fun s => if s = slotN b then S' else S s) ∧ Below B w (w2.setCell ⟨g, 1 + slotN b, none⟩ S') := by
  have hr := slotN_lt b
  obtain ⟨q0, q1, q2, q3, q4, q5, q6, q7⟩ := h.grow2 hr hg
  obtain ⟨cur, hc⟩ := h.tag
  have hc2 : w2.heap[g]? = some (.cells cur 65 (0, 0)) := q3.trans hc
  have hlow : ∀ k, k < B → (w2.setCell ⟨g, 1 + slotN b, none⟩ S').heap[k]? = w.heap[k]? := fun k hk => (heap_setCell_other w2 ⟨g, 1 + slotN b, none⟩ k S' (by have := h.hg; show k ≠ g; omega)).trans (q2 k hk)
  have keep : ∀ {e : TypeId} {s : Nat} {v : Value} {n : Nat} {xs : List Value}, w2.ownsRow B e s v n xs → e ≠ 65 → (w2.setCell ⟨g, 1 + slotN b, none⟩ S').ownsRow B e s v n xs := fun hh hne =>
    World.ownsRow.kept hh (set_grown (R := g)) (.inr (fun e => own_ne_tag hh hc2 hne e.symm))
  refine ⟨⟨?_, h.hg, keep q7 (by decide), ?_, h.nodup, ?_, ?_, ?_, ?_, ?_, ?_⟩, q6.setCell (p := ⟨g, 1 + slotN b, none⟩) h.hg _⟩
  · have := h.hB; simp; omega
  · intro i hi
    obtain ⟨v, hv, hk⟩ := h.blk i hi
    exact ⟨v, hv, hk.same hlow⟩
  · rw [World.cell?_setCell_other _ _ _ _ (by simp)]
    exact (World.cell?_of_block (a := ⟨g, 0, none⟩) q3).trans h.c0
  · intro s hs
    by_cases e : s = slotN b
    · subst e
      rw [if_pos rfl]
      exact World.cell?_setCell_same _ _ _ q0
    · rw [if_neg e, World.cell?_setCell_other _ _ _ _ (by simp)]
      exact (World.cell?_of_block (a := ⟨g, 1 + s, none⟩) q3).trans (h.cs s hs)
  · intro j
    rw [World.frozen?_setCell]
    exact (World.frozen?_of_block (a := ⟨g, j, none⟩) q3).trans (h.fr j)
  · exact ⟨_, heap_setCell_same w2 g _ cur 65 S' hc2⟩
  · intro s hs
    rw [places_snoc]
    by_cases e : s = slotN b
    · subst e
      rw [if_pos rfl, if_pos rfl]
      have := keep ho (by decide)
      rw [List.length_append]
      unfold natCells at this ⊢
      rw [List.map_append]
      exact this
    · rw [if_neg e, if_neg (Ne.symm e)]
      exact keep (q4 s hs e) (by decide)
  · intro s s' hs hs' hne
    have old : ∀ s, s < 512 → ∀ k, (S s).ownBlock = some k → k < w.heap.size := fun s hs k hk => ((h.rows s hs).lt k hk).2
    by_cases e : s = slotN b
    · by_cases e' : s' = slotN b
      · omega
      · rw [if_pos e, if_neg e']
        cases hk : S'.ownBlock with
        | none => exact .inl rfl
        | some k =>
          refine .inr fun hh => ?_
          rcases hnew k hk with h1 | h1
          · rcases h.apart (slotN b) s' hr hs' (by omega) with h2 | h2
            · rw [h2] at h1; cases h1
            · exact h2 (h1.trans hh)
          · have := old s' hs' k hh.symm
            omega
    · by_cases e' : s' = slotN b
      · rw [if_neg e, if_pos e']
        cases hk : (S s).ownBlock with
        | none => exact .inl rfl
        | some k =>
          refine .inr fun hh => ?_
          rcases hnew k hh.symm with h1 | h1
          · rcases h.apart (slotN b) s hr hs (by omega) with h2 | h2
            · rw [h2] at h1; cases h1
            · exact h2 (h1.trans hk.symm)
          · have := old s hs k hk
            omega
      · rw [if_neg e, if_neg e']
        exact h.apart s s' hs hs' hne
end Go.Proofs.Ytnfdkcphmolkiaa
