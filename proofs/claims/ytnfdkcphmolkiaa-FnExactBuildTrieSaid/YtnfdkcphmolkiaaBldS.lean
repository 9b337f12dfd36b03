/- A trie in a box whose two rows grow: what the specification's BuildTrie keeps. -/
import Derived.Test.YtnfdkcphmolkiaaBldK
namespace Go.Proofs.Ytnfdkcphmolkiaa
open Go.RowKit
structure BoxT (w : World) (N g : Nat) (xi xd : List Int) (vi vd : Value) : Prop where
  hN : N ≤ w.heap.size
  hg : g < N
  box : w.heap[g]? = some (.cells #[vi, vd] 34 (0, 0))
  oi : w.ownsRow N 2 1 vi xi.length (xi.map (Value.int .i64))
  od : w.ownsRow N 2 1 vd xd.length (xd.map (Value.int .i64))
  apart : vi.ownBlock = none ∨ vi.ownBlock ≠ vd.ownBlock
/-- Below N all but the box stays. -/
structure Fr (N g : Nat) (w w' : World) : Prop where
  os : w'.os = w.os
  tape : w'.tape = w.tape
  output : w'.output = w.output
  size : w.heap.size ≤ w'.heap.size
  block : ∀ k, k < N → k ≠ g → w'.heap[k]? = w.heap[k]?
theorem Fr.refl (N g : Nat) (w : World) : Fr N g w w := ⟨rfl, rfl, rfl, Nat.le_refl _, fun _ _ _ => rfl⟩
theorem Fr.trans {N g : Nat} {a b c : World} (h : Fr N g a b) (h' : Fr N g b c) : Fr N g a c :=
  ⟨h'.os.trans h.os, h'.tape.trans h.tape, h'.output.trans h.output, Nat.le_trans h.size h'.size, fun k hk hn => (h'.block k hk hn).trans (h.block k hk hn)⟩
theorem Fr.drewN {N g : Nat} {a b : World} (h : Fr N g a b) (n : Nat) : Fr N g a (b.drewN n) := ⟨h.os, h.tape, h.output, h.size, h.block⟩
theorem BoxT.drewN {w : World} {N g : Nat} {xi xd : List Int} {vi vd : Value} (h : BoxT w N g xi xd vi vd) (n : Nat) : BoxT (w.drewN n) N g xi xd vi vd := ⟨h.hN, h.hg, h.box, h.oi, h.od, h.apart⟩
theorem BoxT.cells {w : World} {N g : Nat} {xi xd : List Int} {vi vd : Value} (h : BoxT w N g xi xd vi vd) : w.cell? ⟨g, 0, none⟩ = some vi ∧ w.cell? ⟨g, 1, none⟩ = some vd ∧ w.frozen? ⟨g, 0, none⟩ = false ∧ w.frozen? ⟨g, 1, none⟩ = false := by
  simp [World.cell?, World.frozen?, h.box]
theorem fr_put {w w2 : World} {N g j : Nat} {row : Option Nat} {u : Value} (hN : N ≤ w.heap.size) (hg : w.grownBy w2 row) (hr : ∀ k, k < N → some k ≠ row) : Fr N g w (w2.setCell ⟨g, j, none⟩ u) :=
  ⟨hg.os, hg.tape, hg.output, by have := hg.size; simp; omega, fun k hk hn => (heap_setCell_other w2 ⟨g, j, none⟩ k u hn).trans (hg.block k (by omega) (hr k hk))⟩
theorem new_apart {w : World} {N : Nat} {e : TypeId} {s n : Nat} {xs : List Value} {v u u' : Value} (hv : w.ownsRow N e s v n xs) (ha : v.ownBlock = none ∨ v.ownBlock ≠ u.ownBlock) (hn : NewAt w u u') : v.ownBlock = none ∨ v.ownBlock ≠ u'.ownBlock := by
  cases hk : v.ownBlock with
  | none => exact .inl rfl
  | some k =>
    refine .inr fun e1 => ?_
    rcases hn k e1.symm with h1 | h1
    · rcases ha with h2 | h2
      · rw [h2] at hk; cases hk
      · exact h2 (hk.trans h1.symm)
    · have := (hv.lt k hk).2
      omega
theorem apart_symm {u v : Value} (h : u.ownBlock = none ∨ u.ownBlock ≠ v.ownBlock) : v.ownBlock = none ∨ v.ownBlock ≠ u.ownBlock := by
  cases hk : v.ownBlock with
  | none => exact .inl rfl
  | some k =>
    refine .inr fun e => ?_
    rcases h with h | h
    · rw [h] at e; cases e
    · exact h (e.symm.trans hk.symm)
theorem BoxT.data {w w2 : World} {N g : Nat} {xi xd b : List Int} {vi vd vd' : Value} (h : BoxT w N g xi xd vi vd) (ho : w2.ownsRow N 2 1 vd' (xd.length + b.length) (xd.map (Value.int .i64) ++ b.map (Value.int .i64))) (hg : w.grownBy w2 vd.ownBlock) (hn : NewAt w vd vd') :
    BoxT (w2.setCell ⟨g, 1, none⟩ vd') N g xi (xd ++ b) vi vd' ∧ Fr N g w (w2.setCell ⟨g, 1, none⟩ vd') := by
  have hN := h.hN
  have hgN := h.hg
  have hs := hg.size
  have hb : w2.heap[g]? = some (.cells #[vi, vd] 34 (0, 0)) := (hg.block g (by omega) (own_ge h.od hgN)).trans h.box
  have oi2 := World.ownsRow.kept h.oi hg h.apart
  refine ⟨⟨by simp; omega, hgN, ?_, World.ownsRow.kept oi2 set_grown (.inr fun e => own_ge oi2 hgN e.symm), ?_, new_apart h.oi h.apart hn⟩, fr_put hN hg (fun k hk => own_ge h.od hk)⟩
  · rw [heap_setCell_same w2 g 1 _ _ vd' hb]
    rfl
  · rw [List.length_append, List.map_append]
    exact World.ownsRow.kept ho set_grown (.inr fun e => own_ge ho hgN e.symm)
theorem BoxT.index {w w2 : World} {N g : Nat} {xi xd : List Int} {x : Int} {vi vd vi' : Value} {o : Obj} (h : BoxT w N g xi xd vi vd) (ho : w2.ownsRow N 2 1 vi' (xi.length + 1) (xi.map (Value.int .i64) ++ [.int .i64 x])) (hg : (w.alloc o).grownBy w2 vi.ownBlock) (hn : NewAt w vi vi') :
    BoxT (w2.setCell ⟨g, 0, none⟩ vi') N g (xi ++ [x]) xd vi' vd ∧ Fr N g w (w2.setCell ⟨g, 0, none⟩ vi') := by
  have hN := h.hN
  have hgN := h.hg
  have hs := hg.size
  simp at hs
  have hb : w2.heap[g]? = some (.cells #[vi, vd] 34 (0, 0)) := (hg.block g (by simp; omega) (own_ge h.oi hgN)).trans ((alloc_block w o (by omega)).trans h.box)
  have od2 := World.ownsRow.kept (World.ownsRow.alloc h.od o) hg (apart_symm h.apart)
  have hf : Fr N g w (w2.setCell ⟨g, 0, none⟩ vi') :=
    ⟨hg.os, hg.tape, hg.output, by simp; omega, fun k hk hne => (heap_setCell_other w2 ⟨g, 0, none⟩ k vi' hne).trans ((hg.block k (by simp; omega) (own_ge h.oi hk)).trans (alloc_block w o (by omega)))⟩
  refine ⟨⟨by simp; omega, hgN, ?_, ?_, World.ownsRow.kept od2 set_grown (.inr fun e => own_ge od2 hgN e.symm), apart_symm (new_apart h.od (apart_symm h.apart) hn)⟩, hf⟩
  · rw [heap_setCell_same w2 g 0 _ _ vi' hb]
    rfl
  · rw [List.length_append, List.map_append]
    exact World.ownsRow.kept ho set_grown (.inr fun e => own_ge ho hgN e.symm)
end Go.Proofs.Ytnfdkcphmolkiaa
