/- A trie out of spans: the program. -/
import Derived.Test.YtnfdkcphmolkiaaBldP
import Derived.Test.YtnfdkcphmolkiaaBldC
import Derived.Test.YtnfdkcphmolkiaaBldW
import Derived.Test.YtnfdkcphmolkiaaSpnF
namespace Go.Proofs.Ytnfdkcphmolkiaa
open Go.RowKit
theorem TabI.kept {w w' : World} {B g i : Nat} {T PT : List (List Int)} {V : Value} {bs : List Value} {S : Nat → Value} (h : TabI w B g T PT V bs S) (hw : w.grownBy w' (some i)) (hig : i ≠ g) (hBi : B ≤ i) (hV : V.ownBlock ≠ some i) (hS : ∀ s, s < 512 → (S s).ownBlock ≠ some i) : TabI w' B g T PT V bs S := by
  have hgl := h.glt
  have e : w'.heap[g]? = w.heap[g]? := hw.block g hgl (by simp; omega)
  have hlow : ∀ k, k < B → w'.heap[k]? = w.heap[k]? := fun k hk => hw.block k (by have := h.hB; omega) (by simp; omega)
  refine ⟨by have := h.hB; have := hw.size; omega, h.hg, World.ownsRow.kept h.own hw (.inr hV), fun j hj => ?_, h.nodup, ?_, fun s hs => ?_, fun j => ?_, ?_, fun s hs => World.ownsRow.kept (h.rows s hs) hw (.inr (hS s hs)), h.apart⟩
  · obtain ⟨v, hv, hk⟩ := h.blk j hj
    exact ⟨v, hv, hk.same hlow⟩
  · exact (World.cell?_of_block (a := ⟨g, 0, none⟩) e).trans h.c0
  · exact (World.cell?_of_block (a := ⟨g, 1 + s, none⟩) e).trans (h.cs s hs)
  · exact (World.frozen?_of_block (a := ⟨g, j, none⟩) e).trans (h.fr j)
  · obtain ⟨cur, hc⟩ := h.tag
    exact ⟨cur, e.trans hc⟩
theorem grown_some {w w' : World} {i : Nat} (h : w.grownBy w' none) : w.grownBy w' (some i) := ⟨h.os, h.tape, h.output, h.size, fun k hk _ => h.block k hk (by simp)⟩
/-- The row of places while it is filled. -/
def ixL (l : List Int) (k : Nat) : List Value := (bld l k).2.map (Value.int .i64) ++ List.replicate (512 - k) (.int .i64 0)
theorem ixL_len (l : List Int) (k : Nat) (h : k ≤ 512) : (ixL l k).length = 512 := by simp [ixL, bld_ix_len]; omega
theorem ixL_zero (l : List Int) : ixL l 0 = List.replicate 512 (.int .i64 0) := List.nil_append _
theorem ixL_full (l : List Int) : ixL l 512 = (bld l 512).2.map (Value.int .i64) := by
  unfold ixL
  rw [Nat.sub_self, List.replicate_zero, List.append_nil]
theorem ixL_set (l : List Int) (k : Nat) (h : k < 512) : (ixL l k).toArray.setIfInBounds k (.int .i64 ((idxF (blk l k) (bld l k).1 : Nat) : Int)) = (ixL l (k + 1)).toArray := by
  have e : 512 - k = (512 - (k + 1)) + 1 := by omega
  have hl : ((bld l k).2.map (Value.int .i64)).length = k := by simp [bld_ix_len]
  rw [List.setIfInBounds_toArray]
  unfold ixL
  rw [e, List.replicate_succ, List.set_append_right _ _ (by omega), hl, Nat.sub_self, List.set_cons_zero, bld_succ]
  simp
theorem bld_pos (l : List Int) (k : Nat) : 0 < (bld l (k + 1)).1.length := by
  rw [bld_succ]
  show 0 < (addB _ _).length
  unfold addB
  split
  · rename_i h; exact List.length_pos_of_mem h
  · simp
/-- The loop's state: the table, the row of places at i, the blocks below B as at its start. -/
def BSt (w0 wr : World) (B N i : Nat) (l : List Int) (k : Nat) : Prop :=
  (∃ V bs S, TabI wr B B (bld l k).1 (bld l k).1 V bs S ∧ Kp wr S i (ixL l k).toArray) ∧ Below N w0 wr
theorem BSt.put {w0 wr w3 : World} {B N i : Nat} {l : List Int} {k : Nat} (hk : k < 512) (hi : B < i) (hN : N ≤ B) (hb : Below N w0 wr) (hbb : Below B wr w3)
    (h : ∃ V bs S, TabI w3 B B (addB (bld l k).1 (blk l k)) (addB (bld l k).1 (blk l k)) V bs S ∧ Kp w3 S i (ixL l k).toArray) :
    BSt w0 (w3.setCell ⟨i, k, none⟩ (.int .i64 ((idxF (blk l k) (bld l k).1 : Nat) : Int))) B N i l (k + 1) := by
  obtain ⟨V, bs, S, hT, hK⟩ := h
  refine ⟨⟨V, bs, S, ?_, ?_, hK.2⟩, (hb.trans (hbb.mono hN)).setCell (p := ⟨i, k, none⟩) (by show N ≤ i; omega) _⟩
  · rw [bld_succ]
    exact hT.kept set_grown (by omega) (by omega) (fun e => own_ne_tag hT.own hK.1 (by decide) e.symm) hK.2
  · rw [heap_setCell_same w3 i k _ 2 _ hK.1, ixL_set l k hk]
theorem Kp.at {w : World} {S : Nat → Value} {i : Nat} {l : List Int} {k : Nat} (h : Kp w S i (ixL l k).toArray) (hk : k < 512) : w.cell? ⟨i, k, none⟩ = some (.int .i64 0) ∧ w.frozen? ⟨i, k, none⟩ = false := by
  have ho := own_of_heap (n := 512) h.1 (ixL_len l k (by omega)) (by unfold maxLen; omega)
  refine ⟨(ho.cellAt k (by omega)).trans ?_, ho.frozenAt k⟩
  unfold ixL
  rw [List.getElem?_append_right (by simp [bld_ix_len]), List.length_map, bld_ix_len, Nat.sub_self, List.getElem?_replicate, if_pos (by omega)]
/-- The values of all points. -/
def valsL (L : List Sp) (o : Int) : List Int := tabF 32768 (fun q => pv L o q)
theorem valsL_len (L : List Sp) (o : Int) : (valsL L o).length = 512 * 64 := by simp [valsL, tabF]
end Go.Proofs.Ytnfdkcphmolkiaa
