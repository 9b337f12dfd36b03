/- Drawn texts: some text, not too long; the source is one again. -/
import Derived.Test.YtncfjpdbfojfoaaDoorDPoint
import Derived.Test.YtncfjpdbfojfoaaDoorNTextE
namespace Go.Proofs.YtncfjpdbfojfoaaDoor.Dr
open Go.RowKit
def AIn (B : Nat) (a : Option Addr) (len : Nat) : Prop := len = 0 ∨ ∃ cb off, a = some ⟨cb, off, none⟩ ∧ cb < B
theorem aIn_of {w : World} {src len cap : Nat} {a : Option Addr} {size : Int} (h : SrcAt w src a len cap size) : AIn w.heap.size a len := by
  rcases h.1 with h0 | ⟨cb, off, ha, hcb, _⟩
  · exact .inl h0
  · exact .inr ⟨cb, off, ha, hcb⟩
theorem src_move {w w' : World} {src len cap B : Nat} {a : Option Addr} {size : Int} (h : SrcAt w src a len cap size) (ha : AIn B a len) (hsrc : src < B) (hs : w.heap.size ≤ w'.heap.size) (hb : ∀ k, k < B → w'.heap[k]? = w.heap[k]?) : SrcAt w' src a len cap size := by
  obtain ⟨hc, p, mix, hp, hwf, hh⟩ := h
  refine ⟨?_, p, mix, hp, hwf, (hb src hsrc).trans hh⟩
  rcases hc with h0 | ⟨cb, off, e, hcb, hne, hcc⟩
  · exact .inl h0
  · refine .inr ⟨cb, off, e, by omega, hne, fun i hi => ?_⟩
    obtain ⟨z, hz, hzb⟩ := hcc i hi
    have hB : cb < B := by
      rcases ha with h0 | ⟨cb', off', e', hB⟩
      · omega
      · rw [e] at e'
        simp only [Option.some.injEq, Addr.mk.injEq, and_true] at e'
        omega
    exact ⟨z, (World.cell?_of_block (a := ⟨cb, off + i, none⟩) (hb cb hB)).trans hz, hzb⟩
theorem grown_bel {w w1 w2 : World} {src : Nat} (h : w.grownBy w1 (some src)) (hb : Below w1.heap.size w1 w2) : w.grownBy w2 (some src) :=
  grown_trans h ⟨hb.os, hb.tape, hb.output, hb.size, fun k hk _ => hb.block k hk⟩
theorem src_below {w w' : World} {src len cap : Nat} {a : Option Addr} {size : Int} (h : SrcAt w src a len cap size) (hb : Below w.heap.size w w') : SrcAt w' src a len cap size := src_keep h hb.size hb.block
/-- An append to a row that lies above the world at the beginning. -/
theorem grown_row {w wr w3 : World} {src : Nat} {v : Value} {o : Obj} {e : TypeId} {n : Nat} {xs : List Value} (h : w.grownBy wr (some src)) (ho : wr.ownsRow w.heap.size e 1 v n xs) (hg : (wr.alloc o).grownBy w3 v.ownBlock) :
    w.grownBy w3 (some src) ∧ (∀ k, k < w.heap.size → w3.heap[k]? = wr.heap[k]?) ∧ wr.heap.size ≤ w3.heap.size := by
  have hk : ∀ k, k < w.heap.size → w3.heap[k]? = wr.heap[k]? := by
    intro k hk
    have h1 : k < wr.heap.size := Nat.lt_of_lt_of_le hk h.size
    have hne : some k ≠ v.ownBlock := fun e => by have := (ho.lt k e.symm).1; omega
    rw [hg.block k (by simp; omega) hne, Below.heap_alloc wr o k h1]
  have hs : wr.heap.size ≤ w3.heap.size := by have := hg.size; simp at this; omega
  exact ⟨⟨hg.os.trans h.os, hg.tape.trans h.tape, hg.output.trans h.output, Nat.le_trans h.size hs, fun k hkw hr => (hk k hkw).trans (h.block k hkw hr)⟩, hk, hs⟩
theorem row_snoc {w3 : World} {B : Nat} {v' : Value} {L : List Int} {p : Int} (ho2 : w3.ownsRow B 2 1 v' (L.length + 1) (L.map (Value.int .i64) ++ [.int .i64 p])) : w3.ownsRow B 2 1 v' (L ++ [p]).length ((L ++ [p]).map (Value.int .i64)) := by
  rw [List.length_append, List.map_append]; exact ho2
theorem owned_kept {w wr w1 : World} {src : Nat} {e : TypeId} {v : Value} {n : Nat} {xs : List Value} (hsrc : src < w.heap.size) (ho : wr.ownsRow w.heap.size e 1 v n xs) (hg : wr.grownBy w1 (some src)) : w1.ownsRow w.heap.size e 1 v n xs := by
  refine ho.kept hg ?_
  cases hv : v.ownBlock with
  | none => exact .inl rfl
  | some k => exact .inr (fun e => by have := (ho.lt k hv).1; simp at e; omega)
def lenOf : Value → Nat
  | .slice _ n _ => n
  | _ => 0
theorem long_step {w wr w3 : World} {g cap : Nat} {v' : Value} {L : List Int} (hb : Below w.heap.size w wr) (ho : wr.ownsRow w.heap.size 5 1 (.slice (some ⟨g, 0, none⟩) L.length cap) L.length (L.map (Value.int .u8)))
    (ho3 : w3.ownsRow w.heap.size 5 1 v' (L.length + 2) (L.map (Value.int .u8) ++ Lib.strCells { data := #[97, 98] })) (hg : wr.grownBy w3 (some g)) :
    ∃ g' cap', v' = .slice (some ⟨g', 0, none⟩) (L ++ [97, 98]).length cap' ∧ (L ++ [97, 98] : List Int).length ≤ cap' ∧ cap' ≤ maxLen ∧
      w3.ownsRow w.heap.size 5 1 (.slice (some ⟨g', 0, none⟩) (L ++ [97, 98]).length cap') (L ++ [97, 98]).length ((L ++ [97, 98]).map (Value.int .u8)) ∧ Below w.heap.size w w3 := by
  have hb3 : Below w.heap.size w w3 := hb.grown hg hb.size (fun k hk => by simp at hk; subst hk; exact (ho.lt g rfl).1)
  have e1 : (L ++ [97, 98] : List Int).length = L.length + 2 := by simp
  have e2 : (L ++ [97, 98]).map (Value.int .u8) = L.map (Value.int .u8) ++ Lib.strCells { data := #[97, 98] } := by rw [List.map_append]; rfl
  rcases ho3.2 with ⟨hv, h0⟩ | ⟨g', cap', cur, hv, hg', hh, hn', hm, hs, ht⟩
  · omega
  · refine ⟨g', cap', by rw [hv, e1], by omega, hm, ?_, hb3⟩
    rw [e1, e2, ← hv]; exact ho3
theorem conv_pre (w : World) {B : Nat} (g cap : Nat) (L : List Int) (n : Nat) (hn : n ≤ L.length) (h : w.ownsRow B 5 1 (.slice (some ⟨g, 0, none⟩) L.length cap) L.length (L.map (Value.int .u8))) (c : Nat) :
    (convert 22 9 (.slice (some ⟨g, 0, none⟩) n c)).run Tryd.prog w = .ok (.string (strOfNums (L.take n))) w := by
  refine conv_of w g c (L.take n) n (by simp; omega) fun i hi => ?_
  rw [h.cellAt i (by omega), List.getElem?_map]
  simp [List.getD, hi, show i < L.length by omega]
theorem add1 (t : ByteArray) (k : Nat) (ht : t.size ≤ 100000) (W : World) (x : Int) : (Op.stringOp .add (t.extract 0 k) (strOfNums [x])).run Tryd.prog W = .ok (.string (t.extract 0 k ++ strOfNums [x])) W :=
  run_string_add_sum W _ _ (by rw [strOfNums_size, ByteArray.size_extract]; simp; omega)
theorem add2 (t : ByteArray) (k : Nat) (ht : t.size ≤ 100000) (W : World) (x : Int) : (Op.stringOp .add (t.extract 0 k ++ strOfNums [x]) (t.extract k t.size)).run Tryd.prog W = .ok (.string (t.extract 0 k ++ strOfNums [x] ++ t.extract k t.size)) W :=
  run_string_add_sum W _ _ (by rw [ByteArray.size_append, strOfNums_size, ByteArray.size_extract, ByteArray.size_extract]; simp; omega)
theorem add3 (t : ByteArray) (k : Nat) (ht : t.size ≤ 100000) (W : World) : (Op.stringOp .add (t.extract 0 k) (t.extract (k + 1) t.size)).run Tryd.prog W = .ok (.string (t.extract 0 k ++ t.extract (k + 1) t.size)) W :=
  run_string_add_sum W _ _ (by rw [ByteArray.size_extract, ByteArray.size_extract]; omega)
theorem add4 (t : ByteArray) (k : Nat) (ht : t.size ≤ 100000) (W : World) (x : Int) : (Op.stringOp .add (t.extract 0 k ++ strOfNums [x]) (t.extract (k + 1) t.size)).run Tryd.prog W = .ok (.string (t.extract 0 k ++ strOfNums [x] ++ t.extract (k + 1) t.size)) W :=
  run_string_add_sum W _ _ (by rw [ByteArray.size_append, strOfNums_size, ByteArray.size_extract, ByteArray.size_extract]; simp; omega)
theorem size2 (t : ByteArray) (k : Nat) (x : Int) (ht : t.size ≤ 100000) : (t.extract 0 k ++ strOfNums [x] ++ t.extract k t.size).size ≤ 100001 := by
  rw [ByteArray.size_append, ByteArray.size_append, strOfNums_size, ByteArray.size_extract, ByteArray.size_extract]; simp; omega
theorem size3 (t : ByteArray) (k : Nat) (ht : t.size ≤ 100000) : (t.extract 0 k ++ t.extract (k + 1) t.size).size ≤ 100001 := by
  rw [ByteArray.size_append, ByteArray.size_extract, ByteArray.size_extract]; omega
theorem size4 (t : ByteArray) (k : Nat) (x : Int) (ht : t.size ≤ 100000) : (t.extract 0 k ++ strOfNums [x] ++ t.extract (k + 1) t.size).size ≤ 100001 := by
  rw [ByteArray.size_append, ByteArray.size_append, strOfNums_size, ByteArray.size_extract, ByteArray.size_extract]; simp; omega
set_option maxHeartbeats 2000000 in
set_option maxRecDepth 100000 in
theorem spoil_any (w : World) (src : Nat) (a : Option Addr) (len cap : Nat) (size : Int) (t : ByteArray) (hl : len ≤ 1048576) (ht : t.size ≤ 100000) (h : SrcAt w src a len cap size) :
    Calls Tryd.prog 43 #[.pointer (some ⟨src, 0, none⟩), .string t] w fun e w' => ∃ s : ByteArray, e = .returned (.string s) ∧ s.size ≤ 100001 ∧ SrcAt w' src a len cap size ∧ w.grownBy w' (some src) := by
  have H := hide h
  clear h
  have hcv := conv1
  go_enter Tryd.func43, Tryd.ntmps43
  go_wp2_with fail
  refine (n_nat _ src a len cap size _ (by omega) (by omega) hl (unhide H)).mono ?_
  rintro e w1 ⟨k, rfl, hk, hs, hg⟩
  have S1 := hide hs
  have G1 := hide hg
  clear hs hg H
  go_wp2_with fail
  refine (n_nat _ src a len cap size 17 (by omega) (by omega) hl (unhide S1)).mono ?_
  rintro e w2 ⟨q, rfl, hq, hs, hg⟩
  have S2 := hide hs
  have G2 := hide (grown_trans (unhide G1) hg)
  clear hs hg S1 G1
  have hk2 : k ≤ t.size := by omega
  have a1 := add1 t k ht
  have a2 := add2 t k ht
  have a3 := add3 t k ht
  have a4 := add4 t k ht
  by_cases hkt : k = t.size
  · have e1 : ((k : Int) == (t.size : Int)) = true := by simp; omega
    clear hkt
    go_wp2
    go_quiet (fail)
    go_wp2
    go_ret
    exact ⟨_, rfl, size2 t k _ ht, src_keep (src_alloc (unhide S2) _) (Nat.le_refl _) (fun j hj => rfl), grown_trans (unhide G2) (grown_drewN (grown_alloc _ _ _) _)⟩
  · have e1 : ((k : Int) == (t.size : Int)) = false := by simp; omega
    have hk3 : k + 1 ≤ t.size := by omega
    clear hkt
    go_wp2_with fail
    refine (one_any _ src a len cap size 3 (by omega) (by omega) hl (src_alloc (unhide S2) _)).mono ?_
    rintro e w3 ⟨b, rfl, hs, hg⟩
    have S3 := hide hs
    have G3 := hide (grown_trans (unhide G2) (grown_trans (grown_alloc _ _ _) hg))
    clear hs hg S2 G2
    cases b
    · go_wp2_with fail
      refine (one_any _ src a len cap size 2 (by omega) (by omega) hl (unhide S3)).mono ?_
      rintro e w4 ⟨b, rfl, hs, hg⟩
      have S4' := hide hs
      have G4 := hide (grown_trans (unhide G3) hg)
      clear hs hg S3 G3
      cases b
      · go_wp2
        go_quiet (fail)
        go_wp2
        go_ret
        exact ⟨_, rfl, size4 t k _ ht, src_keep (unhide S4') (Nat.le_refl _) (fun j hj => rfl), grown_drewN (unhide G4) _⟩
      · go_wp2
        go_quiet (fail)
        go_wp2
        go_ret
        exact ⟨_, rfl, size3 t k ht, src_keep (unhide S4') (Nat.le_refl _) (fun j hj => rfl), grown_drewN (unhide G4) _⟩
    · go_wp2
      go_quiet (fail)
      go_wp2
      go_ret
      exact ⟨_, rfl, size2 t k _ ht, src_keep (unhide S3) (Nat.le_refl _) (fun j hj => rfl), grown_drewN (unhide G3) _⟩
end Go.Proofs.YtncfjpdbfojfoaaDoor.Dr
