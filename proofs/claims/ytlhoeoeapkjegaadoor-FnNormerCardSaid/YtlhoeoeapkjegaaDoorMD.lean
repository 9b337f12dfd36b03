/- Several texts in one. -/
import Derived.Test.YtlhoeoeapkjegaaDoorDPoint
import Derived.Test.YtlhoeoeapkjegaaDoorNTextE
import Derived.Test.YtlhoeoeapkjegaaDoorNmlS
import Derived.Handy
/- Drawn texts: some text, not too long; the source is one again. -/
namespace Go.Proofs.YtlhoeoeapkjegaaDoor.Dr
open Go.RowKit
def AIn (B : Nat) (a : Option Addr) (len : Nat) : Prop := len = 0 ∨ ∃ cb off, a = some ⟨cb, off, none⟩ ∧ cb < B
theorem aIn_of {w : World} {src len cap : Nat} {a : Option Addr} {size : Int} (h : SrcAt w src a len cap size) : AIn w.heap.size a len := by
  rcases h.1 with h0 | ⟨cb, off, ha, hcb, _⟩
  · exact .inl h0
  · exact .inr ⟨cb, off, ha, hcb⟩
theorem src_move {w w' : World} {src len cap B : Nat} {a : Option Addr} {size : Int} (h : SrcAt w src a len cap size) (ha : AIn B a len) (hsrc : src < B) (hs : w.heap.size ≤ w'.heap.size) (hb : ∀ k, k < B → w'.heap[k]? = w.heap[k]?) : SrcAt w' src a len cap size := by
  obtain ⟨hc, p, mix, hp, hwf, hh⟩ := h
  refine ⟨?_, p, mix, hp, hwf, (hb src hsrc).trans hh⟩
  rcases hc with h0 | ⟨cb, off, e, hcb, hne, hcc⟩
  · exact .inl h0
  · refine .inr ⟨cb, off, e, by omega, hne, fun i hi => ?_⟩
    obtain ⟨z, hz, hzb⟩ := hcc i hi
    have hB : cb < B := by
      rcases ha with h0 | ⟨cb', off', e', hB⟩
      · omega
      · rw [e] at e'
        simp only [Option.some.injEq, Addr.mk.injEq, and_true] at e'
        omega
    exact ⟨z, (World.cell?_of_block (a := ⟨cb, off + i, none⟩) (hb cb hB)).trans hz, hzb⟩
theorem grown_bel {w w1 w2 : World} {src : Nat} (h : w.grownBy w1 (some src)) (hb : Below w1.heap.size w1 w2) : w.grownBy w2 (some src) :=
  grown_trans h ⟨hb.os, hb.tape, hb.output, hb.size, fun k hk _ => hb.block k hk⟩
theorem src_below {w w' : World} {src len cap : Nat} {a : Option Addr} {size : Int} (h : SrcAt w src a len cap size) (hb : Below w.heap.size w w') : SrcAt w' src a len cap size := src_keep h hb.size hb.block
/-- An append to a row that lies above the world at the beginning. -/
theorem grown_row {w wr w3 : World} {src : Nat} {v : Value} {o : Obj} {e : TypeId} {n : Nat} {xs : List Value} (h : w.grownBy wr (some src)) (ho : wr.ownsRow w.heap.size e 1 v n xs) (hg : (wr.alloc o).grownBy w3 v.ownBlock) :
    w.grownBy w3 (some src) ∧ (∀ k, k < w.heap.size → w3.heap[k]? = wr.heap[k]?) ∧ wr.heap.size ≤ w3.heap.size := by
  have hk : ∀ k, k < w.heap.size → w3.heap[k]? = wr.heap[k]? := by
    intro k hk
    have h1 : k < wr.heap.size := Nat.lt_of_lt_of_le hk h.size
    have hne : some k ≠ v.ownBlock := fun e => by have := (ho.lt k e.symm).1; omega
    rw [hg.block k (by simp; omega) hne, Below.heap_alloc wr o k h1]
  have hs : wr.heap.size ≤ w3.heap.size := by have := hg.size; simp at this; omega
  exact ⟨⟨hg.os.trans h.os, hg.tape.trans h.tape, hg.output.trans h.output, Nat.le_trans h.size hs, fun k hkw hr => (hk k hkw).trans (h.block k hkw hr)⟩, hk, hs⟩
theorem row_snoc {w3 : World} {B : Nat} {v' : Value} {L : List Int} {p : Int} (ho2 : w3.ownsRow B 2 1 v' (L.length + 1) (L.map (Value.int .i64) ++ [.int .i64 p])) : w3.ownsRow B 2 1 v' (L ++ [p]).length ((L ++ [p]).map (Value.int .i64)) := by
  rw [List.length_append, List.map_append]; exact ho2
theorem owned_kept {w wr w1 : World} {src : Nat} {e : TypeId} {v : Value} {n : Nat} {xs : List Value} (hsrc : src < w.heap.size) (ho : wr.ownsRow w.heap.size e 1 v n xs) (hg : wr.grownBy w1 (some src)) : w1.ownsRow w.heap.size e 1 v n xs := by
  refine ho.kept hg ?_
  cases hv : v.ownBlock with
  | none => exact .inl rfl
  | some k => exact .inr (fun e => by have := (ho.lt k hv).1; simp at e; omega)
def lenOf : Value → Nat
  | .slice _ n _ => n
  | _ => 0
theorem long_step {w wr w3 : World} {g cap : Nat} {v' : Value} {L : List Int} (hb : Below w.heap.size w wr) (ho : wr.ownsRow w.heap.size 5 1 (.slice (some ⟨g, 0, none⟩) L.length cap) L.length (L.map (Value.int .u8)))
    (ho3 : w3.ownsRow w.heap.size 5 1 v' (L.length + 2) (L.map (Value.int .u8) ++ Lib.strCells { data := #[97, 98] })) (hg : wr.grownBy w3 (some g)) :
    ∃ g' cap', v' = .slice (some ⟨g', 0, none⟩) (L ++ [97, 98]).length cap' ∧ (L ++ [97, 98] : List Int).length ≤ cap' ∧ cap' ≤ maxLen ∧
      w3.ownsRow w.heap.size 5 1 (.slice (some ⟨g', 0, none⟩) (L ++ [97, 98]).length cap') (L ++ [97, 98]).length ((L ++ [97, 98]).map (Value.int .u8)) ∧ Below w.heap.size w w3 := by
  have hb3 : Below w.heap.size w w3 := hb.grown hg hb.size (fun k hk => by simp at hk; subst hk; exact (ho.lt g rfl).1)
  have e1 : (L ++ [97, 98] : List Int).length = L.length + 2 := by simp
  have e2 : (L ++ [97, 98]).map (Value.int .u8) = L.map (Value.int .u8) ++ Lib.strCells { data := #[97, 98] } := by rw [List.map_append]; rfl
  rcases ho3.2 with ⟨hv, h0⟩ | ⟨g', cap', cur, hv, hg', hh, hn', hm, hs, ht⟩
  · omega
  · refine ⟨g', cap', by rw [hv, e1], by omega, hm, ?_, hb3⟩
    rw [e1, e2, ← hv]; exact ho3
theorem conv_pre (w : World) {B : Nat} (g cap : Nat) (L : List Int) (n : Nat) (hn : n ≤ L.length) (h : w.ownsRow B 5 1 (.slice (some ⟨g, 0, none⟩) L.length cap) L.length (L.map (Value.int .u8))) (c : Nat) :
    (convert 22 9 (.slice (some ⟨g, 0, none⟩) n c)).run Tryd.prog w = .ok (.string (strOfNums (L.take n))) w := by
  refine conv_of w g c (L.take n) n (by simp; omega) fun i hi => ?_
  rw [h.cellAt i (by omega), List.getElem?_map]
  simp [List.getD, hi, show i < L.length by omega]
set_option maxRecDepth 100000 in
set_option maxHeartbeats 2000000 in
theorem long_any (w : World) (src : Nat) (N : Nat) (h0 : 0 < N) (hN : N ≤ 100000) :
    Calls Tryd.prog 18 #[.pointer (some ⟨src, 0, none⟩), .string { data := #[97, 98] }, .int .i64 N] w fun e w' => ∃ s : ByteArray, e = .returned (.string s) ∧ s.size ≤ 100000 ∧ Below w.heap.size w w' := by
  obtain ⟨i0, hi, hz0, hz1, hz2⟩ := info_parts info5
  have HO0 : Hid ((w.alloc (.cells #[] 5)).ownsRow w.heap.size 5 1 (.slice (some ⟨w.heap.size, 0, none⟩) 0 0) ([] : List Int).length (([] : List Int).map (Value.int .u8))) := hide (World.ownsRow_lit w #[] 0 (Nat.le_refl _) (by unfold maxLen; omega) rfl)
  have HB0 : Hid (Below w.heap.size w (w.alloc (.cells #[] 5))) := hide ((Below.refl _ _).alloc (Nat.le_refl _) _)
  go_enter Tryd.func18, Tryd.ntmps18
  go_wp2
  go_loopw [7] (fun v wr => ∃ (L : List Int) (g cap : Nat), v = .slice (some ⟨g, 0, none⟩) L.length cap ∧ L.length ≤ N + 1 ∧ L.length ≤ cap ∧ cap ≤ maxLen ∧ Hid (wr.ownsRow w.heap.size 5 1 (.slice (some ⟨g, 0, none⟩) L.length cap) L.length (L.map (Value.int .u8))) ∧ Hid (Below w.heap.size w wr)) (fun v _ => N - lenOf v)
  case atStart => exact ⟨[], w.heap.size, 0, rfl, by simp, by simp, by unfold maxLen; omega, HO0, HB0⟩
  case round =>
    obtain ⟨L, g, cap, rfl, hL, hLc, hcm, HO, HB⟩ := hrel
    clear HO0 HB0
    unfold maxLen at hcm
    by_cases hlt : L.length < N
    · have hsz := (unhide HB).size
      go_wp2_with (at_builtin; refine Lib.wpList_append_own_string _ rfl _ _ 22 9 rfl w.heap.size 5 i0 Tryd.underlying22 Tryd.underlying9 hi hz0 hz1 hz2 _ _ _ rfl (unhide HO) _ rfl ?c1 ?c2 ?c3 ?_)
      case c1 => show L.length + 2 ≤ maxLen; unfold maxLen; omega
      case c2 => show L.length + 2 ≤ _; omega
      case c3 => omega
      intro v' w3 hown' hgrow _
      have R := hide (long_step (unhide HB) (unhide HO) hown' hgrow)
      clear hown' hgrow
      obtain ⟨g', cap', hv', hc1, hc2, ho3, hb3⟩ := unhide R
      clear R
      have HO3 := hide ho3
      have HB3 := hide hb3
      clear ho3 hb3
      subst hv'
      go_wp2
      go_roundw
      case rel => exact ⟨L ++ [97, 98], g', cap', by simp, by simp; omega, by simpa using hc1, hc2, HO3, HB3⟩
      case measure => simp [lenOf]; omega
    · have hge : N ≤ L.length := by omega
      have hcv := conv_pre wr g (cap) L N hge (unhide HO)
      go_wp2
      go_ret
      exact ⟨_, rfl, by rw [strOfNums_size]; simp; omega, unhide HB⟩
theorem add1 (t : ByteArray) (k : Nat) (ht : t.size ≤ 100000) (W : World) (x : Int) : (Op.stringOp .add (t.extract 0 k) (strOfNums [x])).run Tryd.prog W = .ok (.string (t.extract 0 k ++ strOfNums [x])) W :=
  run_string_add_sum W _ _ (by rw [strOfNums_size, ByteArray.size_extract]; simp; omega)
theorem add2 (t : ByteArray) (k : Nat) (ht : t.size ≤ 100000) (W : World) (x : Int) : (Op.stringOp .add (t.extract 0 k ++ strOfNums [x]) (t.extract k t.size)).run Tryd.prog W = .ok (.string (t.extract 0 k ++ strOfNums [x] ++ t.extract k t.size)) W :=
  run_string_add_sum W _ _ (by rw [ByteArray.size_append, strOfNums_size, ByteArray.size_extract, ByteArray.size_extract]; simp; omega)
theorem add3 (t : ByteArray) (k : Nat) (ht : t.size ≤ 100000) (W : World) : (Op.stringOp .add (t.extract 0 k) (t.extract (k + 1) t.size)).run Tryd.prog W = .ok (.string (t.extract 0 k ++ t.extract (k + 1) t.size)) W :=
  run_string_add_sum W _ _ (by rw [ByteArray.size_extract, ByteArray.size_extract]; omega)
theorem add4 (t : ByteArray) (k : Nat) (ht : t.size ≤ 100000) (W : World) (x : Int) : (Op.stringOp .add (t.extract 0 k ++ strOfNums [x]) (t.extract (k + 1) t.size)).run Tryd.prog W = .ok (.string (t.extract 0 k ++ strOfNums [x] ++ t.extract (k + 1) t.size)) W :=
  run_string_add_sum W _ _ (by rw [ByteArray.size_append, strOfNums_size, ByteArray.size_extract, ByteArray.size_extract]; simp; omega)
theorem size2 (t : ByteArray) (k : Nat) (x : Int) (ht : t.size ≤ 100000) : (t.extract 0 k ++ strOfNums [x] ++ t.extract k t.size).size ≤ 100001 := by
  rw [ByteArray.size_append, ByteArray.size_append, strOfNums_size, ByteArray.size_extract, ByteArray.size_extract]; simp; omega
theorem size3 (t : ByteArray) (k : Nat) (ht : t.size ≤ 100000) : (t.extract 0 k ++ t.extract (k + 1) t.size).size ≤ 100001 := by
  rw [ByteArray.size_append, ByteArray.size_extract, ByteArray.size_extract]; omega
theorem size4 (t : ByteArray) (k : Nat) (x : Int) (ht : t.size ≤ 100000) : (t.extract 0 k ++ strOfNums [x] ++ t.extract (k + 1) t.size).size ≤ 100001 := by
  rw [ByteArray.size_append, ByteArray.size_append, strOfNums_size, ByteArray.size_extract, ByteArray.size_extract]; simp; omega
set_option maxHeartbeats 2000000 in
set_option maxRecDepth 100000 in
theorem spoil_any (w : World) (src : Nat) (a : Option Addr) (len cap : Nat) (size : Int) (t : ByteArray) (hl : len ≤ 1048576) (ht : t.size ≤ 100000) (h : SrcAt w src a len cap size) :
    Calls Tryd.prog 37 #[.pointer (some ⟨src, 0, none⟩), .string t] w fun e w' => ∃ s : ByteArray, e = .returned (.string s) ∧ s.size ≤ 100001 ∧ SrcAt w' src a len cap size ∧ w.grownBy w' (some src) := by
  have H := hide h
  clear h
  have hcv := conv1
  go_enter Tryd.func37, Tryd.ntmps37
  go_wp2_with fail
  refine (n_nat _ src a len cap size _ (by omega) (by omega) hl (unhide H)).mono ?_
  rintro e w1 ⟨k, rfl, hk, hs, hg⟩
  have S1 := hide hs
  have G1 := hide hg
  clear hs hg H
  go_wp2_with fail
  refine (n_nat _ src a len cap size 17 (by omega) (by omega) hl (unhide S1)).mono ?_
  rintro e w2 ⟨q, rfl, hq, hs, hg⟩
  have S2 := hide hs
  have G2 := hide (grown_trans (unhide G1) hg)
  clear hs hg S1 G1
  have hk2 : k ≤ t.size := by omega
  have a1 := add1 t k ht
  have a2 := add2 t k ht
  have a3 := add3 t k ht
  have a4 := add4 t k ht
  by_cases hkt : k = t.size
  · have e1 : ((k : Int) == (t.size : Int)) = true := by simp; omega
    clear hkt
    go_wp2
    go_quiet (fail)
    go_wp2
    go_ret
    exact ⟨_, rfl, size2 t k _ ht, src_keep (src_alloc (unhide S2) _) (Nat.le_refl _) (fun j hj => rfl), grown_trans (unhide G2) (grown_drewN (grown_alloc _ _ _) _)⟩
  · have e1 : ((k : Int) == (t.size : Int)) = false := by simp; omega
    have hk3 : k + 1 ≤ t.size := by omega
    clear hkt
    go_wp2_with fail
    refine (one_any _ src a len cap size 3 (by omega) (by omega) hl (src_alloc (unhide S2) _)).mono ?_
    rintro e w3 ⟨b, rfl, hs, hg⟩
    have S3 := hide hs
    have G3 := hide (grown_trans (unhide G2) (grown_trans (grown_alloc _ _ _) hg))
    clear hs hg S2 G2
    cases b
    · go_wp2_with fail
      refine (one_any _ src a len cap size 2 (by omega) (by omega) hl (unhide S3)).mono ?_
      rintro e w4 ⟨b, rfl, hs, hg⟩
      have S4' := hide hs
      have G4 := hide (grown_trans (unhide G3) hg)
      clear hs hg S3 G3
      cases b
      · go_wp2
        go_quiet (fail)
        go_wp2
        go_ret
        exact ⟨_, rfl, size4 t k _ ht, src_keep (unhide S4') (Nat.le_refl _) (fun j hj => rfl), grown_drewN (unhide G4) _⟩
      · go_wp2
        go_quiet (fail)
        go_wp2
        go_ret
        exact ⟨_, rfl, size3 t k ht, src_keep (unhide S4') (Nat.le_refl _) (fun j hj => rfl), grown_drewN (unhide G4) _⟩
    · go_wp2
      go_quiet (fail)
      go_wp2
      go_ret
      exact ⟨_, rfl, size2 t k _ ht, src_keep (unhide S3) (Nat.le_refl _) (fun j hj => rfl), grown_drewN (unhide G3) _⟩
end Go.Proofs.YtlhoeoeapkjegaaDoor.Dr
/- A drawn point of chapter 6: some number; the source is one again. -/
namespace Go.Proofs.YtlhoeoeapkjegaaDoor.Dr
open Go.RowKit
set_option maxHeartbeats 4000000 in
set_option maxRecDepth 100000 in
theorem part_any (w : World) (src : Nat) (a : Option Addr) (len cap : Nat) (size : Int) (hl : len ≤ 1048576) (h : SrcAt w src a len cap size) :
    Calls Tryd.prog 36 #[.pointer (some ⟨src, 0, none⟩)] w fun e w' => ∃ r : Int, e = .returned (.int .i64 r) ∧ SrcAt w' src a len cap size ∧ w.grownBy w' (some src) := by
  have H := hide h
  clear h
  go_enter Tryd.func36, Tryd.ntmps36
  go_wp2_with fail
  refine (n_nat _ src a len cap size 8 (by omega) (by omega) hl (unhide H)).mono ?_
  rintro e w0 ⟨t, rfl, ht, hs, hg⟩
  have S0 := hide hs
  have G0 := hide hg
  clear hs hg H
  obtain rfl | rfl | rfl | rfl | rfl | rfl | rfl | rfl : t = 0 ∨ t = 1 ∨ t = 2 ∨ t = 3 ∨ t = 4 ∨ t = 5 ∨ t = 6 ∨ t = 7 := by omega
  · go_wp2_with fail
    refine (n_nat _ src a len cap size 3 (by omega) (by omega) hl (unhide S0)).mono ?_
    rintro e w1 ⟨r1, rfl, h1, hs, hg⟩
    have S1 := hide hs
    have G1 := hide (grown_trans (unhide G0) hg)
    clear hs hg S0 G0
    go_wp2_with fail
    refine (n_nat _ src a len cap size 3 (by omega) (by omega) hl (unhide S1)).mono ?_
    rintro e w2 ⟨r2, rfl, h2, hs, hg⟩
    have S2 := hide hs
    have G2 := hide (grown_trans (unhide G1) hg)
    clear hs hg S1 G1
    go_wp2_with fail
    refine (n_idx w2 _ src a len cap size 2 (by omega) (by omega) hl (unhide S2) (by intro i hi; match i, hi with | 0, _ => exact ⟨_, rfl⟩ | 1, _ => exact ⟨_, rfl⟩)).mono ?_
    rintro e w3 ⟨r3, x, rfl, h3, hx, hs, hg⟩
    have S3 := hide hs
    have G3 := hide (grown_trans (unhide G2) hg)
    clear hs hg S2 G2
    go_wp2
    go_ret
    exact ⟨_, rfl, unhide S3, unhide G3⟩
  · go_wp2_with fail
    refine (n_nat _ src a len cap size 3 (by omega) (by omega) hl (unhide S0)).mono ?_
    rintro e w1 ⟨r1, rfl, h1, hs, hg⟩
    have S1 := hide hs
    have G1 := hide (grown_trans (unhide G0) hg)
    clear hs hg S0 G0
    go_wp2_with fail
    refine (n_nat _ src a len cap size 3 (by omega) (by omega) hl (unhide S1)).mono ?_
    rintro e w2 ⟨r2, rfl, h2, hs, hg⟩
    have S2 := hide hs
    have G2 := hide (grown_trans (unhide G1) hg)
    clear hs hg S1 G1
    go_wp2_with fail
    refine (n_nat _ src a len cap size 2 (by omega) (by omega) hl (unhide S2)).mono ?_
    rintro e w3 ⟨r3, rfl, h3, hs, hg⟩
    have S3 := hide hs
    have G3 := hide (grown_trans (unhide G2) hg)
    clear hs hg S2 G2
    go_wp2_with fail
    refine (n_idx w3 _ src a len cap size 6 (by omega) (by omega) hl (unhide S3) (by intro i hi; match i, hi with | 0, _ => exact ⟨_, rfl⟩ | 1, _ => exact ⟨_, rfl⟩ | 2, _ => exact ⟨_, rfl⟩ | 3, _ => exact ⟨_, rfl⟩ | 4, _ => exact ⟨_, rfl⟩ | 5, _ => exact ⟨_, rfl⟩)).mono ?_
    rintro e w4 ⟨r4, x, rfl, h4, hx, hs, hg⟩
    have S4 := hide hs
    have G4 := hide (grown_trans (unhide G3) hg)
    clear hs hg S3 G3
    go_wp2
    go_ret
    exact ⟨_, rfl, unhide S4, unhide G4⟩
  · go_wp2_with fail
    refine (n_nat _ src a len cap size 3 (by omega) (by omega) hl (unhide S0)).mono ?_
    rintro e w1 ⟨r1, rfl, h1, hs, hg⟩
    have S1 := hide hs
    have G1 := hide (grown_trans (unhide G0) hg)
    clear hs hg S0 G0
    go_wp2_with fail
    refine (n_nat _ src a len cap size 3 (by omega) (by omega) hl (unhide S1)).mono ?_
    rintro e w2 ⟨r2, rfl, h2, hs, hg⟩
    have S2 := hide hs
    have G2 := hide (grown_trans (unhide G1) hg)
    clear hs hg S1 G1
    go_wp2_with fail
    refine (n_nat _ src a len cap size 2 (by omega) (by omega) hl (unhide S2)).mono ?_
    rintro e w3 ⟨r3, rfl, h3, hs, hg⟩
    have S3 := hide hs
    have G3 := hide (grown_trans (unhide G2) hg)
    clear hs hg S2 G2
    go_wp2_with fail
    refine (n_idx w3 _ src a len cap size 6 (by omega) (by omega) hl (unhide S3) (by intro i hi; match i, hi with | 0, _ => exact ⟨_, rfl⟩ | 1, _ => exact ⟨_, rfl⟩ | 2, _ => exact ⟨_, rfl⟩ | 3, _ => exact ⟨_, rfl⟩ | 4, _ => exact ⟨_, rfl⟩ | 5, _ => exact ⟨_, rfl⟩)).mono ?_
    rintro e w4 ⟨r4, x, rfl, h4, hx, hs, hg⟩
    have S4 := hide hs
    have G4 := hide (grown_trans (unhide G3) hg)
    clear hs hg S3 G3
    go_wp2
    go_ret
    exact ⟨_, rfl, unhide S4, unhide G4⟩
  · go_wp2_with fail
    refine (n_nat _ src a len cap size 3 (by omega) (by omega) hl (unhide S0)).mono ?_
    rintro e w1 ⟨r1, rfl, h1, hs, hg⟩
    have S1 := hide hs
    have G1 := hide (grown_trans (unhide G0) hg)
    clear hs hg S0 G0
    go_wp2_with fail
    refine (n_nat _ src a len cap size 52 (by omega) (by omega) hl (unhide S1)).mono ?_
    rintro e w2 ⟨r2, rfl, h2, hs, hg⟩
    have S2 := hide hs
    have G2 := hide (grown_trans (unhide G1) hg)
    clear hs hg S1 G1
    go_wp2_with fail
    refine (n_nat _ src a len cap size 2 (by omega) (by omega) hl (unhide S2)).mono ?_
    rintro e w3 ⟨r3, rfl, h3, hs, hg⟩
    have S3 := hide hs
    have G3 := hide (grown_trans (unhide G2) hg)
    clear hs hg S2 G2
    go_wp2
    go_ret
    exact ⟨_, rfl, unhide S3, unhide G3⟩
  · go_wp2_with fail
    refine (n_nat _ src a len cap size 26 (by omega) (by omega) hl (unhide S0)).mono ?_
    rintro e w1 ⟨r1, rfl, h1, hs, hg⟩
    have S1 := hide hs
    have G1 := hide (grown_trans (unhide G0) hg)
    clear hs hg S0 G0
    go_wp2_with fail
    refine (n_nat _ src a len cap size 3 (by omega) (by omega) hl (unhide S1)).mono ?_
    rintro e w2 ⟨r2, rfl, h2, hs, hg⟩
    have S2 := hide hs
    have G2 := hide (grown_trans (unhide G1) hg)
    clear hs hg S1 G1
    go_wp2_with fail
    refine (n_nat _ src a len cap size 3 (by omega) (by omega) hl (unhide S2)).mono ?_
    rintro e w3 ⟨r3, rfl, h3, hs, hg⟩
    have S3 := hide hs
    have G3 := hide (grown_trans (unhide G2) hg)
    clear hs hg S2 G2
    go_wp2_with fail
    refine (n_nat _ src a len cap size 4 (by omega) (by omega) hl (unhide S3)).mono ?_
    rintro e w4 ⟨r4, rfl, h4, hs, hg⟩
    have S4 := hide hs
    have G4 := hide (grown_trans (unhide G3) hg)
    clear hs hg S3 G3
    go_wp2_with fail
    refine (n_idx w4 _ src a len cap size 6 (by omega) (by omega) hl (unhide S4) (by intro i hi; match i, hi with | 0, _ => exact ⟨_, rfl⟩ | 1, _ => exact ⟨_, rfl⟩ | 2, _ => exact ⟨_, rfl⟩ | 3, _ => exact ⟨_, rfl⟩ | 4, _ => exact ⟨_, rfl⟩ | 5, _ => exact ⟨_, rfl⟩)).mono ?_
    rintro e w5 ⟨r5, x, rfl, h5, hx, hs, hg⟩
    have S5 := hide hs
    have G5 := hide (grown_trans (unhide G4) hg)
    clear hs hg S4 G4
    go_wp2
    go_ret
    exact ⟨_, rfl, unhide S5, unhide G5⟩
  · go_wp2_with fail
    refine (n_nat _ src a len cap size 2 (by omega) (by omega) hl (unhide S0)).mono ?_
    rintro e w1 ⟨r1, rfl, h1, hs, hg⟩
    have S1 := hide hs
    have G1 := hide (grown_trans (unhide G0) hg)
    clear hs hg S0 G0
    go_wp2_with fail
    refine (n_nat _ src a len cap size 2 (by omega) (by omega) hl (unhide S1)).mono ?_
    rintro e w2 ⟨r2, rfl, h2, hs, hg⟩
    have S2 := hide hs
    have G2 := hide (grown_trans (unhide G1) hg)
    clear hs hg S1 G1
    go_wp2_with fail
    refine (n_nat _ src a len cap size 2 (by omega) (by omega) hl (unhide S2)).mono ?_
    rintro e w3 ⟨r3, rfl, h3, hs, hg⟩
    have S3 := hide hs
    have G3 := hide (grown_trans (unhide G2) hg)
    clear hs hg S2 G2
    go_wp2_with fail
    refine (n_idx w3 _ src a len cap size 6 (by omega) (by omega) hl (unhide S3) (by intro i hi; match i, hi with | 0, _ => exact ⟨_, rfl⟩ | 1, _ => exact ⟨_, rfl⟩ | 2, _ => exact ⟨_, rfl⟩ | 3, _ => exact ⟨_, rfl⟩ | 4, _ => exact ⟨_, rfl⟩ | 5, _ => exact ⟨_, rfl⟩)).mono ?_
    rintro e w4 ⟨r4, x, rfl, h4, hx, hs, hg⟩
    have S4 := hide hs
    have G4 := hide (grown_trans (unhide G3) hg)
    clear hs hg S3 G3
    go_wp2
    go_ret
    exact ⟨_, rfl, unhide S4, unhide G4⟩
  · go_wp2_with fail
    refine (n_nat _ src a len cap size 399 (by omega) (by omega) hl (unhide S0)).mono ?_
    rintro e w1 ⟨r1, rfl, h1, hs, hg⟩
    have S1 := hide hs
    have G1 := hide (grown_trans (unhide G0) hg)
    clear hs hg S0 G0
    go_wp2_with fail
    refine (n_nat _ src a len cap size 11172 (by omega) (by omega) hl (unhide S1)).mono ?_
    rintro e w2 ⟨r2, rfl, h2, hs, hg⟩
    have S2 := hide hs
    have G2 := hide (grown_trans (unhide G1) hg)
    clear hs hg S1 G1
    go_wp2_with fail
    refine (n_idx w2 _ src a len cap size 4 (by omega) (by omega) hl (unhide S2) (by intro i hi; match i, hi with | 0, _ => exact ⟨_, rfl⟩ | 1, _ => exact ⟨_, rfl⟩ | 2, _ => exact ⟨_, rfl⟩ | 3, _ => exact ⟨_, rfl⟩)).mono ?_
    rintro e w3 ⟨r3, x, rfl, h3, hx, hs, hg⟩
    have S3 := hide hs
    have G3 := hide (grown_trans (unhide G2) hg)
    clear hs hg S2 G2
    go_wp2
    go_ret
    exact ⟨_, rfl, unhide S3, unhide G3⟩
  · go_wp2_with fail
    refine (point_any _ src a len cap size hl (unhide S0)).mono ?_
    rintro e w1 ⟨r1, rfl, hs, hg⟩
    have S1 := hide hs
    have G1 := hide (grown_trans (unhide G0) hg)
    clear hs hg S0 G0
    go_wp2_with fail
    refine (point_any _ src a len cap size hl (unhide S1)).mono ?_
    rintro e w2 ⟨r2, rfl, hs, hg⟩
    have S2 := hide hs
    have G2 := hide (grown_trans (unhide G1) hg)
    clear hs hg S1 G1
    go_wp2_with fail
    refine (n_idx w2 _ src a len cap size 5 (by omega) (by omega) hl (unhide S2) (by intro i hi; match i, hi with | 0, _ => exact ⟨_, rfl⟩ | 1, _ => exact ⟨_, rfl⟩ | 2, _ => exact ⟨_, rfl⟩ | 3, _ => exact ⟨_, rfl⟩ | 4, _ => exact ⟨_, rfl⟩)).mono ?_
    rintro e w3 ⟨r3, x, rfl, h3, hx, hs, hg⟩
    have S3 := hide hs
    have G3 := hide (grown_trans (unhide G2) hg)
    clear hs hg S2 G2
    go_wp2
    go_ret
    exact ⟨_, rfl, unhide S3, unhide G3⟩
end Go.Proofs.YtlhoeoeapkjegaaDoor.Dr
/- Drawn texts of chapter 6, and two of them. -/
namespace Go.Proofs.YtlhoeoeapkjegaaDoor.Dr
open Go.RowKit
set_option maxRecDepth 100000 in
set_option maxHeartbeats 4000000 in
theorem partsText_any (w : World) (src : Nat) (a : Option Addr) (len cap : Nat) (size : Int) (hl : len ≤ 1048576) (z0 : 0 ≤ size) (z1 : size ≤ 12) (h : SrcAt w src a len cap size) :
    Calls Tryd.prog 16 #[.pointer (some ⟨src, 0, none⟩)] w fun e w' => ∃ s : ByteArray, e = .returned (.string s) ∧ s.size ≤ 100001 ∧ SrcAt w' src a len cap size ∧ w.grownBy w' (some src) := by
  obtain ⟨i0, hi, hz0, hz1, hz2⟩ := info_parts info2
  have hsrc := src_lt h
  have HA := hide (aIn_of h)
  have hS0 := src_alloc h (.cells #[] 2)
  have HO0 : Hid ((w.alloc (.cells #[] 2)).ownsRow w.heap.size 2 1 (.slice (some ⟨w.heap.size, 0, none⟩) 0 0) ([] : List Int).length (([] : List Int).map (Value.int .i64))) := hide (World.ownsRow_lit w #[] 0 (Nat.le_refl _) (by unfold maxLen; omega) rfl)
  have HS0 := hide hS0
  have HG0 := hide (grown_alloc w (.cells #[] 2) (some src))
  obtain ⟨_, p, mix, _, _, hh⟩ := hS0
  obtain ⟨_, _, _, c3, _, _, _⟩ := src_cells hh
  clear hh h
  go_enter Tryd.func16, Tryd.ntmps16
  go_wp2_with fail
  refine (n_nat _ src a len cap size _ (by omega) (by omega) hl (unhide HS0)).mono ?_
  rintro e w1 ⟨r, rfl, hr, hs, hg⟩
  have S1 := hide hs
  have G1 := hide (grown_trans (unhide HG0) hg)
  have O1 := hide (owned_kept hsrc (unhide HO0) hg)
  clear hs hg HS0 HG0 HO0 c3
  have hr2 : r ≤ 31 := by omega
  clear hr
  go_wp2
  go_loopw [3, 4] (fun v n wr => ∃ (k : Nat) (L : List Int), n = .int .i64 k ∧ k + L.length = r ∧ Hid (wr.ownsRow w.heap.size 2 1 v L.length (L.map (Value.int .i64))) ∧ Hid (SrcAt wr src a len cap size) ∧ Hid (w.grownBy wr (some src))) (fun _ n _ => (intOf n).toNat)
  case atStart => exact ⟨r, [], rfl, by simp, O1, S1, G1⟩
  case round =>
    obtain ⟨k, L, rfl, hkL, HO, HS, HG⟩ := hrel
    clear O1 S1 G1
    have HK := hide hkL
    have hL : L.length ≤ r := by omega
    have hk : k ≤ r := by omega
    clear hkL
    by_cases hlt : 0 < k
    · have hsz := (unhide HG).size
      go_wp2_with (first | (go_at_call 36; refine (part_any _ src a len cap size hl (unhide HS)).mono ?_; rintro e w1 ⟨r, rfl, hs1, hg1⟩; have HS1 := hide hs1; have HG1 := hide hg1; have hz1s := hg1.size; clear hs1 hg1; have HO1 := hide (owned_kept hsrc (unhide HO) (unhide HG1))) | (at_builtin; refine wpList_append_own _ rfl _ _ 28 rfl w.heap.size 2 i0 (.int .i64 0) 1 8 Tryd.underlying28 hi hz0 hz1 hz2 rfl (by decide) _ _ _ rfl ((unhide HO1).alloc _) ⟨w1.heap.size, 0, none⟩ 1 1 [.int .i64 r] rfl rfl ?c1 ?c2 ?c3 ?c4 ?c5 ?_))
      case c1 => exact cell_one_new _ _ _
      case c2 => intro u hu; simp at hu; subst hu; rfl
      case c3 => unfold maxLen; omega
      case c4 => omega
      case c5 => simp; omega
      intro v' w3 hown' hgrow _
      have R := hide (grown_row (grown_trans (unhide HG) (unhide HG1)) (unhide HO1) hgrow)
      have HO3 := hide (row_snoc hown')
      have HS3 := hide (src_move (unhide HS1) (unhide HA) hsrc (unhide R).2.2 (unhide R).2.1)
      clear hown' hgrow
      go_wp2
      go_roundw
      case rel => exact ⟨k - 1, L ++ [r], by go_num, by have := unhide HK; simp; omega, HO3, HS3, hide (unhide R).1⟩
      case measure => simp [intOf]; omega
    · have HL : Hid (L.length ≤ 31) := hide (by omega)
      go_wp2_with fail
      refine (l01Text _ L _ (IntsAt.owned (unhide HO)) (by have := unhide HL; omega)).mono ?_
      rintro e w2 ⟨rfl, hb2⟩
      have S2 := hide (src_below (unhide HS) hb2)
      have G2 := hide (grown_bel (unhide HG) hb2)
      have ht : (strOfNums (textL L)).size ≤ 124 := by
        rw [strOfNums_size]
        have := textL_le L
        have := unhide HL
        omega
      clear hb2 HS HG HO HL HK
      generalize strOfNums (textL L) = t at *
      go_wp2_with fail
      refine (one_any _ src a len cap size 15 (by omega) (by omega) hl (unhide S2)).mono ?_
      rintro e w3 ⟨b1, rfl, hs, hg⟩
      have S3 := hide hs
      have G3 := hide (grown_trans (unhide G2) hg)
      clear hs hg S2 G2
      cases b1
      · go_wp2
        go_ret
        exact ⟨_, rfl, by omega, unhide S3, unhide G3⟩
      · go_wp2_with fail
        refine (spoil_any _ src a len cap size t hl (by omega) (unhide S3)).mono ?_
        rintro e w4 ⟨t2, rfl, ht2, hs, hg⟩
        have S4 := hide hs
        have G4 := hide (grown_trans (unhide G3) hg)
        clear hs hg S3 G3
        go_wp2
        go_ret
        exact ⟨_, rfl, by omega, unhide S4, unhide G4⟩
theorem nml_size (f : Int) (s : ByteArray) : (strOfNums (nmlOut f s)).size ≤ 65536 := by
  rw [strOfNums_size]
  unfold nmlOut
  split
  · simp
  · unfold small
    split
    · simp
    · omega
end Go.Proofs.YtlhoeoeapkjegaaDoor.Dr
/- What FnStable draws. -/
namespace Go.Proofs.YtlhoeoeapkjegaaDoor.Dr
open Go.RowKit
set_option linter.unusedVariables false
theorem long_stepZ {w wr w3 : World} {g cap : Nat} {v' : Value} {L Z : List Int} (hZ : ∀ x ∈ Z, 0 ≤ x ∧ x < 256) (hz : 0 < Z.length) (hb : Below w.heap.size w wr) (ho : wr.ownsRow w.heap.size 5 1 (.slice (some ⟨g, 0, none⟩) L.length cap) L.length (L.map (Value.int .u8)))
    (ho3 : w3.ownsRow w.heap.size 5 1 v' (L.length + (strOfNums Z).size) (L.map (Value.int .u8) ++ Lib.strCells (strOfNums Z))) (hg : wr.grownBy w3 (some g)) :
    ∃ g' cap', v' = .slice (some ⟨g', 0, none⟩) (L ++ Z).length cap' ∧ (L ++ Z).length ≤ cap' ∧ cap' ≤ maxLen ∧
      w3.ownsRow w.heap.size 5 1 (.slice (some ⟨g', 0, none⟩) (L ++ Z).length cap') (L ++ Z).length ((L ++ Z).map (Value.int .u8)) ∧ Below w.heap.size w w3 := by
  have hb3 : Below w.heap.size w w3 := hb.grown hg hb.size (fun k hk => by simp at hk; subst hk; exact (ho.lt g rfl).1)
  rw [strOfNums_size, strCells_nums Z hZ, ← List.map_append] at ho3
  have e1 : (L ++ Z).length = L.length + Z.length := by simp
  rw [e1]
  rcases ho3.2 with ⟨hv, h0⟩ | ⟨g', cap', cur, hv, hg', hh, hn', hm, hs, ht⟩
  · omega
  · exact ⟨g', cap', hv, by omega, hm, by rw [← hv]; exact ho3, hb3⟩
set_option maxRecDepth 100000 in
set_option maxHeartbeats 2000000 in
theorem longZ_any (w : World) (src : Nat) (N : Nat) (Z : List Int) (hZ : ∀ x ∈ Z, 0 ≤ x ∧ x < 256) (hz : 0 < Z.length) (hz4 : Z.length ≤ 4) (h0 : 0 < N) (hN : N ≤ 100000) :
    Calls Tryd.prog 18 #[.pointer (some ⟨src, 0, none⟩), .string (strOfNums Z), .int .i64 N] w fun e w' => ∃ s : ByteArray, e = .returned (.string s) ∧ s.size ≤ 100000 ∧ Below w.heap.size w w' := by
  obtain ⟨i0, hi, hz0, hz1, hz2⟩ := info_parts info5
  have HO0 : Hid ((w.alloc (.cells #[] 5)).ownsRow w.heap.size 5 1 (.slice (some ⟨w.heap.size, 0, none⟩) 0 0) ([] : List Int).length (([] : List Int).map (Value.int .u8))) := hide (World.ownsRow_lit w #[] 0 (Nat.le_refl _) (by unfold maxLen; omega) rfl)
  have HB0 : Hid (Below w.heap.size w (w.alloc (.cells #[] 5))) := hide ((Below.refl _ _).alloc (Nat.le_refl _) _)
  have ST := hide (fun wr w3 g cap v' L (hb : Below w.heap.size w wr) ho ho3 hg => long_stepZ (w := w) (wr := wr) (w3 := w3) (g := g) (cap := cap) (v' := v') (L := L) hZ hz hb ho ho3 hg)
  have HS := hide (strOfNums_size Z)
  obtain ⟨X, hX⟩ : ∃ X, X = strOfNums Z := ⟨_, rfl⟩
  rw [← hX] at ST HS ⊢
  clear hX hZ
  go_enter Tryd.func18, Tryd.ntmps18
  go_wp2
  go_loopw [7] (fun v wr => ∃ (L : List Int) (g cap : Nat), v = .slice (some ⟨g, 0, none⟩) L.length cap ∧ L.length ≤ N + 3 ∧ L.length ≤ cap ∧ cap ≤ maxLen ∧ Hid (wr.ownsRow w.heap.size 5 1 (.slice (some ⟨g, 0, none⟩) L.length cap) L.length (L.map (Value.int .u8))) ∧ Hid (Below w.heap.size w wr)) (fun v _ => N - lenOf v)
  case atStart => exact ⟨[], w.heap.size, 0, rfl, by simp, by simp, by unfold maxLen; omega, HO0, HB0⟩
  case round =>
    obtain ⟨L, g, cap, rfl, hL, hLc, hcm, HO, HB⟩ := hrel
    clear HO0 HB0
    unfold maxLen at hcm
    by_cases hlt : L.length < N
    · have hsz := (unhide HB).size
      go_wp2_with (at_builtin; refine Lib.wpList_append_own_string _ rfl _ _ 22 9 rfl w.heap.size 5 i0 Tryd.underlying22 Tryd.underlying9 hi hz0 hz1 hz2 _ _ _ rfl (unhide HO) _ rfl ?c1 ?c2 ?c3 ?_)
      case c1 => rw [unhide HS]; unfold maxLen; omega
      case c2 => rw [unhide HS]; omega
      case c3 => omega
      intro v' w3 hown' hgrow _
      have R := hide ((unhide ST) _ _ _ _ _ _ (unhide HB) (unhide HO) hown' hgrow)
      clear hown' hgrow
      obtain ⟨g', cap', hv', hc1, hc2, ho3, hb3⟩ := unhide R
      clear R
      have HO3 := hide ho3
      have HB3 := hide hb3
      have HL2 : Hid ((L ++ Z).length = L.length + Z.length) := hide (by simp)
      clear ho3 hb3
      subst hv'
      go_wp2
      go_roundw
      case rel => exact ⟨L ++ Z, g', cap', rfl, by rw [unhide HL2]; omega, hc1, hc2, HO3, HB3⟩
      case measure => simp [lenOf]; omega
    · have hge : N ≤ L.length := by omega
      have hcv := conv_pre wr g (cap) L N hge (unhide HO)
      go_wp2
      go_ret
      exact ⟨_, rfl, by rw [strOfNums_size]; simp; omega, unhide HB⟩
set_option maxHeartbeats 2000000 in
theorem normForm_any (w : World) (src : Nat) (a : Option Addr) (len cap : Nat) (size : Int) (hl : len ≤ 1048576) (h : SrcAt w src a len cap size) :
    Calls Tryd.prog 15 #[.pointer (some ⟨src, 0, none⟩)] w fun e w' => ∃ f : Int, e = .returned (.int .i64 f) ∧ SrcAt w' src a len cap size ∧ w.grownBy w' (some src) := by
  have CO := hide (one_any w src a len cap size 20 (by omega) (by omega) hl h)
  have NN := hide (fun (most : Int) W (h1 : 0 < most) (h2 : most ≤ 1000000) (q : SrcAt W src a len cap size) => n_nat W src a len cap size most h1 h2 hl q)
  clear h
  go_enter Tryd.func15, Tryd.ntmps15
  go_wp2_with fail
  refine (unhide CO).mono ?_
  rintro e w1 ⟨b, rfl, hs1, hg1⟩
  have S1 := hide hs1
  have G1 := hide hg1
  clear hs1 hg1 CO
  cases b with
  | true =>
    go_wp2_with fail
    refine ((unhide NN) _ _ (by omega) (by omega) (unhide S1)).mono ?_
    rintro e w2 ⟨r, rfl, hr, hs2, hg2⟩
    have S2 := hide hs2
    have G2 := hide (grown_trans (unhide G1) hg2)
    clear hs2 hg2
    go_wp2
    go_ret
    exact ⟨_, rfl, unhide S2, unhide G2⟩
  | false =>
    go_wp2_with fail
    refine ((unhide NN) _ _ (by omega) (by omega) (unhide S1)).mono ?_
    rintro e w2 ⟨r, rfl, hr, hs2, hg2⟩
    have S2 := hide hs2
    have G2 := hide (grown_trans (unhide G1) hg2)
    clear hs2 hg2
    go_wp2
    go_ret
    exact ⟨_, rfl, unhide S2, unhide G2⟩
theorem grown_on {w w' : World} {src B : Nat} (h : w.grownBy w' (some src)) (hB : B ≤ src) (hs : src < w.heap.size) : Below B w w' :=
  ⟨h.os, h.tape, h.output, by have := h.size; omega, fun k hk => h.block k (by omega) (fun e => by injection e with e; omega)⟩
theorem enc9216 : Lib.encodeRuneZ 9216 = [226, 144, 128] := by rfl
set_option maxHeartbeats 4000000 in
set_option maxRecDepth 100000 in
theorem drawN_any (w : World) (a : Option Addr) (len cap : Nat) (hl : len ≤ 1048576) (hc : CodeIn w a len) :
    Calls Tryd.prog 4 #[.slice a len cap] w fun e w' => ∃ (f : Int) (s : ByteArray), e = .returned (.tuple #[.int .i64 f, .string s]) ∧ s.size ≤ 100001 ∧ Below w.heap.size w w' := by
  have CS := hide (source_any w a len cap hl hc)
  clear hc
  go_enter Tryd.func4, Tryd.ntmps4
  go_wp2_with fail
  refine (unhide CS).mono ?_
  rintro e w1 ⟨rfl, size, hz0, hz1, hs, hb1, hlt⟩
  have B1 := hide hb1
  have CF := hide (normForm_any w1 w.heap.size a len cap size hl hs)
  clear CS hs hb1
  go_wp2_with fail
  refine (unhide CF).mono ?_
  rintro e w2 ⟨f, rfl, hs2, hg2⟩
  have hlt2 : w.heap.size < w2.heap.size := Nat.lt_of_lt_of_le hlt hg2.size
  have B2 := hide ((unhide B1).trans (grown_on hg2 (Nat.le_refl _) hlt))
  have CP := hide (partsText_any w2 w.heap.size a len cap size hl hz0 hz1 hs2)
  clear CF hs2 hg2 B1
  go_wp2_with fail
  refine (unhide CP).mono ?_
  rintro e w3 ⟨s, rfl, hsz, hs3, hg3⟩
  have hlt3 : w.heap.size < w3.heap.size := Nat.lt_of_lt_of_le hlt2 hg3.size
  have B3 := hide ((unhide B2).trans (grown_on hg3 (Nat.le_refl _) hlt2))
  have CO := hide (one_any w3 w.heap.size a len cap size 100 (by omega) (by omega) hl hs3)
  clear CP hs3 hg3 B2
  go_wp2_with fail
  refine (unhide CO).mono ?_
  rintro e w4 ⟨b, rfl, hs4, hg4⟩
  have hlt4 : w.heap.size < w4.heap.size := Nat.lt_of_lt_of_le hlt3 hg4.size
  have B4 := hide ((unhide B3).trans (grown_on hg4 (Nat.le_refl _) hlt3))
  have S4 := hide hs4
  clear CO hs4 hg4 B3
  cases b with
  | false =>
    go_wp2
    go_returns
    exact ⟨f, s, rfl, hsz, unhide B4⟩
  | true =>
    have CW := hide (write_any 9216 w4)
    go_wp2_with fail
    refine (unhide CW).mono ?_
    rintro e w5 ⟨rfl, hb5⟩
    have hlt5 : w.heap.size < w5.heap.size := Nat.lt_of_lt_of_le hlt4 hb5.size
    have B5 := hide ((unhide B4).trans (hb5.mono (by omega)))
    have S5 : Hid (SrcAt w5 w.heap.size a len cap size) := hide (src_below (unhide S4) hb5)
    have CN := hide (n_nat w5 w.heap.size a len cap size 2 (by omega) (by omega) hl (unhide S5))
    clear CW hb5 S4 B4
    go_wp2_with fail
    refine (unhide CN).mono ?_
    rintro e w6 ⟨r, rfl, hr, hs6, hg6⟩
    have B6 := hide ((unhide B5).trans (grown_on hg6 (Nat.le_refl _) hlt5))
    have hsz6 := hg6.size
    clear CN hs6 hg6 S5 B5
    obtain ⟨N, hN⟩ : ∃ N : Nat, 65533 + r * 3 = N := ⟨_, rfl⟩
    have hN' : (65533 : Int) + (r : Int) * 3 = (N : Int) := by omega
    have CL := hide (longZ_any w6 w.heap.size N [226, 144, 128] (by intro x hx; simp at hx; omega) (by simp) (by simp) (by omega) (by omega))
    rw [enc9216]
    have hrw : IntKind.i64.wrap ((r : Int) * 3) = (r : Int) * 3 := by simp [IntKind.wrap, IntKind.bits, IntKind.signed]; omega
    have hNw : IntKind.i64.wrap (N : Int) = (N : Int) := by simp [IntKind.wrap, IntKind.bits, IntKind.signed]; omega
    go_wp2_with fail
    refine (unhide CL).mono ?_
    rintro e w7 ⟨s7, rfl, hs7, hb7⟩
    have B7 := hide ((unhide B6).trans (hb7.mono (by omega)))
    clear CL hb7 B6
    go_wp2
    go_returns
    exact ⟨f, s7, rfl, by omega, unhide B7⟩
end Go.Proofs.YtlhoeoeapkjegaaDoor.Dr
