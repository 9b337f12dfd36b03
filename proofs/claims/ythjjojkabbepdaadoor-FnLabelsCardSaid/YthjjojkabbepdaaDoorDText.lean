/- Drawn texts: some text, not too long; the source is one again. -/
import Derived.Test.YthjjojkabbepdaaDoorDPoint
import Derived.Test.YthjjojkabbepdaaDoorNTextE
namespace Go.Proofs.YthjjojkabbepdaaDoor.Dr
open Go.RowKit
def AIn (B : Nat) (a : Option Addr) (len : Nat) : Prop := len = 0 ∨ ∃ cb off, a = some ⟨cb, off, none⟩ ∧ cb < B
theorem aIn_of {w : World} {src len cap : Nat} {a : Option Addr} {size : Int} (h : SrcAt w src a len cap size) : AIn w.heap.size a len := by
  rcases h.1 with h0 | ⟨cb, off, ha, hcb, _⟩
  · exact .inl h0
  · exact .inr ⟨cb, off, ha, hcb⟩
theorem src_move {w w' : World} {src len cap B : Nat} {a : Option Addr} {size : Int} (h : SrcAt w src a len cap size) (ha : AIn B a len) (hsrc : src < B) (hs : w.heap.size ≤ w'.heap.size) (hb : ∀ k, k < B → w'.heap[k]? = w.heap[k]?) : SrcAt w' src a len cap size := by
  obtain ⟨hc, p, mix, hp, hwf, hh⟩ := h
  refine ⟨?_, p, mix, hp, hwf, (hb src hsrc).trans hh⟩
  rcases hc with h0 | ⟨cb, off, e, hcb, hne, hcc⟩
  · exact .inl h0
  · refine .inr ⟨cb, off, e, by omega, hne, fun i hi => ?_⟩
    obtain ⟨z, hz, hzb⟩ := hcc i hi
    have hB : cb < B := by
      rcases ha with h0 | ⟨cb', off', e', hB⟩
      · omega
      · rw [e] at e'
        simp only [Option.some.injEq, Addr.mk.injEq, and_true] at e'
        omega
    exact ⟨z, (World.cell?_of_block (a := ⟨cb, off + i, none⟩) (hb cb hB)).trans hz, hzb⟩
theorem grown_bel {w w1 w2 : World} {src : Nat} (h : w.grownBy w1 (some src)) (hb : Below w1.heap.size w1 w2) : w.grownBy w2 (some src) :=
  grown_trans h ⟨hb.os, hb.tape, hb.output, hb.size, fun k hk _ => hb.block k hk⟩
theorem src_below {w w' : World} {src len cap : Nat} {a : Option Addr} {size : Int} (h : SrcAt w src a len cap size) (hb : Below w.heap.size w w') : SrcAt w' src a len cap size := src_keep h hb.size hb.block
/-- An append to a row that lies above the world at the beginning. -/
theorem grown_row {w wr w3 : World} {src : Nat} {v : Value} {o : Obj} {e : TypeId} {n : Nat} {xs : List Value} (h : w.grownBy wr (some src)) (ho : wr.ownsRow w.heap.size e 1 v n xs) (hg : (wr.alloc o).grownBy w3 v.ownBlock) :
    w.grownBy w3 (some src) ∧ (∀ k, k < w.heap.size → w3.heap[k]? = wr.heap[k]?) ∧ wr.heap.size ≤ w3.heap.size := by
  have hk : ∀ k, k < w.heap.size → w3.heap[k]? = wr.heap[k]? := by
    intro k hk
    have h1 : k < wr.heap.size := Nat.lt_of_lt_of_le hk h.size
    have hne : some k ≠ v.ownBlock := fun e => by have := (ho.lt k e.symm).1; omega
    rw [hg.block k (by simp; omega) hne, Below.heap_alloc wr o k h1]
  have hs : wr.heap.size ≤ w3.heap.size := by have := hg.size; simp at this; omega
  exact ⟨⟨hg.os.trans h.os, hg.tape.trans h.tape, hg.output.trans h.output, Nat.le_trans h.size hs, fun k hkw hr => (hk k hkw).trans (h.block k hkw hr)⟩, hk, hs⟩
theorem row_snoc {w3 : World} {B : Nat} {v' : Value} {L : List Int} {p : Int} (ho2 : w3.ownsRow B 2 1 v' (L.length + 1) (L.map (Value.int .i64) ++ [.int .i64 p])) : w3.ownsRow B 2 1 v' (L ++ [p]).length ((L ++ [p]).map (Value.int .i64)) := by
  rw [List.length_append, List.map_append]; exact ho2
theorem owned_kept {w wr w1 : World} {src : Nat} {e : TypeId} {v : Value} {n : Nat} {xs : List Value} (hsrc : src < w.heap.size) (ho : wr.ownsRow w.heap.size e 1 v n xs) (hg : wr.grownBy w1 (some src)) : w1.ownsRow w.heap.size e 1 v n xs := by
  refine ho.kept hg ?_
  cases hv : v.ownBlock with
  | none => exact .inl rfl
  | some k => exact .inr (fun e => by have := (ho.lt k hv).1; simp at e; omega)
set_option maxRecDepth 100000 in
set_option maxHeartbeats 2000000 in
theorem textOf_any (w : World) (src : Nat) (a : Option Addr) (len cap N : Nat) (size : Int) (hl : len ≤ 1048576) (hN : N ≤ 1000) (h : SrcAt w src a len cap size) :
    Calls Tryd.prog 27 #[.pointer (some ⟨src, 0, none⟩), .int .i64 N] w fun e w' => ∃ s : ByteArray, e = .returned (.string s) ∧ s.size ≤ 4000 ∧ SrcAt w' src a len cap size ∧ w.grownBy w' (some src) := by
  obtain ⟨i0, hi, hz0, hz1, hz2⟩ := info_parts info2
  have hsrc := src_lt h
  have HA := hide (aIn_of h)
  have HO0 : Hid ((w.alloc (.cells #[] 2)).ownsRow w.heap.size 2 1 (.slice (some ⟨w.heap.size, 0, none⟩) 0 0) ([] : List Int).length (([] : List Int).map (Value.int .i64))) := hide (World.ownsRow_lit w #[] 0 (Nat.le_refl _) (by unfold maxLen; omega) rfl)
  have HS0 := hide (src_alloc h (.cells #[] 2))
  have HG0 := hide (grown_alloc w (.cells #[] 2) (some src))
  clear h
  go_enter Tryd.func27, Tryd.ntmps27
  go_wp2
  go_loopw [1, 5] (fun n v wr => ∃ (k : Nat) (L : List Int), n = .int .i64 k ∧ k + L.length = N ∧ Hid (wr.ownsRow w.heap.size 2 1 v L.length (L.map (Value.int .i64))) ∧ Hid (SrcAt wr src a len cap size) ∧ Hid (w.grownBy wr (some src))) (fun n _ _ => (intOf n).toNat)
  case atStart => exact ⟨N, [], rfl, by simp, HO0, HS0, HG0⟩
  case round =>
    obtain ⟨k, L, rfl, hkL, HO, HS, HG⟩ := hrel
    clear HO0 HS0 HG0
    have HK := hide hkL
    have hL : L.length ≤ N := by omega
    have hk : k ≤ N := by omega
    clear hkL
    by_cases hlt : 0 < k
    · have hsz := (unhide HG).size
      go_wp2_with (first | (go_at_call 50; refine (point_any _ src a len cap size hl (unhide HS)).mono ?_; rintro e w1 ⟨r, rfl, hs1, hg1⟩; have HS1 := hide hs1; have HG1 := hide hg1; have hz1s := hg1.size; clear hs1 hg1; have HO1 := hide (owned_kept hsrc (unhide HO) (unhide HG1))) | (at_builtin; refine wpList_append_own _ rfl _ _ 36 rfl w.heap.size 2 i0 (.int .i64 0) 1 8 Tryd.underlying36 hi hz0 hz1 hz2 rfl (by decide) _ _ _ rfl ((unhide HO1).alloc _) ⟨w1.heap.size, 0, none⟩ 1 1 [.int .i64 r] rfl rfl ?c1 ?c2 ?c3 ?c4 ?c5 ?_))
      case c1 => exact cell_one_new _ _ _
      case c2 => intro u hu; simp at hu; subst hu; rfl
      case c3 => unfold maxLen; omega
      case c4 => omega
      case c5 => simp; omega
      intro v' w3 hown' hgrow _
      have R := hide (grown_row (grown_trans (unhide HG) (unhide HG1)) (unhide HO1) hgrow)
      have HO3 := hide (row_snoc hown')
      have HS3 := hide (src_move (unhide HS1) (unhide HA) hsrc (unhide R).2.2 (unhide R).2.1)
      clear hown' hgrow
      go_wp2
      go_roundw
      case rel => exact ⟨k - 1, L ++ [r], by go_num, by have := unhide HK; simp; omega, HO3, HS3, hide (unhide R).1⟩
      case measure => simp [intOf]; omega
    · have HL : Hid (L.length ≤ 1000) := hide (by omega)
      go_wp2_with (go_at_call 20; refine (l01Text _ L _ (IntsAt.owned (unhide HO)) (by have := unhide HL; omega)).mono ?_; rintro e w2 ⟨rfl, hb2⟩)
      go_ret
      refine ⟨_, rfl, ?_, src_below (unhide HS) hb2, grown_bel (unhide HG) hb2⟩
      rw [strOfNums_size]
      have := textL_le L
      have := unhide HL
      omega
def lenOf : Value → Nat
  | .slice _ n _ => n
  | _ => 0
theorem long_step {w wr w3 : World} {g cap : Nat} {v' : Value} {L : List Int} (hb : Below w.heap.size w wr) (ho : wr.ownsRow w.heap.size 5 1 (.slice (some ⟨g, 0, none⟩) L.length cap) L.length (L.map (Value.int .u8)))
    (ho3 : w3.ownsRow w.heap.size 5 1 v' (L.length + 2) (L.map (Value.int .u8) ++ Lib.strCells { data := #[97, 98] })) (hg : wr.grownBy w3 (some g)) :
    ∃ g' cap', v' = .slice (some ⟨g', 0, none⟩) (L ++ [97, 98]).length cap' ∧ (L ++ [97, 98] : List Int).length ≤ cap' ∧ cap' ≤ maxLen ∧
      w3.ownsRow w.heap.size 5 1 (.slice (some ⟨g', 0, none⟩) (L ++ [97, 98]).length cap') (L ++ [97, 98]).length ((L ++ [97, 98]).map (Value.int .u8)) ∧ Below w.heap.size w w3 := by
  have hb3 : Below w.heap.size w w3 := hb.grown hg hb.size (fun k hk => by simp at hk; subst hk; exact (ho.lt g rfl).1)
  have e1 : (L ++ [97, 98] : List Int).length = L.length + 2 := by simp
  have e2 : (L ++ [97, 98]).map (Value.int .u8) = L.map (Value.int .u8) ++ Lib.strCells { data := #[97, 98] } := by rw [List.map_append]; rfl
  rcases ho3.2 with ⟨hv, h0⟩ | ⟨g', cap', cur, hv, hg', hh, hn', hm, hs, ht⟩
  · omega
  · refine ⟨g', cap', by rw [hv, e1], by omega, hm, ?_, hb3⟩
    rw [e1, e2, ← hv]; exact ho3
theorem conv_pre (w : World) {B : Nat} (g cap : Nat) (L : List Int) (n : Nat) (hn : n ≤ L.length) (h : w.ownsRow B 5 1 (.slice (some ⟨g, 0, none⟩) L.length cap) L.length (L.map (Value.int .u8))) (c : Nat) :
    (convert 22 9 (.slice (some ⟨g, 0, none⟩) n c)).run Tryd.prog w = .ok (.string (strOfNums (L.take n))) w := by
  refine conv_of w g c (L.take n) n (by simp; omega) fun i hi => ?_
  rw [h.cellAt i (by omega), List.getElem?_map]
  simp [List.getD, hi, show i < L.length by omega]
set_option maxRecDepth 100000 in
set_option maxHeartbeats 2000000 in
theorem long_any (w : World) (src : Nat) (N : Nat) (h0 : 0 < N) (hN : N ≤ 100000) :
    Calls Tryd.prog 29 #[.pointer (some ⟨src, 0, none⟩), .string { data := #[97, 98] }, .int .i64 N] w fun e w' => ∃ s : ByteArray, e = .returned (.string s) ∧ s.size ≤ 100000 ∧ Below w.heap.size w w' := by
  obtain ⟨i0, hi, hz0, hz1, hz2⟩ := info_parts info5
  have HO0 : Hid ((w.alloc (.cells #[] 5)).ownsRow w.heap.size 5 1 (.slice (some ⟨w.heap.size, 0, none⟩) 0 0) ([] : List Int).length (([] : List Int).map (Value.int .u8))) := hide (World.ownsRow_lit w #[] 0 (Nat.le_refl _) (by unfold maxLen; omega) rfl)
  have HB0 : Hid (Below w.heap.size w (w.alloc (.cells #[] 5))) := hide ((Below.refl _ _).alloc (Nat.le_refl _) _)
  go_enter Tryd.func29, Tryd.ntmps29
  go_wp2
  go_loopw [7] (fun v wr => ∃ (L : List Int) (g cap : Nat), v = .slice (some ⟨g, 0, none⟩) L.length cap ∧ L.length ≤ N + 1 ∧ L.length ≤ cap ∧ cap ≤ maxLen ∧ Hid (wr.ownsRow w.heap.size 5 1 (.slice (some ⟨g, 0, none⟩) L.length cap) L.length (L.map (Value.int .u8))) ∧ Hid (Below w.heap.size w wr)) (fun v _ => N - lenOf v)
  case atStart => exact ⟨[], w.heap.size, 0, rfl, by simp, by simp, by unfold maxLen; omega, HO0, HB0⟩
  case round =>
    obtain ⟨L, g, cap, rfl, hL, hLc, hcm, HO, HB⟩ := hrel
    clear HO0 HB0
    unfold maxLen at hcm
    by_cases hlt : L.length < N
    · have hsz := (unhide HB).size
      go_wp2_with (at_builtin; refine Lib.wpList_append_own_string _ rfl _ _ 22 9 rfl w.heap.size 5 i0 Tryd.underlying22 Tryd.underlying9 hi hz0 hz1 hz2 _ _ _ rfl (unhide HO) _ rfl ?c1 ?c2 ?c3 ?_)
      case c1 => show L.length + 2 ≤ maxLen; unfold maxLen; omega
      case c2 => show L.length + 2 ≤ _; omega
      case c3 => omega
      intro v' w3 hown' hgrow _
      have R := hide (long_step (unhide HB) (unhide HO) hown' hgrow)
      clear hown' hgrow
      obtain ⟨g', cap', hv', hc1, hc2, ho3, hb3⟩ := unhide R
      clear R
      have HO3 := hide ho3
      have HB3 := hide hb3
      clear ho3 hb3
      subst hv'
      go_wp2
      go_roundw
      case rel => exact ⟨L ++ [97, 98], g', cap', by simp, by simp; omega, by simpa using hc1, hc2, HO3, HB3⟩
      case measure => simp [lenOf]; omega
    · have hge : N ≤ L.length := by omega
      have hcv := conv_pre wr g (cap) L N hge (unhide HO)
      go_wp2
      go_ret
      exact ⟨_, rfl, by rw [strOfNums_size]; simp; omega, unhide HB⟩
theorem add1 (t : ByteArray) (k : Nat) (ht : t.size ≤ 100000) (W : World) (x : Int) : (Op.stringOp .add (t.extract 0 k) (strOfNums [x])).run Tryd.prog W = .ok (.string (t.extract 0 k ++ strOfNums [x])) W :=
  run_string_add_sum W _ _ (by rw [strOfNums_size, ByteArray.size_extract]; simp; omega)
theorem add2 (t : ByteArray) (k : Nat) (ht : t.size ≤ 100000) (W : World) (x : Int) : (Op.stringOp .add (t.extract 0 k ++ strOfNums [x]) (t.extract k t.size)).run Tryd.prog W = .ok (.string (t.extract 0 k ++ strOfNums [x] ++ t.extract k t.size)) W :=
  run_string_add_sum W _ _ (by rw [ByteArray.size_append, strOfNums_size, ByteArray.size_extract, ByteArray.size_extract]; simp; omega)
theorem add3 (t : ByteArray) (k : Nat) (ht : t.size ≤ 100000) (W : World) : (Op.stringOp .add (t.extract 0 k) (t.extract (k + 1) t.size)).run Tryd.prog W = .ok (.string (t.extract 0 k ++ t.extract (k + 1) t.size)) W :=
  run_string_add_sum W _ _ (by rw [ByteArray.size_extract, ByteArray.size_extract]; omega)
theorem add4 (t : ByteArray) (k : Nat) (ht : t.size ≤ 100000) (W : World) (x : Int) : (Op.stringOp .add (t.extract 0 k ++ strOfNums [x]) (t.extract (k + 1) t.size)).run Tryd.prog W = .ok (.string (t.extract 0 k ++ strOfNums [x] ++ t.extract (k + 1) t.size)) W :=
  run_string_add_sum W _ _ (by rw [ByteArray.size_append, strOfNums_size, ByteArray.size_extract, ByteArray.size_extract]; simp; omega)
theorem size2 (t : ByteArray) (k : Nat) (x : Int) (ht : t.size ≤ 100000) : (t.extract 0 k ++ strOfNums [x] ++ t.extract k t.size).size ≤ 100001 := by
  rw [ByteArray.size_append, ByteArray.size_append, strOfNums_size, ByteArray.size_extract, ByteArray.size_extract]; simp; omega
theorem size3 (t : ByteArray) (k : Nat) (ht : t.size ≤ 100000) : (t.extract 0 k ++ t.extract (k + 1) t.size).size ≤ 100001 := by
  rw [ByteArray.size_append, ByteArray.size_extract, ByteArray.size_extract]; omega
theorem size4 (t : ByteArray) (k : Nat) (x : Int) (ht : t.size ≤ 100000) : (t.extract 0 k ++ strOfNums [x] ++ t.extract (k + 1) t.size).size ≤ 100001 := by
  rw [ByteArray.size_append, ByteArray.size_append, strOfNums_size, ByteArray.size_extract, ByteArray.size_extract]; simp; omega
set_option maxHeartbeats 2000000 in
set_option maxRecDepth 100000 in
theorem spoil_any (w : World) (src : Nat) (a : Option Addr) (len cap : Nat) (size : Int) (t : ByteArray) (hl : len ≤ 1048576) (ht : t.size ≤ 100000) (h : SrcAt w src a len cap size) :
    Calls Tryd.prog 28 #[.pointer (some ⟨src, 0, none⟩), .string t] w fun e w' => ∃ s : ByteArray, e = .returned (.string s) ∧ s.size ≤ 100001 ∧ SrcAt w' src a len cap size ∧ w.grownBy w' (some src) := by
  have H := hide h
  clear h
  have hcv := conv1
  go_enter Tryd.func28, Tryd.ntmps28
  go_wp2_with fail
  refine (n_nat _ src a len cap size _ (by omega) (by omega) hl (unhide H)).mono ?_
  rintro e w1 ⟨k, rfl, hk, hs, hg⟩
  have S1 := hide hs
  have G1 := hide hg
  clear hs hg H
  go_wp2_with fail
  refine (n_nat _ src a len cap size 17 (by omega) (by omega) hl (unhide S1)).mono ?_
  rintro e w2 ⟨q, rfl, hq, hs, hg⟩
  have S2 := hide hs
  have G2 := hide (grown_trans (unhide G1) hg)
  clear hs hg S1 G1
  have hk2 : k ≤ t.size := by omega
  have a1 := add1 t k ht
  have a2 := add2 t k ht
  have a3 := add3 t k ht
  have a4 := add4 t k ht
  by_cases hkt : k = t.size
  · have e1 : ((k : Int) == (t.size : Int)) = true := by simp; omega
    clear hkt
    go_wp2
    go_quiet (fail)
    go_wp2
    go_ret
    exact ⟨_, rfl, size2 t k _ ht, src_keep (src_alloc (unhide S2) _) (Nat.le_refl _) (fun j hj => rfl), grown_trans (unhide G2) (grown_drewN (grown_alloc _ _ _) _)⟩
  · have e1 : ((k : Int) == (t.size : Int)) = false := by simp; omega
    have hk3 : k + 1 ≤ t.size := by omega
    clear hkt
    go_wp2_with fail
    refine (one_any _ src a len cap size 3 (by omega) (by omega) hl (src_alloc (unhide S2) _)).mono ?_
    rintro e w3 ⟨b, rfl, hs, hg⟩
    have S3 := hide hs
    have G3 := hide (grown_trans (unhide G2) (grown_trans (grown_alloc _ _ _) hg))
    clear hs hg S2 G2
    cases b
    · go_wp2_with fail
      refine (one_any _ src a len cap size 2 (by omega) (by omega) hl (unhide S3)).mono ?_
      rintro e w4 ⟨b, rfl, hs, hg⟩
      have S4' := hide hs
      have G4 := hide (grown_trans (unhide G3) hg)
      clear hs hg S3 G3
      cases b
      · go_wp2
        go_quiet (fail)
        go_wp2
        go_ret
        exact ⟨_, rfl, size4 t k _ ht, src_keep (unhide S4') (Nat.le_refl _) (fun j hj => rfl), grown_drewN (unhide G4) _⟩
      · go_wp2
        go_quiet (fail)
        go_wp2
        go_ret
        exact ⟨_, rfl, size3 t k ht, src_keep (unhide S4') (Nat.le_refl _) (fun j hj => rfl), grown_drewN (unhide G4) _⟩
    · go_wp2
      go_quiet (fail)
      go_wp2
      go_ret
      exact ⟨_, rfl, size2 t k _ ht, src_keep (unhide S3) (Nat.le_refl _) (fun j hj => rfl), grown_drewN (unhide G3) _⟩
end Go.Proofs.YthjjojkabbepdaaDoor.Dr
