/- Several texts in one. -/
import Derived.Test.YtjcgchmncgihbaaDoorMD
import Derived.Test.YtjcgchmncgihbaaDoorMFJ
import Derived.Test.YtjcgchmncgihbaaDoorStrC
import Derived.Test.YtjcgchmncgihbaaDoorWfP
import Derived.Test.YtjcgchmncgihbaaDoorCloS
import Derived.Test.YtjcgchmncgihbaaDoorMFR
/- Drawn texts of script 8, mostly: some text, not too long; and a text that is laid again and again. -/
namespace Go.Proofs.YtjcgchmncgihbaaDoor.Dr
open Go.RowKit
open Chr (nmb nmb_len nmb_cells)
set_option maxRecDepth 100000 in
set_option maxHeartbeats 4000000 in
theorem run_any (w : World) (src : Nat) (a : Option Addr) (len cap N : Nat) (size : Int) (hl : len ≤ 1048576) (hN : N ≤ 1000) (h : SrcAt w src a len cap size) :
    Calls Tryd.prog 13 #[.pointer (some ⟨src, 0, none⟩), .int .i64 N] w fun e w' => ∃ s : ByteArray, e = .returned (.string s) ∧ s.size ≤ 4000 ∧ SrcAt w' src a len cap size ∧ w.grownBy w' (some src) := by
  obtain ⟨i0, hi, hz0, hz1, hz2⟩ := info_parts info2
  have hsrc := src_lt h
  have HA := hide (aIn_of h)
  have HO0 : Hid ((w.alloc (.cells #[] 2)).ownsRow w.heap.size 2 1 (.slice (some ⟨w.heap.size, 0, none⟩) 0 0) ([] : List Int).length (([] : List Int).map (Value.int .i64))) := hide (World.ownsRow_lit w #[] 0 (Nat.le_refl _) (by unfold maxLen; omega) rfl)
  have HS0 := hide (src_alloc h (.cells #[] 2))
  have HG0 := hide (grown_alloc w (.cells #[] 2) (some src))
  clear h
  go_enter Tryd.func13, Tryd.ntmps13
  go_wp2
  go_loopw [1, 5] (fun n v wr => ∃ (k : Nat) (L : List Int), n = .int .i64 k ∧ k + L.length = N ∧ Hid (wr.ownsRow w.heap.size 2 1 v L.length (L.map (Value.int .i64))) ∧ Hid (SrcAt wr src a len cap size) ∧ Hid (w.grownBy wr (some src))) (fun n _ _ => (intOf n).toNat)
  case atStart => exact ⟨N, [], rfl, by simp, HO0, HS0, HG0⟩
  case round =>
    obtain ⟨k, L, rfl, hkL, HO, HS, HG⟩ := hrel
    clear HO0 HS0 HG0
    have HK := hide hkL
    have hL : L.length ≤ N := by omega
    have hk : k ≤ N := by omega
    clear hkL
    by_cases hlt : 0 < k
    · have hsz := (unhide HG).size
      go_upto_region 5 with (go_at_call 14; refine (n_nat _ src a len cap size 3 (by omega) (by omega) hl (unhide HS)).mono ?_; rintro e w1 ⟨r, rfl, hr1, hs1, hg1⟩; have HS1 := hide hs1; have HG1 := hide hg1; have hz1s := hg1.size; clear hs1 hg1; have HO1 := hide (owned_kept hsrc (unhide HO) (unhide HG1)))
      go_wp2_with fail
      refine (one_any _ src a len cap size 30 (by omega) (by omega) hl (unhide HS1)).mono ?_
      rintro e w2 ⟨b, rfl, hs2, hg2⟩
      have HS2 := hide hs2
      have HG2 := hide (grown_trans (grown_trans (unhide HG) (unhide HG1)) hg2)
      have HO2 := hide (owned_kept hsrc (unhide HO1) hg2)
      have hz2s := hg2.size
      clear hs2 hg2 HS1 HG1 HO1 HG
      cases b
      · go_wp2_with (at_builtin; refine wpList_append_own _ rfl _ _ 30 rfl w.heap.size 2 i0 (.int .i64 0) 1 8 Tryd.underlying30 hi hz0 hz1 hz2 rfl (by decide) _ _ _ rfl (ownG_alloc (unhide HO2) _) ⟨w2.heap.size, 0, none⟩ 1 1 [.int .i64 (2048 + (r : Int))] rfl rfl ?c1 ?c2 ?c3 ?c4 ?c5 ?_; rotate_left 5; intro v' w3 hown' hgrow hne)
        case c1 => exact cell_one_new _ _ _
        case c2 => first | rfl | (intro u hu; simp at hu; subst hu; rfl)
        case c3 => first | omega | (unfold maxLen; omega)
        case c4 => omega
        case c5 => first | omega | (simp; omega)
        have R := hide (grown_row (unhide HG2) (unhide HO2) hgrow)
        have HO3 := hide (row_snoc hown')
        have HS3 := hide (src_move (unhide HS2) (unhide HA) hsrc (unhide R).2.2 (unhide R).2.1)
        clear hown' hgrow hne
        go_roundw
        case rel => exact ⟨k - 1, L ++ [2048 + (r : Int)], by go_num, by have := unhide HK; simp; omega, HO3, HS3, hide (unhide R).1⟩
        case measure => simp [intOf]; omega
      · go_upto_region 7 with (go_at_call 25; refine (point_any _ src a len cap size hl (unhide HS2)).mono ?_; rintro e w4 ⟨q, rfl, hs4, hg4⟩; have HS4 := hide hs4; have HG4 := hide (grown_trans (unhide HG2) hg4); have hz4s := hg4.size; have HO4 := hide (owned_kept hsrc (unhide HO2) hg4); clear hs4 hg4)
        go_wp2_with (at_builtin; refine wpList_append_own _ rfl _ _ 30 rfl w.heap.size 2 i0 (.int .i64 0) 1 8 Tryd.underlying30 hi hz0 hz1 hz2 rfl (by decide) _ _ _ rfl (ownG_alloc (unhide HO4) _) ⟨w4.heap.size, 0, none⟩ 1 1 [.int .i64 q] rfl rfl ?c1 ?c2 ?c3 ?c4 ?c5 ?_; rotate_left 5; intro v' w3 hown' hgrow hne)
        case c1 => exact cell_one_new _ _ _
        case c2 => first | rfl | (intro u hu; simp at hu; subst hu; rfl)
        case c3 => first | omega | (unfold maxLen; omega)
        case c4 => omega
        case c5 => first | omega | (simp; omega)
        have R := hide (grown_row (unhide HG4) (unhide HO4) hgrow)
        have HO3 := hide (row_snoc hown')
        have HS3 := hide (src_move (unhide HS4) (unhide HA) hsrc (unhide R).2.2 (unhide R).2.1)
        clear hown' hgrow hne
        go_roundw
        case rel => exact ⟨k - 1, L ++ [q], by go_num, by have := unhide HK; simp; omega, HO3, HS3, hide (unhide R).1⟩
        case measure => simp [intOf]; omega
    · have HL : Hid (L.length ≤ 1000) := hide (by omega)
      go_wp2_with (go_at_call 20; refine (l01Text _ L _ (IntsAt.owned (unhide HO)) (unhide HL)).mono ?_; rintro e w2 ⟨rfl, hb2⟩)
      go_ret
      refine ⟨_, rfl, ?_, src_below (unhide HS) hb2, grown_bel (unhide HG) hb2⟩
      rw [strOfNums_size]
      have := textL_le L
      have := unhide HL
      omega
theorem long_stepX {w wr w3 : World} {g cap : Nat} {v' : Value} {L : List Int} {x : ByteArray} (hx : 0 < x.size) (hb : Below w.heap.size w wr) (ho : wr.ownsRow w.heap.size 5 1 (.slice (some ⟨g, 0, none⟩) L.length cap) L.length (L.map (Value.int .u8)))
    (ho3 : w3.ownsRow w.heap.size 5 1 v' (L.length + x.size) (L.map (Value.int .u8) ++ Lib.strCells x)) (hg : wr.grownBy w3 (some g)) :
    ∃ g' cap', v' = .slice (some ⟨g', 0, none⟩) (L ++ nmb x).length cap' ∧ (L ++ nmb x).length ≤ cap' ∧ cap' ≤ maxLen ∧
      w3.ownsRow w.heap.size 5 1 (.slice (some ⟨g', 0, none⟩) (L ++ nmb x).length cap') (L ++ nmb x).length ((L ++ nmb x).map (Value.int .u8)) ∧ Below w.heap.size w w3 := by
  have hb3 : Below w.heap.size w w3 := hb.grown hg hb.size (fun k hk => by simp at hk; subst hk; exact (ho.lt g rfl).1)
  have e1 : (L ++ nmb x).length = L.length + x.size := by rw [List.length_append, nmb_len]
  have e2 : (L ++ nmb x).map (Value.int .u8) = L.map (Value.int .u8) ++ Lib.strCells x := by rw [List.map_append, nmb_cells]
  rcases ho3.2 with ⟨hv, h0⟩ | ⟨g', cap', cur, hv, hg', hh, hn', hm, hs, ht⟩
  · omega
  · refine ⟨g', cap', by rw [hv, e1], by omega, hm, ?_, hb3⟩
    rw [e1, e2, ← hv]; exact ho3
set_option maxRecDepth 100000 in
set_option maxHeartbeats 2000000 in
theorem long_x (w : World) (src : Nat) (x : ByteArray) (hx : 0 < x.size) (hx4 : x.size ≤ 4) (N : Nat) (h0 : 0 < N) (hN : N ≤ 1000) :
    Calls Tryd.prog 23 #[.pointer (some ⟨src, 0, none⟩), .string x, .int .i64 N] w fun e w' => ∃ s : ByteArray, e = .returned (.string s) ∧ s.size ≤ 1000 ∧ Below w.heap.size w w' := by
  obtain ⟨i0, hi, hz0, hz1, hz2⟩ := info_parts info5
  have HO0 : Hid ((w.alloc (.cells #[] 5)).ownsRow w.heap.size 5 1 (.slice (some ⟨w.heap.size, 0, none⟩) 0 0) ([] : List Int).length (([] : List Int).map (Value.int .u8))) := hide (World.ownsRow_lit w #[] 0 (Nat.le_refl _) (by unfold maxLen; omega) rfl)
  have HB0 : Hid (Below w.heap.size w (w.alloc (.cells #[] 5))) := hide ((Below.refl _ _).alloc (Nat.le_refl _) _)
  go_enter Tryd.func23, Tryd.ntmps23
  go_wp2
  go_loopw [7] (fun v wr => ∃ (L : List Int) (g cap : Nat), v = .slice (some ⟨g, 0, none⟩) L.length cap ∧ L.length ≤ N + 4 ∧ L.length ≤ cap ∧ cap ≤ maxLen ∧ Hid (wr.ownsRow w.heap.size 5 1 (.slice (some ⟨g, 0, none⟩) L.length cap) L.length (L.map (Value.int .u8))) ∧ Hid (Below w.heap.size w wr)) (fun v _ => N - lenOf v)
  case atStart => exact ⟨[], w.heap.size, 0, rfl, by simp, by simp, by unfold maxLen; omega, HO0, HB0⟩
  case round =>
    obtain ⟨L, g, cap, rfl, hL, hLc, hcm, HO, HB⟩ := hrel
    clear HO0 HB0
    unfold maxLen at hcm
    by_cases hlt : L.length < N
    · have hsz := (unhide HB).size
      go_wp2_with (at_builtin; refine Lib.wpList_append_own_string _ rfl _ _ 22 9 rfl w.heap.size 5 i0 Tryd.underlying22 Tryd.underlying9 hi hz0 hz1 hz2 _ _ _ rfl (unhide HO) _ rfl ?c1 ?c2 ?c3 ?_)
      case c1 => show L.length + x.size ≤ maxLen; unfold maxLen; omega
      case c2 => show L.length + x.size ≤ _; omega
      case c3 => omega
      intro v' w3 hown' hgrow _
      have R := hide (long_stepX hx (unhide HB) (unhide HO) hown' hgrow)
      clear hown' hgrow
      obtain ⟨g', cap', hv', hc1, hc2, ho3, hb3⟩ := unhide R
      clear R
      have HO3 := hide ho3
      have HB3 := hide hb3
      clear ho3 hb3
      subst hv'
      have hll : (L ++ nmb x).length = L.length + x.size := by rw [List.length_append, nmb_len]
      have HLL := hide hll
      generalize L ++ nmb x = L2 at *
      clear hll
      go_wp2
      go_roundw
      case rel => exact ⟨L2, g', cap', rfl, by have := unhide HLL; omega, hc1, hc2, HO3, HB3⟩
      case measure => have := unhide HLL; simp [lenOf]; omega
    · have hge : N ≤ L.length := by omega
      have hcv := conv_pre wr g (cap) L N hge (unhide HO)
      go_wp2
      go_ret
      exact ⟨_, rfl, by rw [strOfNums_size]; simp; omega, unhide HB⟩
end Go.Proofs.YtjcgchmncgihbaaDoor.Dr
/- A drawn dictionary: some texts, not too many and not too long. -/
namespace Go.Proofs.YtjcgchmncgihbaaDoor.Dr
open Go.RowKit
open Wd (lsB)
set_option linter.unusedVariables false
theorem low_own {w : World} {B B2 n : Nat} {e : TypeId} {v : Value} {xs : List Value} (h : w.ownsRow B2 e 1 v n xs) (hb : B ≤ B2) : w.ownsRow B e 1 v n xs := by
  refine ⟨h.1, ?_⟩
  rcases h.2 with h' | ⟨g, cap, cur, hv, hg, r⟩
  · exact .inl h'
  · exact .inr ⟨g, cap, cur, hv, Nat.le_trans hb hg, r⟩
theorem gr_al {w wr : World} {src : Nat} (h : w.grownBy wr (some src)) (o : Obj) : w.grownBy (wr.alloc o) (some src) := grown_bel h (al1 wr o)
theorem gr_to {w wr w3 : World} {src : Nat} {row : Option Nat} (h : w.grownBy wr (some src)) (hg : wr.grownBy w3 row) (hr : ∀ k, row = some k → w.heap.size ≤ k) : w.grownBy w3 (some src) ∧ ∀ k, k < w.heap.size → w3.heap[k]? = wr.heap[k]? := by
  have hk : ∀ k, k < w.heap.size → w3.heap[k]? = wr.heap[k]? := fun k hk => hg.block k (Nat.lt_of_lt_of_le hk h.size) (fun e => by have := hr k e.symm; omega)
  exact ⟨⟨hg.os.trans h.os, hg.tape.trans h.tape, hg.output.trans h.output, Nat.le_trans h.size hg.size, fun k hkw hne => (hk k hkw).trans (h.block k hkw hne)⟩, hk⟩
/-- A row of texts of one's own that is no nil. -/
structure Dc (B : Nat) (w : World) (v : Value) (L : List ByteArray) : Prop where
  own : w.ownsRow B 9 1 v L.length (L.map Value.string)
  form : ∃ g cap, v = .slice (some ⟨g, 0, none⟩) L.length cap ∧ B ≤ g ∧ g < w.heap.size ∧ L.length ≤ cap ∧ cap ≤ maxLen
theorem Dc.of {B : Nat} {w : World} {v : Value} {L : List ByteArray} (h : w.ownsRow B 9 1 v L.length (L.map Value.string)) (hn : v ≠ .slice none 0 0) : Dc B w v L := by
  refine ⟨h, ?_⟩
  rcases h.2 with ⟨hv, _⟩ | ⟨g, cap, cur, hv, hg, hh, hn', hm, hs, ht⟩
  · exact absurd hv hn
  · exact ⟨g, cap, hv, hg, (Array.getElem?_eq_some_iff.1 hh).1, hn', hm⟩
theorem Dc.kept {B : Nat} {w w' : World} {v : Value} {L : List ByteArray} (h : Dc B w v L) {row : Option Nat} (hg : w.grownBy w' row) (hne : ∀ k, v.ownBlock = some k → row ≠ some k) : Dc B w' v L := by
  obtain ⟨g, cap, hv, h1, h2, h3, h4⟩ := h.form
  refine ⟨h.own.kept hg ?_, g, cap, hv, h1, Nat.lt_of_lt_of_le h2 hg.size, h3, h4⟩
  cases e : row with
  | none => exact .inr (fun x => by rw [hv] at x; cases x)
  | some k => exact .inr (fun x => hne k x e)
theorem Dc.below {B : Nat} {w w' : World} {v : Value} {L : List ByteArray} (h : Dc B w v L) (hb : Below w.heap.size w w') : Dc B w' v L := by
  obtain ⟨g, cap, hv, h1, h2, h3, h4⟩ := h.form
  exact ⟨ownsRow_below h.own hb, g, cap, hv, h1, Nat.lt_of_lt_of_le h2 hb.size, h3, h4⟩
theorem row_cells {B : Nat} {w : World} {v : Value} {L : List ByteArray} {g cap : Nat} (h : w.ownsRow B 9 1 v L.length (L.map Value.string)) (hv : v = .slice (some ⟨g, 0, none⟩) L.length cap) {j : Nat} (hj : j < L.length) : w.cell? ⟨g, j, none⟩ = some (.string (nthS L j)) := by
  subst hv
  have hc := h.cellAt j (by omega)
  rw [hc, List.getElem?_map]
  simp [nthS, List.getD, hj]
theorem add_at (g o j : Nat) : (⟨g, o, none⟩ : Addr).add j = ⟨g, o + j, none⟩ := by unfold Addr.add; split <;> simp_all
/-- Cells of a row from place o on. -/
theorem sub_cells {B : Nat} {w W : World} {v : Value} {L : List ByteArray} {g cap : Nat} (h : w.ownsRow B 9 1 v L.length (L.map Value.string)) (hv : v = .slice (some ⟨g, 0, none⟩) L.length cap) (hW : W.heap[g]? = w.heap[g]?) (o m : Nat) (hom : o + m ≤ L.length) :
    ∀ j u, (((L.drop o).take m).map Value.string)[j]? = some u → W.cell? ((⟨g, o, none⟩ : Addr).add j) = some u := by
  intro j u hj
  have hjm : j < m := by
    have := (List.getElem?_eq_some_iff.1 hj).1
    rw [List.length_map, List.length_take] at this
    omega
  rw [add_at, World.cell?_of_block (a := ⟨g, o + j, none⟩) hW, row_cells h hv (by omega)]
  rw [List.getElem?_map, List.getElem?_take, if_pos hjm, List.getElem?_drop, List.getElem?_eq_getElem (by omega)] at hj
  rw [← hj]
  simp [nthS, List.getD, show o + j < L.length by omega]
theorem sub_one (l : List ByteArray) : ∀ u ∈ l.map Value.string, u.oneCell' = true := by
  intro u hu
  obtain ⟨y, _, rfl⟩ := List.mem_map.1 hu
  rfl
theorem own_cnt {w : World} {B n : Nat} {e : TypeId} {v : Value} {xs : List Value} (h : w.ownsRow B e 1 v n xs) : w.ownsRow B e 1 v xs.length xs := by
  have h1 : xs.length = n := by have := h.1; omega
  rw [h1]
  exact h
theorem put_size {L : List ByteArray} {x : ByteArray} {t : Nat} (ht : t ≤ L.length) (h : ∀ i, i < L.length → (nthS L i).size ≤ 4000) (hx : x.size ≤ 4000) : ∀ i, i < (L.take t ++ [x] ++ L.drop t).length → (nthS (L.take t ++ [x] ++ L.drop t) i).size ≤ 4000 := by
  have key : ∀ y ∈ L.take t ++ [x] ++ L.drop t, y.size ≤ 4000 := fun y hy => by
    have hL : ∀ z ∈ L, z.size ≤ 4000 := fun z hz => by
      obtain ⟨k, hk, rfl⟩ := mem_of_nthS hz
      exact h k hk
    rw [List.mem_append, List.mem_append] at hy
    rcases hy with (hy | hy) | hy
    · exact hL y (List.mem_of_mem_take hy)
    · obtain rfl : y = x := by simpa using hy
      exact hx
    · exact hL y (List.mem_of_mem_drop hy)
  intro i hi
  refine key _ ?_
  unfold nthS
  rw [List.getD_eq_getElem?_getD, List.getElem?_eq_getElem hi]
  exact List.getElem_mem hi
theorem enc_le (p : Int) : (strOfNums (Lib.encodeRuneZ p)).size ≤ 4 := by
  rw [strOfNums_size]
  have := textL_le [p]
  simpa [textL] using this
theorem wr_x (w : World) : Calls Tryd.prog 22 #[.int .i64 2051] w fun e w' => (∃ y : ByteArray, e = .returned (.string y) ∧ 0 < y.size ∧ y.size ≤ 4) ∧ Below w.heap.size w w' := by
  refine (write_any 2051 w).mono fun e w' ⟨he, hb⟩ => ⟨⟨_, he, ?_, enc_le 2051⟩, hb⟩
  rw [strOfNums_size, Lib.encodeRuneZ_three (by omega)]
  simp
theorem wr_y (w : World) : Calls Tryd.prog 22 #[.int .i64 2095] w fun e w' => (∃ y : ByteArray, e = .returned (.string y) ∧ y.size ≤ 4) ∧ Below w.heap.size w w' :=
  (write_any 2095 w).mono fun e w' ⟨he, hb⟩ => ⟨⟨_, he, enc_le 2095⟩, hb⟩
theorem more_size {L M : List ByteArray} (h : ∀ i, i < L.length → (nthS L i).size ≤ 4000) (h2 : ∀ x ∈ M, x.size ≤ 4000) : (∀ i, i < (L ++ M).length → (nthS (L ++ M) i).size ≤ 4000) ∧ ∀ i, i < (M ++ L).length → (nthS (M ++ L) i).size ≤ 4000 := by
  have hL : ∀ z ∈ L, z.size ≤ 4000 := fun z hz => by
    obtain ⟨k, hk, rfl⟩ := mem_of_nthS hz
    exact h k hk
  have at_ : ∀ (K : List ByteArray), (∀ z ∈ K, z.size ≤ 4000) → ∀ i, i < K.length → (nthS K i).size ≤ 4000 := fun K hK i hi => by
    refine hK _ ?_
    unfold nthS
    rw [List.getD_eq_getElem?_getD, List.getElem?_eq_getElem hi]
    exact List.getElem_mem hi
  exact ⟨at_ _ (fun z hz => (List.mem_append.1 hz).elim (hL z) (h2 z)), at_ _ (fun z hz => (List.mem_append.1 hz).elim (h2 z) (hL z))⟩
set_option maxRecDepth 100000 in
set_option maxHeartbeats 8000000 in
theorem dict_any (w : World) (src : Nat) (a : Option Addr) (len cap : Nat) (size : Int) (hl : len ≤ 1048576) (h : SrcAt w src a len cap size) :
    Calls Tryd.prog 12 #[.pointer (some ⟨src, 0, none⟩)] w fun e w' => ∃ v L, e = .returned v ∧ w'.ownsRow w.heap.size 9 1 v L.length (L.map Value.string) ∧ L.length ≤ 2000 ∧ (∀ i, i < L.length → (nthS L i).size ≤ 4000) ∧ SrcAt w' src a len cap size ∧ w.grownBy w' (some src) := by
  obtain ⟨i0, hi, hz0, hz1, hz2⟩ := info_parts info9
  have hsrc := src_lt h
  have HA := hide (aIn_of h)
  have D0 : Hid (Dc w.heap.size (w.alloc (.cells #[] 9)) (.slice (some ⟨w.heap.size, 0, none⟩) 0 0) []) := hide (Dc.of (World.ownsRow_lit w #[] 0 (Nat.le_refl _) (by unfold maxLen; omega) rfl) (by simp))
  have HS0 := hide (src_alloc h (.cells #[] 9))
  have HG0 := hide (grown_alloc w (.cells #[] 9) (some src))
  clear h
  go_enter Tryd.func12, Tryd.ntmps12
  go_upto_region 3 with (go_at_call 14; refine (n_nat _ src a len cap size 7 (by omega) (by omega) hl (unhide HS0)).mono ?_; rintro e w1 ⟨r, rfl, hr1, hs1, hg1⟩; have HS1 := hide hs1; have HG1 := hide (grown_trans (unhide HG0) hg1); have D1 := hide ((unhide D0).kept hg1 (fun k e x => by cases x; have := ((unhide D0).own.lt _ e).1; omega)); clear hs1 hg1)
  clear D0 HS0 HG0
  go_wp2
  go_loopw [3, 4] (fun v x wr => ∃ (k : Nat) (L : List ByteArray), x = .int .i64 (k : Int) ∧ k + L.length ≤ 7 ∧ Hid (Dc w.heap.size wr v L) ∧ Hid (∀ i, i < L.length → (nthS L i).size ≤ 4000) ∧ Hid (SrcAt wr src a len cap size) ∧ Hid (w.grownBy wr (some src))) (fun _ x _ => (intOf x).toNat)
  case atStart => exact ⟨r, [], rfl, by simp; omega, D1, hide (fun i hi => by simp at hi), HS1, HG1⟩
  case round =>
    obtain ⟨k, L, rfl, hkL, HD, HL, HS, HG⟩ := hrel
    clear D1 HS1 HG1
    by_cases hk : 0 < k
    · have hk' : (0 : Int) < (k : Int) := by omega
      go_upto_region 7 with (go_at_call 14; refine (n_nat _ src a len cap size 4 (by omega) (by omega) hl (unhide HS)).mono ?_; rintro e w2 ⟨r2, rfl, hr2, hs2, hg2⟩; have HS2 := hide hs2; have HG2 := hide (grown_trans (unhide HG) hg2); have D2 := hide ((unhide HD).kept hg2 (fun k e x => by cases x; have := ((unhide HD).own.lt _ e).1; omega)); clear hs2 hg2)
      clear HD HS HG
      go_wp2
      go_loopw [5, 6] (fun xv jv wr => ∃ (j : Nat) (x : ByteArray), xv = .string x ∧ jv = .int .i64 (j : Int) ∧ x.size + 4 * j ≤ 16 ∧ Hid (Dc w.heap.size wr u3 L) ∧ Hid (SrcAt wr src a len cap size) ∧ Hid (w.grownBy wr (some src))) (fun _ jv _ => (intOf jv).toNat)
      case atStart => exact ⟨1 + r2, ⟨#[]⟩, rfl, by go_num, by show 0 + 4 * (1 + r2) ≤ 16; omega, D2, HS2, HG2⟩
      case round =>
        obtain ⟨j, x, rfl, rfl, hx, HD, HS, HG⟩ := hrel
        clear D2 HS2 HG2
        by_cases hj : 0 < j
        · have hj' : (0 : Int) < (j : Int) := by omega
          go_wp2_with (first
            | (go_at_call 14; refine (n_nat _ src a len cap size 3 (by omega) (by omega) hl (unhide HS)).mono ?_; rintro e w3 ⟨r3, rfl, hr3, hs3, hg3⟩; have HS3 := hide hs3; have HG3 := hide (grown_trans (unhide HG) hg3); have D3 := hide ((unhide HD).kept hg3 (fun k e x => by cases x; have := ((unhide HD).own.lt _ e).1; omega)); clear hs3 hg3)
            | (go_at_call 22; refine (write_any _ _).mono ?_; rintro e w4 ⟨rfl, hb4⟩; have HS4 := hide (src_below (unhide HS3) hb4); have HG4 := hide (grown_bel (unhide HG3) hb4); have D4 := hide ((unhide D3).below hb4); clear hb4; have hen := enc_le (2048 + (r3 : Int)); obtain ⟨y, hy⟩ : ∃ y, strOfNums (Lib.encodeRuneZ (2048 + (r3 : Int))) = y := ⟨_, rfl⟩; rw [hy] at hen ⊢; clear hy; have hadd : ∀ V, (Op.stringOp .add x y).run Tryd.prog V = .ok (.string (x ++ y)) V := fun V => run_string_add_sum V _ _ (by omega)))
          go_roundw
          case rel => exact ⟨j - 1, x ++ y, rfl, by go_num, by rw [ByteArray.size_append]; omega, D4, HS4, HG4⟩
          case measure => simp [intOf]; omega
        · obtain rfl : j = 0 := by omega
          have hx16 : x.size ≤ 16 := by omega
          go_wp2
          go_loopw [7] (fun tv wx => ∃ t : Nat, tv = .int .i64 (t : Int) ∧ t ≤ L.length ∧ wx = wr) (fun tv _ => L.length - (intOf tv).toNat)
          case atStart => exact ⟨0, rfl, Nat.zero_le _, rfl⟩
          case round =>
            obtain ⟨t, rfl, ht, hwx⟩ := hrel
            subst hwx
            obtain ⟨g, cp, hu3, hg1, hg2, hg3, hg4⟩ := (unhide HD).form
            subst hu3
            by_cases htl : t < L.length
            · have htl' : (t : Int) < (L.length : Int) := by omega
              have htd : decide ((t : Int) < (L.length : Int)) = true := by simpa using htl'
              have kt := row_cells (unhide HD).own rfl htl
              obtain ⟨y, hy⟩ : ∃ y, nthS L t = y := ⟨_, rfl⟩
              rw [hy] at kt
              have hL : Op.bytesLess y.toList x.toList = lsB y x := rfl
              generalize lsB y x = D at *
              cases D
              · cases hE : (y.toList == x.toList)
                · go_upto_region 14 with fail
                  go_upto_region 15 with (at_builtin; refine wpList_append_own _ rfl _ _ 23 rfl wr.heap.size 9 i0 (.string ⟨#[]⟩) 1 16 Tryd.underlying23 hi hz0 hz1 hz2 rfl (by decide) _ _ _ rfl (World.ownsRow_lit wr #[] 0 (Nat.le_refl _) (by unfold maxLen; omega) rfl) ⟨g, 0, none⟩ t _ (((L.drop 0).take t).map Value.string) rfl (by rw [List.length_map, List.length_take, List.drop_zero]; omega) (sub_cells (unhide HD).own rfl (Below.heap_alloc wr _ g hg2) 0 t (by omega)) (sub_one _) (by unfold maxLen; omega) (by omega) (by simp) ?_; intro v1 w1 ho1 hgr1 hn1)
                  have hz1w := hgr1.size
                  have e1 : ∀ k, k < wr.heap.size → w1.heap[k]? = wr.heap[k]? := fun k hk => (hgr1.block k (by simp; omega) (fun e => by cases e; exact absurd hk (Nat.lt_irrefl _))).trans (Below.heap_alloc wr _ k hk)
                  have G1 := hide (gr_to (gr_al (unhide HG) _) hgr1 (fun k e => by cases e; exact (unhide HG).size)).1
                  have O1 := hide ho1
                  have hv1 : v1 ≠ .slice none 0 0 := fun e => by have := (hn1.1 e).1; cases this
                  simp at hz1w
                  clear hgr1 ho1 hn1
                  go_upto_region 16 with (at_builtin; refine wpList_append_own _ rfl _ _ 23 rfl wr.heap.size 9 i0 (.string ⟨#[]⟩) 1 16 Tryd.underlying23 hi hz0 hz1 hz2 rfl (by decide) _ _ _ rfl (ownG_alloc (unhide O1) _) ⟨w1.heap.size, 0, none⟩ 1 1 [.string x] rfl rfl (cell_one_new _ _ _) (by intro u hu; simp at hu; subst hu; rfl) (by unfold maxLen; omega) (by omega) (by simp; omega) ?_; intro v2 w2 ho2 hgr2 hn2)
                  have hz2w := hgr2.size
                  have e2 : ∀ k, k < wr.heap.size → w2.heap[k]? = w1.heap[k]? := fun k hk => (hgr2.block k (by simp; omega) (fun e => by have := ((unhide O1).lt k e.symm).1; omega)).trans (Below.heap_alloc w1 _ k (by omega))
                  have G2 := hide (gr_to (gr_al (unhide G1) _) hgr2 (fun k e => by have := ((unhide O1).lt k e).1; have := (unhide HG).size; omega)).1
                  have O2 := hide ho2
                  have hv2 : v2 ≠ .slice none 0 0 := fun e => by have := (hn2.1 e).2; omega
                  simp at hz2w
                  clear hgr2 ho2 hn2
                  go_wp2_with (at_builtin; refine wpList_append_own _ rfl _ _ 23 rfl wr.heap.size 9 i0 (.string ⟨#[]⟩) 1 16 Tryd.underlying23 hi hz0 hz1 hz2 rfl (by decide) _ _ _ rfl (unhide O2) ⟨g, t, none⟩ (L.length - t) _ (((L.drop t).take (L.length - t)).map Value.string) rfl (by rw [List.length_map, List.length_take, List.length_drop]; omega) (sub_cells (unhide HD).own rfl ((e2 g hg2).trans (e1 g hg2)) t (L.length - t) (by omega)) (sub_one _) (by unfold maxLen; omega) (by omega) (by omega) ?_; intro v3 w3 ho3 hgr3 hn3; have O3 := hide ho3; have R3 := hide hgr3; have N3 := hide hn3; clear ho3 hgr3 hn3)
                  have hv3 : v3 ≠ .slice none 0 0 := fun e => hv2 ((unhide N3).1 e).1
                  have hz3w := (unhide R3).size
                  have e3 : ∀ k, k < wr.heap.size → w3.heap[k]? = w2.heap[k]? := fun k hk => (unhide R3).block k (by omega) (fun e => by have := ((unhide O2).lt k e.symm).1; omega)
                  have G3 := hide (gr_to (unhide G2) (unhide R3) (fun k e => by have := ((unhide O2).lt k e).1; have := (unhide HG).size; omega)).1
                  have S3 := hide (src_move (unhide HS) (unhide HA) hsrc (by omega) (fun k hk => by have := (unhide HG).size; exact (e3 k (by omega)).trans ((e2 k (by omega)).trans (e1 k (by omega)))) : SrcAt w3 src a len cap size)
                  have Z3 := hide (put_size ht (unhide HL) (show x.size ≤ 4000 by omega))
                  have hlen3 : (L.take t ++ [x] ++ L.drop t).length = L.length + 1 := by simp; omega
                  have D3 : Hid (Dc w.heap.size w3 v3 (L.take t ++ [x] ++ L.drop t)) := hide (Dc.of (low_own (by
                    have h := unhide O3
                    rw [hlen3, List.map_append, List.map_append]
                    rw [List.nil_append, List.drop_zero, show 0 + t + 1 + (L.length - t) = L.length + 1 by omega, List.take_of_length_le (show (L.drop t).length ≤ L.length - t by simp)] at h
                    exact h) (unhide HG).size) hv3)
                  go_roundw
                  case rel => exact ⟨k - 1, L.take t ++ [x] ++ L.drop t, by go_num, by rw [hlen3]; omega, D3, Z3, S3, G3⟩
                  case measure => simp [intOf]; omega
                · go_wp2
                  go_roundw
                  case rel => exact ⟨k - 1, L, by go_num, by omega, HD, HL, HS, HG⟩
                  case measure => simp [intOf]; omega
              · go_wp2
                go_roundw
                case rel => exact ⟨t + 1, by go_num, by omega, by first | trivial | rfl⟩
                case measure => simp [intOf]; omega
            · have hge : ¬ (t : Int) < (L.length : Int) := by omega
              have hgd : decide ((t : Int) < (L.length : Int)) = false := by simpa using hge
              go_upto_region 14 with fail
              go_upto_region 15 with (at_builtin; refine wpList_append_own _ rfl _ _ 23 rfl wr.heap.size 9 i0 (.string ⟨#[]⟩) 1 16 Tryd.underlying23 hi hz0 hz1 hz2 rfl (by decide) _ _ _ rfl (World.ownsRow_lit wr #[] 0 (Nat.le_refl _) (by unfold maxLen; omega) rfl) ⟨g, 0, none⟩ t _ (((L.drop 0).take t).map Value.string) rfl (by rw [List.length_map, List.length_take, List.drop_zero]; omega) (sub_cells (unhide HD).own rfl (Below.heap_alloc wr _ g hg2) 0 t (by omega)) (sub_one _) (by unfold maxLen; omega) (by omega) (by simp) ?_; intro v1 w1 ho1 hgr1 hn1)
              have hz1w := hgr1.size
              have e1 : ∀ k, k < wr.heap.size → w1.heap[k]? = wr.heap[k]? := fun k hk => (hgr1.block k (by simp; omega) (fun e => by cases e; exact absurd hk (Nat.lt_irrefl _))).trans (Below.heap_alloc wr _ k hk)
              have G1 := hide (gr_to (gr_al (unhide HG) _) hgr1 (fun k e => by cases e; exact (unhide HG).size)).1
              have O1 := hide ho1
              have hv1 : v1 ≠ .slice none 0 0 := fun e => by have := (hn1.1 e).1; cases this
              simp at hz1w
              clear hgr1 ho1 hn1
              go_upto_region 16 with (at_builtin; refine wpList_append_own _ rfl _ _ 23 rfl wr.heap.size 9 i0 (.string ⟨#[]⟩) 1 16 Tryd.underlying23 hi hz0 hz1 hz2 rfl (by decide) _ _ _ rfl (ownG_alloc (unhide O1) _) ⟨w1.heap.size, 0, none⟩ 1 1 [.string x] rfl rfl (cell_one_new _ _ _) (by intro u hu; simp at hu; subst hu; rfl) (by unfold maxLen; omega) (by omega) (by simp; omega) ?_; intro v2 w2 ho2 hgr2 hn2)
              have hz2w := hgr2.size
              have e2 : ∀ k, k < wr.heap.size → w2.heap[k]? = w1.heap[k]? := fun k hk => (hgr2.block k (by simp; omega) (fun e => by have := ((unhide O1).lt k e.symm).1; omega)).trans (Below.heap_alloc w1 _ k (by omega))
              have G2 := hide (gr_to (gr_al (unhide G1) _) hgr2 (fun k e => by have := ((unhide O1).lt k e).1; have := (unhide HG).size; omega)).1
              have O2 := hide ho2
              have hv2 : v2 ≠ .slice none 0 0 := fun e => by have := (hn2.1 e).2; omega
              simp at hz2w
              clear hgr2 ho2 hn2
              have hdr : L.drop t = [] := List.drop_eq_nil_of_le (by omega)
              by_cases hct : cp = t
              · go_wp2_with (at_builtin; go_loud (refine wpList_append_own _ rfl _ _ 23 rfl wr.heap.size 9 i0 (.string ⟨#[]⟩) 1 16 Tryd.underlying23 hi hz0 hz1 hz2 rfl (by decide) _ _ _ rfl (unhide O2) _ _ _ ([] : List Value) rfl (by simp <;> omega) (fun j u hj => by simp at hj) (by simp) (by unfold maxLen; omega) (by omega) (by omega) ?_); intro v3 w3 ho3 hgr3 hn3; have O3 := hide ho3; have R3 := hide hgr3; have N3 := hide hn3; clear ho3 hgr3 hn3)
                have hv3 : v3 ≠ .slice none 0 0 := fun e => hv2 ((unhide N3).1 e).1
                have hz3w := (unhide R3).size
                have e3 : ∀ k, k < wr.heap.size → w3.heap[k]? = w2.heap[k]? := fun k hk => (unhide R3).block k (by omega) (fun e => by have := ((unhide O2).lt k e.symm).1; omega)
                have G3 := hide (gr_to (unhide G2) (unhide R3) (fun k e => by have := ((unhide O2).lt k e).1; have := (unhide HG).size; omega)).1
                have S3 := hide (src_move (unhide HS) (unhide HA) hsrc (by omega) (fun k hk => by have := (unhide HG).size; exact (e3 k (by omega)).trans ((e2 k (by omega)).trans (e1 k (by omega)))) : SrcAt w3 src a len cap size)
                have Z3 := hide (put_size ht (unhide HL) (show x.size ≤ 4000 by omega))
                have hlen3 : (L.take t ++ [x] ++ L.drop t).length = L.length + 1 := by simp; omega
                have eX : (L.take t ++ [x] ++ L.drop t).map Value.string = [] ++ ((L.drop 0).take t).map Value.string ++ [.string x] ++ [] := by rw [hdr]; simp
                have D3 : Hid (Dc w.heap.size w3 v3 (L.take t ++ [x] ++ L.drop t)) := hide (Dc.of (low_own (by
                  have h := own_cnt (unhide O3)
                  rw [← eX, List.length_map] at h
                  exact h) (unhide HG).size) hv3)
                go_roundw
                case rel => exact ⟨k - 1, L.take t ++ [x] ++ L.drop t, by go_num, by rw [hlen3]; omega, D3, Z3, S3, G3⟩
                case measure => simp [intOf]; omega
              · go_wp2_with (at_builtin; go_loud (refine wpList_append_own _ rfl _ _ 23 rfl wr.heap.size 9 i0 (.string ⟨#[]⟩) 1 16 Tryd.underlying23 hi hz0 hz1 hz2 rfl (by decide) _ _ _ rfl (unhide O2) _ _ _ ([] : List Value) rfl (by simp <;> omega) (fun j u hj => by simp at hj) (by simp) (by unfold maxLen; omega) (by omega) (by omega) ?_); intro v3 w3 ho3 hgr3 hn3; have O3 := hide ho3; have R3 := hide hgr3; have N3 := hide hn3; clear ho3 hgr3 hn3)
                have hv3 : v3 ≠ .slice none 0 0 := fun e => hv2 ((unhide N3).1 e).1
                have hz3w := (unhide R3).size
                have e3 : ∀ k, k < wr.heap.size → w3.heap[k]? = w2.heap[k]? := fun k hk => (unhide R3).block k (by omega) (fun e => by have := ((unhide O2).lt k e.symm).1; omega)
                have G3 := hide (gr_to (unhide G2) (unhide R3) (fun k e => by have := ((unhide O2).lt k e).1; have := (unhide HG).size; omega)).1
                have S3 := hide (src_move (unhide HS) (unhide HA) hsrc (by omega) (fun k hk => by have := (unhide HG).size; exact (e3 k (by omega)).trans ((e2 k (by omega)).trans (e1 k (by omega)))) : SrcAt w3 src a len cap size)
                have Z3 := hide (put_size ht (unhide HL) (show x.size ≤ 4000 by omega))
                have hlen3 : (L.take t ++ [x] ++ L.drop t).length = L.length + 1 := by simp; omega
                have eX : (L.take t ++ [x] ++ L.drop t).map Value.string = [] ++ ((L.drop 0).take t).map Value.string ++ [.string x] ++ [] := by rw [hdr]; simp
                have D3 : Hid (Dc w.heap.size w3 v3 (L.take t ++ [x] ++ L.drop t)) := hide (Dc.of (low_own (by
                  have h := own_cnt (unhide O3)
                  rw [← eX, List.length_map] at h
                  exact h) (unhide HG).size) hv3)
                go_roundw
                case rel => exact ⟨k - 1, L.take t ++ [x] ++ L.drop t, by go_num, by rw [hlen3]; omega, D3, Z3, S3, G3⟩
                case measure => simp [intOf]; omega
    · obtain rfl : k = 0 := by omega
      have HGs := (unhide HG).size
      have hge : ¬ (0 : Int) < (0 : Int) := by omega
      obtain ⟨g, cp, hu3, hg1, hg2, hg3, hg4⟩ := (unhide HD).form
      subst hu3
      go_upto_region 18 with (go_at_call 14; refine (n_nat _ src a len cap size 30 (by omega) (by omega) hl (unhide HS)).mono ?_; rintro e w2 ⟨q, rfl, hq, hs2, hgr2⟩; have HS2 := hide hs2; have HG2 := hide (grown_trans (unhide HG) hgr2); have D2 := hide ((unhide HD).kept hgr2 (fun k e x => by cases x; have := ((unhide HD).own.lt _ e).1; omega)); have z2 := hgr2.size; clear hs2 hgr2)
      clear HD HS HG
      have hgl2 : g < w2.heap.size := by omega
      by_cases q0 : q = 0
      · subst q0
        go_upto_region 27 with (first
          | (go_at_call 14; refine (n_nat _ src a len cap size 2 (by omega) (by omega) hl (unhide HS2)).mono ?_; rintro e w3 ⟨r3, rfl, hr3, hs3, hgr3⟩; have HS3 := hide hs3; have HG3 := hide (grown_trans (unhide HG2) hgr3); have D3 := hide ((unhide D2).kept hgr3 (fun k e x => by cases x; have := ((unhide D2).own.lt _ e).1; omega)); clear hs3 hgr3)
          | (go_at_call 13; rw [show (1 : Int) + (r3 : Int) = ((1 + r3 : Nat) : Int) by omega]; refine (run_any _ src a len cap (1 + r3) size hl (by omega) (unhide HS3)).mono ?_; rintro e w4 ⟨x, rfl, hx4, hs4, hgr4⟩; have HS4 := hide hs4; have HG4 := hide (grown_trans (unhide HG3) hgr4); have D4 := hide ((unhide D3).kept hgr4 (fun k e x => by cases x; have := ((unhide D3).own.lt _ e).1; omega)); clear hs4 hgr4)
          | (at_builtin; refine wpList_append_own _ rfl _ _ 23 rfl w.heap.size 9 i0 (.string ⟨#[]⟩) 1 16 Tryd.underlying23 hi hz0 hz1 hz2 rfl (by decide) _ _ _ rfl (ownG_alloc (unhide D4).own _) ⟨w4.heap.size, 0, none⟩ 1 1 [.string x] rfl rfl (cell_one_new _ _ _) (by intro u hu; simp at hu; subst hu; rfl) (by unfold maxLen; omega) (by omega) (by have := (unhide HG4).size; simp; omega) ?_; intro v5 w5 ho5 hgr5 hn5; have O5 := hide ho5; have R5 := hide hgr5; clear ho5 hgr5 hn5))
        have R := hide (grown_row (unhide HG4) (unhide D4).own (unhide R5))
        have S5 := hide (src_move (unhide HS4) (unhide HA) hsrc (unhide R).2.2 (unhide R).2.1)
        go_wp2
        go_ret
        refine ⟨_, L ++ [x], rfl, (by rw [List.map_append, List.length_append]; exact unhide O5), by simp; omega, (more_size (unhide HL) (by intro y hy; simp at hy; subst hy; exact hx4)).1, unhide S5, (unhide R).1⟩
      by_cases q1 : q = 1
      · subst q1
        have hk2 : ∀ k, k < w2.heap.size → (w2.alloc (.cells #[.string ⟨#[]⟩] 9)).heap[k]? = w2.heap[k]? := fun k hk => Below.heap_alloc w2 _ k hk
        go_upto_region 27 with (at_builtin; refine wpList_append_own _ rfl _ _ 23 rfl w2.heap.size 9 i0 (.string ⟨#[]⟩) 1 16 Tryd.underlying23 hi hz0 hz1 hz2 rfl (by decide) _ _ _ rfl (World.ownsRow_lit w2 #[.string ⟨#[]⟩] 1 (Nat.le_refl _) (by unfold maxLen; omega) rfl) ⟨g, 0, none⟩ L.length _ (((L.drop 0).take L.length).map Value.string) rfl (by simp) (sub_cells (unhide D2).own rfl (hk2 g hgl2) 0 L.length (by omega)) (sub_one _) (by unfold maxLen; omega) (by omega) (by simp) ?_; intro v5 w5 ho5 hgr5 hn5; have O5 := hide ho5; have R5 := hide hgr5; clear ho5 hgr5 hn5)
        have R := hide (gr_to (gr_al (unhide HG2) _) (unhide R5) (fun k e => by cases e; exact (unhide HG2).size))
        have hz5 := (unhide R5).size
        simp at hz5
        have S5 := hide (src_move (unhide HS2) (unhide HA) hsrc (by omega) (fun k hk => ((unhide R).2 k hk).trans (hk2 k (by have := (unhide HG2).size; omega))) : SrcAt w5 src a len cap size)
        go_wp2
        go_ret
        have eX : (([⟨#[]⟩] : List ByteArray) ++ L).map Value.string = (#[Value.string ⟨#[]⟩]).toList ++ ((L.drop 0).take L.length).map Value.string := by simp
        have hA : w5.ownsRow w.heap.size 9 1 v5 ([⟨#[]⟩] ++ L : List ByteArray).length (([⟨#[]⟩] ++ L : List ByteArray).map Value.string) := low_own (by have h := own_cnt (unhide O5); rw [← eX, List.length_map] at h; exact h) (unhide HG2).size
        have hB := (more_size (M := [⟨#[]⟩]) (unhide HL) (by intro y hy; simp at hy; subst hy; exact Nat.zero_le _)).2
        have hC : ([⟨#[]⟩] ++ L : List ByteArray).length ≤ 2000 := by rw [List.length_append]; simp; omega
        first
          | exact ⟨_, _, rfl, hA, hC, hB, unhide S5, (unhide R).1⟩
          | exact ⟨_, rfl, _, hA, hC, hB, unhide S5, (unhide R).1⟩
      have e0 : ((q : Int) == 0) = false := by simp; omega
      have e1 : ((q : Int) == 1) = false := by simp; omega
      by_cases q2 : q = 2
      · subst q2
        have CW := hide (wr_x w2)
        go_upto_region 27 with (first
          | (go_at_call 22; go_loud (refine (unhide CW).mono ?_; rintro e w3 ⟨⟨y, rfl, hep, hen⟩, hb3⟩; have HS3 := hide (src_below (unhide HS2) hb3); have HG3 := hide (grown_bel (unhide HG2) hb3); have D3 := hide ((unhide D2).below hb3); clear hb3))
          | (go_at_call 14; refine (n_nat _ src a len cap size 3 (by omega) (by omega) hl (unhide HS3)).mono ?_; rintro e w4 ⟨r4, rfl, hr4, hs4, hgr4⟩; have HS4 := hide hs4; have HG4 := hide (grown_trans (unhide HG3) hgr4); have D4 := hide ((unhide D3).kept hgr4 (fun k e x => by cases x; have := ((unhide D3).own.lt _ e).1; omega)); clear hs4 hgr4)
          | (go_at_call 23; rw [show (180 : Int) + 3 * (r4 : Int) = ((180 + 3 * r4 : Nat) : Int) by omega]; refine (long_x _ src y hep hen (180 + 3 * r4) (by omega) (by omega)).mono ?_; rintro e w5 ⟨x, rfl, hx5, hb5⟩; have HS5 := hide (src_below (unhide HS4) hb5); have HG5 := hide (grown_bel (unhide HG4) hb5); have D5 := hide ((unhide D4).below hb5); clear hb5)
          | (at_builtin; refine wpList_append_own _ rfl _ _ 23 rfl w.heap.size 9 i0 (.string ⟨#[]⟩) 1 16 Tryd.underlying23 hi hz0 hz1 hz2 rfl (by decide) _ _ _ rfl (ownG_alloc (unhide D5).own _) ⟨w5.heap.size, 0, none⟩ 1 1 [.string x] rfl rfl (cell_one_new _ _ _) (by intro u hu; simp at hu; subst hu; rfl) (by unfold maxLen; omega) (by omega) (by have := (unhide HG5).size; simp; omega) ?_; intro v6 w6 ho6 hgr6 hn6; have O6 := hide ho6; have R6 := hide hgr6; clear ho6 hgr6 hn6))
        have R := hide (grown_row (unhide HG5) (unhide D5).own (unhide R6))
        have S6 := hide (src_move (unhide HS5) (unhide HA) hsrc (unhide R).2.2 (unhide R).2.1)
        go_wp2
        go_ret
        refine ⟨_, L ++ [x], rfl, (by rw [List.map_append, List.length_append]; exact unhide O6), by simp; omega, (more_size (unhide HL) (by intro y hy; simp at hy; subst hy; omega)).1, unhide S6, (unhide R).1⟩
      have e2 : ((q : Int) == 2) = false := by simp; omega
      by_cases q3 : q = 3
      · have e3 : ((q : Int) == 3) = true := by simp; omega
        clear q0 q1 q2 q3
        go_wp2
        go_loopw [3] (fun v wx => ∃ K : List ByteArray, K.length ≤ 1001 ∧ Hid (Dc w.heap.size wx v K) ∧ Hid (∀ i, i < K.length → (nthS K i).size ≤ 4000) ∧ Hid (SrcAt wx src a len cap size) ∧ Hid (w.grownBy wx (some src))) (fun v _ => 1001 - lenOf v)
        case atStart => exact ⟨L, by omega, D2, HL, HS2, HG2⟩
        case round =>
          obtain ⟨K, hK, HD, HZ, HS, HG⟩ := hrel
          clear D2 HS2 HG2
          obtain ⟨g5, c5, hu5, hg51, hg52, hg53, hg54⟩ := (unhide HD).form
          subst hu5
          have hwg := (unhide HG).size
          by_cases hlt : K.length < 1001
          · have hlt' : (K.length : Int) < 1001 := by omega
            go_wp2_with (first
              | (go_at_call 22; refine (wr_y _).mono ?_; rintro e w6 ⟨⟨y, rfl, hy4⟩, hb6⟩; have HS6 := hide (src_below (unhide HS) hb6); have HG6 := hide (grown_bel (unhide HG) hb6); have D6 := hide ((unhide HD).below hb6); clear hb6)
              | (at_builtin; refine wpList_append_own _ rfl _ _ 23 rfl w.heap.size 9 i0 (.string ⟨#[]⟩) 1 16 Tryd.underlying23 hi hz0 hz1 hz2 rfl (by decide) _ _ _ rfl (ownG_alloc (unhide D6).own _) ⟨w6.heap.size, 0, none⟩ 1 1 [.string y] rfl rfl (cell_one_new _ _ _) (by intro u hu; simp at hu; subst hu; rfl) (by unfold maxLen; omega) (by omega) (by have := (unhide HG6).size; simp; omega) ?_; intro v7 w7 ho7 hgr7 hn7; have O7 := hide ho7; have R7 := hide hgr7; have hv7 : v7 ≠ .slice none 0 0 := (fun e => by have := (hn7.1 e).2; omega); clear ho7 hgr7 hn7))
            have R := hide (grown_row (unhide HG6) (unhide D6).own (unhide R7))
            have S7 := hide (src_move (unhide HS6) (unhide HA) hsrc (unhide R).2.2 (unhide R).2.1)
            have hkl : (K ++ [y]).length = K.length + 1 := by simp
            have D7 : Hid (Dc w.heap.size w7 v7 (K ++ [y])) := hide (Dc.of (by rw [hkl, List.map_append]; exact unhide O7) hv7)
            have Z7 := hide (more_size (unhide HZ) (M := [y]) (by intro z hz; simp at hz; subst hz; omega)).1
            obtain ⟨g7, c7, hu7, _, _, _, _⟩ := (unhide D7).form
            subst hu7
            go_roundw
            case rel => exact ⟨K ++ [y], by rw [hkl]; omega, D7, Z7, S7, hide (unhide R).1⟩
            case measure => simp [lenOf]; omega
          · have hge : ¬ (K.length : Int) < 1001 := by omega
            go_wp2
            go_ret
            first
              | exact ⟨_, K, rfl, (unhide HD).own, by omega, unhide HZ, unhide HS, unhide HG⟩
              | exact ⟨_, rfl, K, (unhide HD).own, by omega, unhide HZ, unhide HS, unhide HG⟩
      · have e3 : ((q : Int) == 3) = false := by simp; omega
        go_wp2
        go_ret
        exact ⟨_, L, rfl, (unhide D2).own, by omega, unhide HL, unhide HS2, unhide HG2⟩
end Go.Proofs.YtjcgchmncgihbaaDoor.Dr
/- What FnFewest draws: some words, and some text. -/
namespace Go.Proofs.YtjcgchmncgihbaaDoor.Dr
open Go.RowKit Go.Shelf
open Fw (region_inv)
set_option linter.unusedVariables false
set_option linter.unusedSimpArgs false
attribute [local go_sem] Oper.semAt_some
set_option maxRecDepth 100000 in
set_option maxHeartbeats 8000000 in
theorem drawF_in (w : World) (a : Option Addr) (len cap : Nat) (hl : len ≤ 1048576) (hc : CodeIn w a len) :
    CallsIn Fence.wide 5 Tryd.prog 4 #[.slice a len cap] w fun e w' => ∃ v L t, e = .returned (.tuple #[v, .string t]) ∧ StrsAt w' v L ∧ L.length ≤ 2000 ∧ (∀ i, i < L.length → (nthS L i).size ≤ 4000) ∧ t.size ≤ 4000 ∧ Below w.heap.size w w' := by
  have mixed : Tryd.prog.follows Departure.mixedOrders = true := by kernel_rfl
  have SC := (callsIn_wide (n := 4)).2 (source_any w a len cap hl hc)
  refine callsIn_of_wp Tryd.func4 rfl trivial ?_ rfl
  simp only [Tryd.ntmps4, List.size_toArray, List.length_cons, List.length_nil, Nat.reduceAdd, Nat.reduceSub, Array.replicate_succ, Array.replicate_zero, List.push_toArray, List.append_toArray, List.nil_append, List.cons_append]
  gi_wp2_with (refine ⟨trivial, ?_⟩; gi_at_call 11; refine SC.mono ?_; rintro e w1 ⟨rfl, size, z0, z1, hs, hb, hlt⟩)
  refine region_inv mixed (fun l ac w' => ∃ (b0 b1 b2 b3 b4 b5 b6 b7 b8 b9 b10 b11 b12 : Bool) (v : Value) (L : List ByteArray) (r : Nat) (t : ByteArray), l = #[b0, b1, b2, b3, b4, b5, b6, b7, b8, b9, b10, b11, b12] ∧ ac = { tmps := #[.slice a len cap, undef, (bif b11 then v else .slice none 0 0), (bif b12 then .string t else .string ⟨#[]⟩), .pointer (some ⟨w.heap.size, 0, none⟩), .slice a len cap, .pointer (some ⟨w.heap.size, 0, none⟩), (bif b0 then .pointer (some ⟨w.heap.size, 0, none⟩) else undef), (bif b1 then v else undef), (bif b2 then .pointer (some ⟨w.heap.size, 0, none⟩) else undef), (bif b3 then .pointer (some ⟨w.heap.size, 0, none⟩) else undef), (bif b4 then .pointer (some ⟨w.heap.size, 0, none⟩) else undef), (bif b5 then .pointer (some ⟨w.heap.size, 0, none⟩) else undef), (bif b6 then .pointer (some ⟨w.heap.size, 3, none⟩) else undef), (bif b7 then .int .i64 size else undef), (bif b8 then .int .i64 (12 + size) else undef), (bif b9 then .int .i64 (r : Int) else undef), (bif b10 then .string t else undef)], defers := [] } ∧ SrcAt w' w.heap.size a len cap size ∧ Below w.heap.size w w' ∧ (b1 = true → w'.ownsRow (w.heap.size + 1) 9 1 v L.length (L.map Value.string) ∧ L.length ≤ 2000 ∧ ∀ i, i < L.length → (nthS L i).size ≤ 4000) ∧ (b9 = true → (r : Int) < 12 + size) ∧ (b10 = true → t.size ≤ 4000) ∧ (b11 = true → b1 = true) ∧ (b12 = true → b10 = true)) (by kernel_rfl) (by rintro l ac w' ⟨_, _, _, _, _, _, _, _, _, _, _, _, _, _, _, _, _, rfl, _⟩; rfl) ?first ?step ?last
  case first => exact ⟨false, false, false, false, false, false, false, false, false, false, false, false, false, .slice none 0 0, [], 0, ⟨#[]⟩, rfl, rfl, hs, bdrew hb 1, (fun e => by cases e), (fun e => by cases e), (fun e => by cases e), (fun e => by cases e), (fun e => by cases e)⟩
  case step =>
    rintro ii l ac w' ⟨b0, b1, b2, b3, b4, b5, b6, b7, b8, b9, b10, b11, b12, v, L, r, t, rfl, rfl, hS, hB, h1, h9, h10, h11, h12⟩ hr
    have hr := mem_ready.1 hr
    have hww : IntKind.i64.wrap (12 + size) = 12 + size := by simp [IntKind.wrap, IntKind.bits, IntKind.signed]; omega
    rcases ii with _ | _ | _ | _ | _ | _ | _ | _ | _ | _ | _ | _ | _ | ii
    · simp [Region.binds] at hr
      repeat (rcases hr with ⟨hq, hr⟩)
      subst_vars
      refine wpOpIn_step rfl (fun K hK => ?_)
      go_simp
      refine hK _ _ ⟨true, _, _, _, _, _, _, _, _, _, _, _, _, v, L, r, t, rfl, rfl, hS, hB, h1, h9, h10, h11, h12⟩
    · simp [Region.binds] at hr
      repeat (rcases hr with ⟨hq, hr⟩)
      subst_vars
      refine wpOpIn_step rfl (fun K hK => ?_)
      go_simp
      refine ⟨trivial, ?_⟩
      gi_at_call 12
      refine ((callsIn_wide (n := 4)).2 (dict_any _ w.heap.size a len cap size hl hS)).mono ?_
      rintro e w2 ⟨v2, L2, rfl, ho2, hl2, hz2, hs2, hg2⟩
      have hsl := src_lt hS
      have hd2 := low_own (B := w.heap.size + 1) ho2 hsl
      have hb2 := hB.grown hg2 hB.size (fun k hk => by simp at hk; omega)
      obtain rfl : b11 = false := by cases b11 with | false => rfl | true => exact absurd (h11 rfl) (by simp)
      refine hK _ _ ⟨_, true, _, _, _, _, _, _, _, _, _, _, _, v2, L2, r, t, rfl, rfl, hs2, hb2, (fun _ => ⟨hd2, hl2, hz2⟩), h9, h10, (fun _ => rfl), h12⟩
    · simp [Region.binds] at hr
      repeat (rcases hr with ⟨hq, hr⟩)
      subst_vars
      refine wpOpIn_step rfl (fun K hK => ?_)
      go_simp
      refine hK _ _ ⟨_, _, true, _, _, _, _, _, _, _, _, _, _, v, L, r, t, rfl, rfl, hS, hB, h1, h9, h10, h11, h12⟩
    · simp [Region.binds] at hr
      repeat (rcases hr with ⟨hq, hr⟩)
      subst_vars
      refine wpOpIn_step rfl (fun K hK => ?_)
      go_simp
      refine hK _ _ ⟨_, _, _, true, _, _, _, _, _, _, _, _, _, v, L, r, t, rfl, rfl, hS, hB, h1, h9, h10, h11, h12⟩
    · simp [Region.binds] at hr
      repeat (rcases hr with ⟨hq, hr⟩)
      subst_vars
      refine wpOpIn_step rfl (fun K hK => ?_)
      go_simp
      refine hK _ _ ⟨_, _, _, _, true, _, _, _, _, _, _, _, _, v, L, r, t, rfl, rfl, hS, hB, h1, h9, h10, h11, h12⟩
    · simp [Region.binds] at hr
      repeat (rcases hr with ⟨hq, hr⟩)
      subst_vars
      refine wpOpIn_step rfl (fun K hK => ?_)
      go_simp
      refine hK _ _ ⟨_, _, _, _, _, true, _, _, _, _, _, _, _, v, L, r, t, rfl, rfl, hS, hB, h1, h9, h10, h11, h12⟩
    · simp [Region.binds] at hr
      repeat (rcases hr with ⟨hq, hr⟩)
      subst_vars
      refine wpOpIn_step rfl (fun K hK => ?_)
      go_simp
      refine hK _ _ ⟨_, _, _, _, _, _, true, _, _, _, _, _, _, v, L, r, t, rfl, rfl, hS, hB, h1, h9, h10, h11, h12⟩
    · simp [Region.binds] at hr
      repeat (rcases hr with ⟨hq, hr⟩)
      subst_vars
      have hS' := hS
      obtain ⟨_, pp, mm, _, _, hh⟩ := hS'
      have k3 := (src_cells hh).2.2.2.1
      refine wpOpIn_step rfl (fun K hK => ?_)
      go_simp
      refine hK _ _ ⟨_, _, _, _, _, _, _, true, _, _, _, _, _, v, L, r, t, rfl, rfl, hS, hB, h1, h9, h10, h11, h12⟩
    · simp [Region.binds] at hr
      repeat (rcases hr with ⟨hq, hr⟩)
      subst_vars
      refine wpOpIn_step rfl (fun K hK => ?_)
      go_simp
      refine hK _ _ ⟨_, _, _, _, _, _, _, _, true, _, _, _, _, v, L, r, t, rfl, rfl, hS, hB, h1, h9, h10, h11, h12⟩
    · simp [Region.binds] at hr
      repeat (rcases hr with ⟨hq, hr⟩)
      subst_vars
      refine wpOpIn_step rfl (fun K hK => ?_)
      go_simp
      refine ⟨trivial, ?_⟩
      gi_at_call 14
      refine ((callsIn_wide (n := 4)).2 (n_nat _ w.heap.size a len cap size (12 + size) (by omega) (by omega) hl hS)).mono ?_
      rintro e w2 ⟨r2, rfl, hr2, hs2, hg2⟩
      have hb2 := hB.grown hg2 hB.size (fun k hk => by simp at hk; omega)
      refine hK _ _ ⟨_, _, _, _, _, _, _, _, _, true, _, _, _, v, L, r2, t, rfl, rfl, hs2, hb2, (fun e => ⟨(h1 e).1.kept hg2 (.inr (fun x => by have := ((h1 e).1.lt _ x).1; omega)), (h1 e).2⟩), (fun _ => hr2), h10, h11, h12⟩
    · simp [Region.binds] at hr
      repeat (rcases hr with ⟨hq, hr⟩)
      subst_vars
      refine wpOpIn_step rfl (fun K hK => ?_)
      go_simp
      refine ⟨trivial, ?_⟩
      gi_at_call 13
      have hrr := h9 rfl
      refine ((callsIn_wide (n := 4)).2 (run_any _ w.heap.size a len cap r size hl (by omega) hS)).mono ?_
      rintro e w2 ⟨t2, rfl, ht2, hs2, hg2⟩
      have hb2 := hB.grown hg2 hB.size (fun k hk => by simp at hk; omega)
      obtain rfl : b12 = false := by cases b12 with | false => rfl | true => exact absurd (h12 rfl) (by simp)
      refine hK _ _ ⟨_, _, _, _, _, _, _, _, _, _, true, _, _, v, L, r, t2, rfl, rfl, hs2, hb2, (fun e => ⟨(h1 e).1.kept hg2 (.inr (fun x => by have := ((h1 e).1.lt _ x).1; omega)), (h1 e).2⟩), h9, (fun _ => ht2), h11, (fun _ => rfl)⟩
    · simp [Region.binds] at hr
      repeat (rcases hr with ⟨hq, hr⟩)
      subst_vars
      refine wpOpIn_step rfl (fun K hK => ?_)
      go_simp
      refine hK _ _ ⟨_, _, _, _, _, _, _, _, _, _, _, true, _, v, L, r, t, rfl, rfl, hS, hB, h1, h9, h10, (fun _ => rfl), h12⟩
    · simp [Region.binds] at hr
      repeat (rcases hr with ⟨hq, hr⟩)
      subst_vars
      refine wpOpIn_step rfl (fun K hK => ?_)
      go_simp
      refine hK _ _ ⟨_, _, _, _, _, _, _, _, _, _, _, _, true, v, L, r, t, rfl, rfl, hS, hB, h1, h9, h10, h11, (fun _ => rfl)⟩
    · simp at hr
  case last =>
    rintro ac W4 ⟨f0, f1, f2, f3, f4, f5, f6, f7, f8, f9, f10, f11, f12, v, L, r, t, hl2, rfl, hS, hB, h1, h9, h10, h11, h12⟩
    have hl2 := congrArg Array.toList hl2
    simp at hl2
    repeat (rcases hl2 with ⟨hq, hl2⟩)
    subst_vars
    obtain ⟨q1, q2, q3⟩ := h1 rfl
    have q4 := h10 rfl
    simp only [cond_true]
    gi_wp2
    refine bodyPost_ret (by simp [results, Tryd.results4, go_sem]; try rfl) rfl ?_
    exact ⟨v, L, t, rfl, StrsAt.owned q1, q2, q3, q4, hB⟩
end Go.Proofs.YtjcgchmncgihbaaDoor.Dr
