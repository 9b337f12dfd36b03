/- The draws of FnHyphens: a word, patterns; rows and a gap. -/
import Derived.Test.YtcdhaikmedicfaaGreatDoorDR
import Derived.Test.YtcdhaikmedicfaaGreatDoorStrD
import Derived.Test.YtcdhaikmedicfaaGreatDoorChsI
namespace Go.Proofs.YtcdhaikmedicfaaGreatDoor.Dr
open Go.RowKit
set_option linter.unusedVariables false
set_option linter.unusedSimpArgs false
def lsB (a b : ByteArray) : Bool := Op.bytesLess a.toList b.toList
theorem low_own {w : World} {B B2 n : Nat} {e : TypeId} {v : Value} {xs : List Value} (h : w.ownsRow B2 e 1 v n xs) (hb : B ≤ B2) : w.ownsRow B e 1 v n xs := by
  refine ⟨h.1, ?_⟩
  rcases h.2 with h' | ⟨g, cap, cur, hv, hg, r⟩
  · exact .inl h'
  · exact .inr ⟨g, cap, cur, hv, Nat.le_trans hb hg, r⟩
theorem gr_al {w wr : World} {src : Nat} (h : w.grownBy wr (some src)) (o : Obj) : w.grownBy (wr.alloc o) (some src) := grown_bel h (al1 wr o)
theorem gr_to {w wr w3 : World} {src : Nat} {row : Option Nat} (h : w.grownBy wr (some src)) (hg : wr.grownBy w3 row) (hr : ∀ k, row = some k → w.heap.size ≤ k) : w.grownBy w3 (some src) ∧ ∀ k, k < w.heap.size → w3.heap[k]? = wr.heap[k]? := by
  have hk : ∀ k, k < w.heap.size → w3.heap[k]? = wr.heap[k]? := fun k hk => hg.block k (Nat.lt_of_lt_of_le hk h.size) (fun e => by have := hr k e.symm; omega)
  exact ⟨⟨hg.os.trans h.os, hg.tape.trans h.tape, hg.output.trans h.output, Nat.le_trans h.size hg.size, fun k hkw hne => (hk k hkw).trans (h.block k hkw hne)⟩, hk⟩
/-- A row of texts of one's own that is no nil. -/
structure Dc (B : Nat) (w : World) (v : Value) (L : List ByteArray) : Prop where
  own : w.ownsRow B 9 1 v L.length (L.map Value.string)
  form : ∃ g cap, v = .slice (some ⟨g, 0, none⟩) L.length cap ∧ B ≤ g ∧ g < w.heap.size ∧ L.length ≤ cap ∧ cap ≤ maxLen
theorem Dc.of {B : Nat} {w : World} {v : Value} {L : List ByteArray} (h : w.ownsRow B 9 1 v L.length (L.map Value.string)) (hn : v ≠ .slice none 0 0) : Dc B w v L := by
  refine ⟨h, ?_⟩
  rcases h.2 with ⟨hv, _⟩ | ⟨g, cap, cur, hv, hg, hh, hn', hm, hs, ht⟩
  · exact absurd hv hn
  · exact ⟨g, cap, hv, hg, (Array.getElem?_eq_some_iff.1 hh).1, hn', hm⟩
theorem Dc.kept {B : Nat} {w w' : World} {v : Value} {L : List ByteArray} (h : Dc B w v L) {row : Option Nat} (hg : w.grownBy w' row) (hne : ∀ k, v.ownBlock = some k → row ≠ some k) : Dc B w' v L := by
  obtain ⟨g, cap, hv, h1, h2, h3, h4⟩ := h.form
  refine ⟨h.own.kept hg ?_, g, cap, hv, h1, Nat.lt_of_lt_of_le h2 hg.size, h3, h4⟩
  cases e : row with
  | none => exact .inr (fun x => by rw [hv] at x; cases x)
  | some k => exact .inr (fun x => hne k x e)
theorem Dc.below {B : Nat} {w w' : World} {v : Value} {L : List ByteArray} (h : Dc B w v L) (hb : Below w.heap.size w w') : Dc B w' v L := by
  obtain ⟨g, cap, hv, h1, h2, h3, h4⟩ := h.form
  exact ⟨ownsRow_below h.own hb, g, cap, hv, h1, Nat.lt_of_lt_of_le h2 hb.size, h3, h4⟩
theorem row_cells {B : Nat} {w : World} {v : Value} {L : List ByteArray} {g cap : Nat} (h : w.ownsRow B 9 1 v L.length (L.map Value.string)) (hv : v = .slice (some ⟨g, 0, none⟩) L.length cap) {j : Nat} (hj : j < L.length) : w.cell? ⟨g, j, none⟩ = some (.string (nthS L j)) := by
  subst hv
  have hc := h.cellAt j (by omega)
  rw [hc, List.getElem?_map]
  simp [nthS, List.getD, hj]
theorem add_at (g o j : Nat) : (⟨g, o, none⟩ : Addr).add j = ⟨g, o + j, none⟩ := by unfold Addr.add; split <;> simp_all
/-- Cells of a row from place o on. -/
theorem sub_cells {B : Nat} {w W : World} {v : Value} {L : List ByteArray} {g cap : Nat} (h : w.ownsRow B 9 1 v L.length (L.map Value.string)) (hv : v = .slice (some ⟨g, 0, none⟩) L.length cap) (hW : W.heap[g]? = w.heap[g]?) (o m : Nat) (hom : o + m ≤ L.length) :
    ∀ j u, (((L.drop o).take m).map Value.string)[j]? = some u → W.cell? ((⟨g, o, none⟩ : Addr).add j) = some u := by
  intro j u hj
  have hjm : j < m := by
    have := (List.getElem?_eq_some_iff.1 hj).1
    rw [List.length_map, List.length_take] at this
    omega
  rw [add_at, World.cell?_of_block (a := ⟨g, o + j, none⟩) hW, row_cells h hv (by omega)]
  rw [List.getElem?_map, List.getElem?_take, if_pos hjm, List.getElem?_drop, List.getElem?_eq_getElem (by omega)] at hj
  rw [← hj]
  simp [nthS, List.getD, show o + j < L.length by omega]
theorem sub_one (l : List ByteArray) : ∀ u ∈ l.map Value.string, u.oneCell' = true := by
  intro u hu
  obtain ⟨y, _, rfl⟩ := List.mem_map.1 hu
  rfl
theorem own_cnt {w : World} {B n : Nat} {e : TypeId} {v : Value} {xs : List Value} (h : w.ownsRow B e 1 v n xs) : w.ownsRow B e 1 v xs.length xs := by
  have h1 : xs.length = n := by have := h.1; omega
  rw [h1]
  exact h
theorem put_size {L : List ByteArray} {x : ByteArray} {t : Nat} (ht : t ≤ L.length) (h : ∀ i, i < L.length → (nthS L i).size ≤ 100) (hx : x.size ≤ 100) : ∀ i, i < (L.take t ++ [x] ++ L.drop t).length → (nthS (L.take t ++ [x] ++ L.drop t) i).size ≤ 100 := by
  have key : ∀ y ∈ L.take t ++ [x] ++ L.drop t, y.size ≤ 100 := fun y hy => by
    have hL : ∀ z ∈ L, z.size ≤ 100 := fun z hz => by
      obtain ⟨k, hk, rfl⟩ := mem_of_nthS hz
      exact h k hk
    rw [List.mem_append, List.mem_append] at hy
    rcases hy with (hy | hy) | hy
    · exact hL y (List.mem_of_mem_take hy)
    · obtain rfl : y = x := by simpa using hy
      exact hx
    · exact hL y (List.mem_of_mem_drop hy)
  intro i hi
  refine key _ ?_
  unfold nthS
  rw [List.getD_eq_getElem?_getD, List.getElem?_eq_getElem hi]
  exact List.getElem_mem hi
theorem more_size {L M : List ByteArray} (h : ∀ i, i < L.length → (nthS L i).size ≤ 100) (h2 : ∀ x ∈ M, x.size ≤ 100) : (∀ i, i < (L ++ M).length → (nthS (L ++ M) i).size ≤ 100) ∧ ∀ i, i < (M ++ L).length → (nthS (M ++ L) i).size ≤ 100 := by
  have hL : ∀ z ∈ L, z.size ≤ 100 := fun z hz => by
    obtain ⟨k, hk, rfl⟩ := mem_of_nthS hz
    exact h k hk
  have at_ : ∀ (K : List ByteArray), (∀ z ∈ K, z.size ≤ 100) → ∀ i, i < K.length → (nthS K i).size ≤ 100 := fun K hK i hi => by
    refine hK _ ?_
    unfold nthS
    rw [List.getD_eq_getElem?_getD, List.getElem?_eq_getElem hi]
    exact List.getElem_mem hi
  exact ⟨at_ _ (fun z hz => (List.mem_append.1 hz).elim (hL z) (h2 z)), at_ _ (fun z hz => (List.mem_append.1 hz).elim (h2 z) (hL z))⟩
theorem lit_cells (w : World) (A : Array Value) (n m : Nat) (hA : ∀ i, i < n → ∃ t : ByteArray, A[i]? = some (.string t) ∧ t.size ≤ m) : ∀ i, i < n → ∃ t : ByteArray, (w.alloc (.cells A 9)).cell? ⟨w.heap.size, i, none⟩ = some (.string t) ∧ t.size ≤ m := by
  intro i hi
  obtain ⟨t, h1, h2⟩ := hA i hi
  have hn : (w.alloc (.cells A 9)).heap[w.heap.size]? = some (.cells A 9 (0, 0)) := by unfold World.alloc; exact Array.getElem?_push_size
  exact ⟨t, by simp only [World.cell?, hn]; simp [h1], h2⟩
set_option maxRecDepth 100000 in
set_option maxHeartbeats 4000000 in
theorem word_any (w : World) (src : Nat) (a : Option Addr) (len cap : Nat) (size : Int) (n : Nat) (hn : n ≤ 10) (hl : len ≤ 1048576) (h : SrcAt w src a len cap size) :
    Calls Tryz.prog 13 #[.pointer (some ⟨src, 0, none⟩), .int .i64 (n : Int)] w fun e w' => ∃ t : ByteArray, e = .returned (.string t) ∧ t.size ≤ 30 ∧ SrcAt w' src a len cap size ∧ w.grownBy w' (some src) := by
  have S0 := hide h
  have G0 := hide (grown_refl w (some src))
  clear h
  go_enter Tryz.func13, Tryz.ntmps13
  go_wp2_with fail
  go_loopw [1, 5] (fun nv tv wr => ∃ (k : Nat) (t : ByteArray), nv = .int .i64 (k : Int) ∧ tv = .string t ∧ t.size + 3 * k ≤ 30 ∧ Hid (SrcAt wr src a len cap size) ∧ Hid (w.grownBy wr (some src))) (fun nv _ _ => (intOf nv).toNat)
  case atStart => exact ⟨n, ⟨#[]⟩, rfl, rfl, by show 0 + 3 * n ≤ 30; omega, S0, G0⟩
  case round =>
    obtain ⟨k, t, rfl, rfl, hsz, HS, HG⟩ := hrel
    clear S0 G0
    by_cases hk : 0 < k
    · have hk' : (0 : Int) < (k : Int) := by omega
      have hlt := src_lt (unhide HS)
      have HSA := hide (src_alloc (unhide HS) (.cells #[.string ⟨#[97]⟩, .string ⟨#[98]⟩, .string ⟨#[99]⟩, .string ⟨#[97, 98]⟩, .string ⟨#[97, 98, 99]⟩, .string ⟨#[98, 99]⟩] 9))
      have HGA := hide (grown_trans (unhide HG) (grown_alloc wr (.cells #[.string ⟨#[97]⟩, .string ⟨#[98]⟩, .string ⟨#[99]⟩, .string ⟨#[97, 98]⟩, .string ⟨#[97, 98, 99]⟩, .string ⟨#[98, 99]⟩] 9) (some src)))
      have HLT := hide (lit_cells wr #[.string ⟨#[97]⟩, .string ⟨#[98]⟩, .string ⟨#[99]⟩, .string ⟨#[97, 98]⟩, .string ⟨#[97, 98, 99]⟩, .string ⟨#[98, 99]⟩] 6 3 (fun i hi => by
            have hi' : i = 0 ∨ i = 1 ∨ i = 2 ∨ i = 3 ∨ i = 4 ∨ i = 5 := by omega
            rcases hi' with rfl | rfl | rfl | rfl | rfl | rfl <;> exact ⟨_, rfl, by decide⟩))
      go_wp2_with (go_at_call 26; refine (pickN_any _ src a len cap size wr.heap.size 6 6 3 (by omega) (by omega) hl (unhide HSA) (by simp) (by omega) (unhide HLT)).mono ?_; rintro e w6 ⟨u, rfl, hu, hs, hg⟩; have HAD := fun W => run_string_add_sum (P := Tryz.prog) (w := W) t u (by omega); have S6 := hide hs; have G6 := hide (grown_trans (unhide HGA) hg); clear hs hg)
      have hsz2 : (t ++ u).size + 3 * (k - 1) ≤ 30 := by rw [ByteArray.size_append]; omega
      go_roundw
      case rel => exact ⟨k - 1, t ++ u, by go_num, rfl, hsz2, S6, G6⟩
      case measure => simp [intOf]; omega
    · obtain rfl : k = 0 := by omega
      have hk' : ¬ (0 : Int) < ((0 : Nat) : Int) := by omega
      go_wp2_with fail
      go_ret
      exact ⟨t, rfl, by omega, unhide HS, unhide HG⟩
set_option maxRecDepth 100000 in
set_option maxHeartbeats 8000000 in
theorem pats_any (w : World) (src : Nat) (a : Option Addr) (len cap : Nat) (size : Int) (hl : len ≤ 1048576) (h : SrcAt w src a len cap size) :
    Calls Tryz.prog 17 #[.pointer (some ⟨src, 0, none⟩)] w fun e w' => ∃ v L, e = .returned v ∧ w'.ownsRow w.heap.size 9 1 v L.length (L.map Value.string) ∧ L.length ≤ 20 ∧ (∀ i, i < L.length → (nthS L i).size ≤ 100) ∧ SrcAt w' src a len cap size ∧ w.grownBy w' (some src) := by
  obtain ⟨i0, hi, hz0, hz1, hz2⟩ := info_parts info9
  have hsrc := src_lt h
  have HA := hide (aIn_of h)
  have D0 : Hid (Dc w.heap.size (w.alloc (.cells #[] 9)) (.slice (some ⟨w.heap.size, 0, none⟩) 0 0) []) := hide (Dc.of (World.ownsRow_lit w #[] 0 (Nat.le_refl _) (by unfold maxLen; omega) rfl) (by simp))
  have HS0 := hide (src_alloc h (.cells #[] 9))
  have HG0 := hide (grown_alloc w (.cells #[] 9) (some src))
  clear h
  go_enter Tryz.func17, Tryz.ntmps17
  go_upto_region 3 with (go_at_call 14; refine (n_nat _ src a len cap size 6 (by omega) (by omega) hl (unhide HS0)).mono ?_; rintro e w1 ⟨r, rfl, hr1, hs1, hg1⟩; have HS1 := hide hs1; have HG1 := hide (grown_trans (unhide HG0) hg1); have D1 := hide ((unhide D0).kept hg1 (fun k e x => by cases x; have := ((unhide D0).own.lt _ e).1; omega)); clear hs1 hg1)
  clear D0 HS0 HG0
  go_wp2
  go_loopw [3, 4] (fun v x wr => ∃ (k : Nat) (L : List ByteArray), x = .int .i64 (k : Int) ∧ k + L.length ≤ 6 ∧ Hid (Dc w.heap.size wr v L) ∧ Hid (∀ i, i < L.length → (nthS L i).size ≤ 100) ∧ Hid (SrcAt wr src a len cap size) ∧ Hid (w.grownBy wr (some src))) (fun _ x _ => (intOf x).toNat)
  case atStart => exact ⟨r, [], rfl, by simp; omega, D1, hide (fun i hi => by simp at hi), HS1, HG1⟩
  case round =>
    obtain ⟨k, L, rfl, hkL, HD, HL, HS, HG⟩ := hrel
    clear D1 HS1 HG1
    by_cases hk : 0 < k
    · have hk' : (0 : Int) < (k : Int) := by omega
      have hlt := src_lt (unhide HS)
      have HSA := hide (src_alloc (unhide HS) (.cells #[.string ⟨#[97, 49, 98]⟩, .string ⟨#[49, 98]⟩, .string ⟨#[98, 50, 99]⟩, .string ⟨#[97, 49]⟩, .string ⟨#[51, 97, 98]⟩, .string ⟨#[46, 97, 49, 98]⟩, .string ⟨#[98, 49, 99, 46]⟩, .string ⟨#[99, 49, 97]⟩, .string ⟨#[50, 97, 49]⟩, .string ⟨#[97, 98, 49, 97, 98]⟩, .string ⟨#[97, 50, 98, 49, 99]⟩] 9))
      have HGA := hide (grown_trans (unhide HG) (grown_alloc wr (.cells #[.string ⟨#[97, 49, 98]⟩, .string ⟨#[49, 98]⟩, .string ⟨#[98, 50, 99]⟩, .string ⟨#[97, 49]⟩, .string ⟨#[51, 97, 98]⟩, .string ⟨#[46, 97, 49, 98]⟩, .string ⟨#[98, 49, 99, 46]⟩, .string ⟨#[99, 49, 97]⟩, .string ⟨#[50, 97, 49]⟩, .string ⟨#[97, 98, 49, 97, 98]⟩, .string ⟨#[97, 50, 98, 49, 99]⟩] 9) (some src)))
      have HDA := hide ((unhide HD).below (al1 wr (.cells #[.string ⟨#[97, 49, 98]⟩, .string ⟨#[49, 98]⟩, .string ⟨#[98, 50, 99]⟩, .string ⟨#[97, 49]⟩, .string ⟨#[51, 97, 98]⟩, .string ⟨#[46, 97, 49, 98]⟩, .string ⟨#[98, 49, 99, 46]⟩, .string ⟨#[99, 49, 97]⟩, .string ⟨#[50, 97, 49]⟩, .string ⟨#[97, 98, 49, 97, 98]⟩, .string ⟨#[97, 50, 98, 49, 99]⟩] 9)))
      have HLT := hide (lit_cells wr #[.string ⟨#[97, 49, 98]⟩, .string ⟨#[49, 98]⟩, .string ⟨#[98, 50, 99]⟩, .string ⟨#[97, 49]⟩, .string ⟨#[51, 97, 98]⟩, .string ⟨#[46, 97, 49, 98]⟩, .string ⟨#[98, 49, 99, 46]⟩, .string ⟨#[99, 49, 97]⟩, .string ⟨#[50, 97, 49]⟩, .string ⟨#[97, 98, 49, 97, 98]⟩, .string ⟨#[97, 50, 98, 49, 99]⟩] 11 5 (fun i hi => by
            have hi' : i = 0 ∨ i = 1 ∨ i = 2 ∨ i = 3 ∨ i = 4 ∨ i = 5 ∨ i = 6 ∨ i = 7 ∨ i = 8 ∨ i = 9 ∨ i = 10 := by omega
            rcases hi' with rfl | rfl | rfl | rfl | rfl | rfl | rfl | rfl | rfl | rfl | rfl <;> exact ⟨_, rfl, by decide⟩))
      go_wp2_with (go_at_call 26; refine (pickN_any _ src a len cap size wr.heap.size 11 11 5 (by omega) (by omega) hl (unhide HSA) (by simp) (by omega) (unhide HLT)).mono ?_; rintro e w6 ⟨x, rfl, hu, hs, hg⟩; have S6 := hide hs; have G6 := hide (grown_trans (unhide HGA) hg); have D6 := hide ((unhide HDA).kept hg (fun k e x => by cases x; have := ((unhide HDA).own.lt _ e).1; omega)); clear hs hg)
      clear HSA HGA HDA HLT HS HG HD hlt
      have hx16 : x.size ≤ 16 := by omega
      go_loopw [6] (fun tv wx => ∃ t : Nat, tv = .int .i64 (t : Int) ∧ t ≤ L.length ∧ wx = w6) (fun tv _ => L.length - (intOf tv).toNat)
      case atStart => exact ⟨0, rfl, Nat.zero_le _, rfl⟩
      case round =>
        have HS := S6
        have HG := G6
        have HD := D6
        clear S6 G6 D6
        obtain ⟨t, rfl, ht, hwx⟩ := hrel
        subst hwx
        obtain ⟨g, cp, hu3, hg1, hg2, hg3, hg4⟩ := (unhide HD).form
        subst hu3
        by_cases htl : t < L.length
        · have htl' : (t : Int) < (L.length : Int) := by omega
          have htd : decide ((t : Int) < (L.length : Int)) = true := by simpa using htl'
          have kt := row_cells (unhide HD).own rfl htl
          obtain ⟨y, hy⟩ : ∃ y, nthS L t = y := ⟨_, rfl⟩
          rw [hy] at kt
          have hL : Op.bytesLess y.toList x.toList = lsB y x := rfl
          generalize lsB y x = D at *
          cases D
          · cases hE : (y.toList == x.toList)
            · go_upto_region 10 with fail
              go_upto_region 11 with (at_builtin; refine wpList_append_own _ rfl _ _ 23 rfl wr.heap.size 9 i0 (.string ⟨#[]⟩) 1 16 Tryz.underlying23 hi hz0 hz1 hz2 rfl (by decide) _ _ _ rfl (World.ownsRow_lit wr #[] 0 (Nat.le_refl _) (by unfold maxLen; omega) rfl) ⟨g, 0, none⟩ t _ (((L.drop 0).take t).map Value.string) rfl (by rw [List.length_map, List.length_take, List.drop_zero]; omega) (sub_cells (unhide HD).own rfl (Below.heap_alloc wr _ g hg2) 0 t (by omega)) (sub_one _) (by unfold maxLen; omega) (by omega) (by simp) ?_; intro v1 w1 ho1 hgr1 hn1)
              have hz1w := hgr1.size
              have e1 : ∀ k, k < wr.heap.size → w1.heap[k]? = wr.heap[k]? := fun k hk => (hgr1.block k (by simp; omega) (fun e => by cases e; exact absurd hk (Nat.lt_irrefl _))).trans (Below.heap_alloc wr _ k hk)
              have G1 := hide (gr_to (gr_al (unhide HG) _) hgr1 (fun k e => by cases e; exact (unhide HG).size)).1
              have O1 := hide ho1
              have hv1 : v1 ≠ .slice none 0 0 := fun e => by have := (hn1.1 e).1; cases this
              simp at hz1w
              clear hgr1 ho1 hn1
              go_upto_region 12 with (at_builtin; refine wpList_append_own _ rfl _ _ 23 rfl wr.heap.size 9 i0 (.string ⟨#[]⟩) 1 16 Tryz.underlying23 hi hz0 hz1 hz2 rfl (by decide) _ _ _ rfl (ownG_alloc (unhide O1) _) ⟨w1.heap.size, 0, none⟩ 1 1 [.string x] rfl rfl (cell_one_new _ _ _) (by intro u hu; simp at hu; subst hu; rfl) (by unfold maxLen; omega) (by omega) (by simp; omega) ?_; intro v2 w2 ho2 hgr2 hn2)
              have hz2w := hgr2.size
              have e2 : ∀ k, k < wr.heap.size → w2.heap[k]? = w1.heap[k]? := fun k hk => (hgr2.block k (by simp; omega) (fun e => by have := ((unhide O1).lt k e.symm).1; omega)).trans (Below.heap_alloc w1 _ k (by omega))
              have G2 := hide (gr_to (gr_al (unhide G1) _) hgr2 (fun k e => by have := ((unhide O1).lt k e).1; have := (unhide HG).size; omega)).1
              have O2 := hide ho2
              have hv2 : v2 ≠ .slice none 0 0 := fun e => by have := (hn2.1 e).2; omega
              simp at hz2w
              clear hgr2 ho2 hn2
              go_wp2_with (at_builtin; refine wpList_append_own _ rfl _ _ 23 rfl wr.heap.size 9 i0 (.string ⟨#[]⟩) 1 16 Tryz.underlying23 hi hz0 hz1 hz2 rfl (by decide) _ _ _ rfl (unhide O2) ⟨g, t, none⟩ (L.length - t) _ (((L.drop t).take (L.length - t)).map Value.string) rfl (by rw [List.length_map, List.length_take, List.length_drop]; omega) (sub_cells (unhide HD).own rfl ((e2 g hg2).trans (e1 g hg2)) t (L.length - t) (by omega)) (sub_one _) (by unfold maxLen; omega) (by omega) (by omega) ?_; intro v3 w3 ho3 hgr3 hn3; have O3 := hide ho3; have R3 := hide hgr3; have N3 := hide hn3; clear ho3 hgr3 hn3)
              have hv3 : v3 ≠ .slice none 0 0 := fun e => hv2 ((unhide N3).1 e).1
              have hz3w := (unhide R3).size
              have e3 : ∀ k, k < wr.heap.size → w3.heap[k]? = w2.heap[k]? := fun k hk => (unhide R3).block k (by omega) (fun e => by have := ((unhide O2).lt k e.symm).1; omega)
              have G3 := hide (gr_to (unhide G2) (unhide R3) (fun k e => by have := ((unhide O2).lt k e).1; have := (unhide HG).size; omega)).1
              have S3 := hide (src_move (unhide HS) (unhide HA) hsrc (by omega) (fun k hk => by have := (unhide HG).size; exact (e3 k (by omega)).trans ((e2 k (by omega)).trans (e1 k (by omega)))) : SrcAt w3 src a len cap size)
              have Z3 := hide (put_size ht (unhide HL) (show x.size ≤ 100 by omega))
              have hlen3 : (L.take t ++ [x] ++ L.drop t).length = L.length + 1 := by simp; omega
              have D3 : Hid (Dc w.heap.size w3 v3 (L.take t ++ [x] ++ L.drop t)) := hide (Dc.of (low_own (by
                have h := unhide O3
                rw [hlen3, List.map_append, List.map_append]
                rw [List.nil_append, List.drop_zero, show 0 + t + 1 + (L.length - t) = L.length + 1 by omega, List.take_of_length_le (show (L.drop t).length ≤ L.length - t by simp)] at h
                exact h) (unhide HG).size) hv3)
              go_roundw
              case rel => exact ⟨k - 1, L.take t ++ [x] ++ L.drop t, by go_num, by rw [hlen3]; omega, D3, Z3, S3, G3⟩
              case measure => simp [intOf]; omega
            · go_wp2
              go_roundw
              case rel => exact ⟨k - 1, L, by go_num, by omega, HD, HL, HS, HG⟩
              case measure => simp [intOf]; omega
          · go_wp2
            go_roundw
            case rel => exact ⟨t + 1, by go_num, by omega, by first | trivial | rfl⟩
            case measure => simp [intOf]; omega
        · have hge : ¬ (t : Int) < (L.length : Int) := by omega
          have hgd : decide ((t : Int) < (L.length : Int)) = false := by simpa using hge
          go_upto_region 10 with fail
          go_upto_region 11 with (at_builtin; refine wpList_append_own _ rfl _ _ 23 rfl wr.heap.size 9 i0 (.string ⟨#[]⟩) 1 16 Tryz.underlying23 hi hz0 hz1 hz2 rfl (by decide) _ _ _ rfl (World.ownsRow_lit wr #[] 0 (Nat.le_refl _) (by unfold maxLen; omega) rfl) ⟨g, 0, none⟩ t _ (((L.drop 0).take t).map Value.string) rfl (by rw [List.length_map, List.length_take, List.drop_zero]; omega) (sub_cells (unhide HD).own rfl (Below.heap_alloc wr _ g hg2) 0 t (by omega)) (sub_one _) (by unfold maxLen; omega) (by omega) (by simp) ?_; intro v1 w1 ho1 hgr1 hn1)
          have hz1w := hgr1.size
          have e1 : ∀ k, k < wr.heap.size → w1.heap[k]? = wr.heap[k]? := fun k hk => (hgr1.block k (by simp; omega) (fun e => by cases e; exact absurd hk (Nat.lt_irrefl _))).trans (Below.heap_alloc wr _ k hk)
          have G1 := hide (gr_to (gr_al (unhide HG) _) hgr1 (fun k e => by cases e; exact (unhide HG).size)).1
          have O1 := hide ho1
          have hv1 : v1 ≠ .slice none 0 0 := fun e => by have := (hn1.1 e).1; cases this
          simp at hz1w
          clear hgr1 ho1 hn1
          go_upto_region 12 with (at_builtin; refine wpList_append_own _ rfl _ _ 23 rfl wr.heap.size 9 i0 (.string ⟨#[]⟩) 1 16 Tryz.underlying23 hi hz0 hz1 hz2 rfl (by decide) _ _ _ rfl (ownG_alloc (unhide O1) _) ⟨w1.heap.size, 0, none⟩ 1 1 [.string x] rfl rfl (cell_one_new _ _ _) (by intro u hu; simp at hu; subst hu; rfl) (by unfold maxLen; omega) (by omega) (by simp; omega) ?_; intro v2 w2 ho2 hgr2 hn2)
          have hz2w := hgr2.size
          have e2 : ∀ k, k < wr.heap.size → w2.heap[k]? = w1.heap[k]? := fun k hk => (hgr2.block k (by simp; omega) (fun e => by have := ((unhide O1).lt k e.symm).1; omega)).trans (Below.heap_alloc w1 _ k (by omega))
          have G2 := hide (gr_to (gr_al (unhide G1) _) hgr2 (fun k e => by have := ((unhide O1).lt k e).1; have := (unhide HG).size; omega)).1
          have O2 := hide ho2
          have hv2 : v2 ≠ .slice none 0 0 := fun e => by have := (hn2.1 e).2; omega
          simp at hz2w
          clear hgr2 ho2 hn2
          have hdr : L.drop t = [] := List.drop_eq_nil_of_le (by omega)
          by_cases hct : cp = t
          · go_wp2_with (at_builtin; go_loud (refine wpList_append_own _ rfl _ _ 23 rfl wr.heap.size 9 i0 (.string ⟨#[]⟩) 1 16 Tryz.underlying23 hi hz0 hz1 hz2 rfl (by decide) _ _ _ rfl (unhide O2) _ _ _ ([] : List Value) rfl (by simp <;> omega) (fun j u hj => by simp at hj) (by simp) (by unfold maxLen; omega) (by omega) (by omega) ?_); intro v3 w3 ho3 hgr3 hn3; have O3 := hide ho3; have R3 := hide hgr3; have N3 := hide hn3; clear ho3 hgr3 hn3)
            have hv3 : v3 ≠ .slice none 0 0 := fun e => hv2 ((unhide N3).1 e).1
            have hz3w := (unhide R3).size
            have e3 : ∀ k, k < wr.heap.size → w3.heap[k]? = w2.heap[k]? := fun k hk => (unhide R3).block k (by omega) (fun e => by have := ((unhide O2).lt k e.symm).1; omega)
            have G3 := hide (gr_to (unhide G2) (unhide R3) (fun k e => by have := ((unhide O2).lt k e).1; have := (unhide HG).size; omega)).1
            have S3 := hide (src_move (unhide HS) (unhide HA) hsrc (by omega) (fun k hk => by have := (unhide HG).size; exact (e3 k (by omega)).trans ((e2 k (by omega)).trans (e1 k (by omega)))) : SrcAt w3 src a len cap size)
            have Z3 := hide (put_size ht (unhide HL) (show x.size ≤ 100 by omega))
            have hlen3 : (L.take t ++ [x] ++ L.drop t).length = L.length + 1 := by simp; omega
            have eX : (L.take t ++ [x] ++ L.drop t).map Value.string = [] ++ ((L.drop 0).take t).map Value.string ++ [.string x] ++ [] := by rw [hdr]; simp
            have D3 : Hid (Dc w.heap.size w3 v3 (L.take t ++ [x] ++ L.drop t)) := hide (Dc.of (low_own (by
              have h := own_cnt (unhide O3)
              rw [← eX, List.length_map] at h
              exact h) (unhide HG).size) hv3)
            go_roundw
            case rel => exact ⟨k - 1, L.take t ++ [x] ++ L.drop t, by go_num, by rw [hlen3]; omega, D3, Z3, S3, G3⟩
            case measure => simp [intOf]; omega
          · go_wp2_with (at_builtin; go_loud (refine wpList_append_own _ rfl _ _ 23 rfl wr.heap.size 9 i0 (.string ⟨#[]⟩) 1 16 Tryz.underlying23 hi hz0 hz1 hz2 rfl (by decide) _ _ _ rfl (unhide O2) _ _ _ ([] : List Value) rfl (by simp <;> omega) (fun j u hj => by simp at hj) (by simp) (by unfold maxLen; omega) (by omega) (by omega) ?_); intro v3 w3 ho3 hgr3 hn3; have O3 := hide ho3; have R3 := hide hgr3; have N3 := hide hn3; clear ho3 hgr3 hn3)
            have hv3 : v3 ≠ .slice none 0 0 := fun e => hv2 ((unhide N3).1 e).1
            have hz3w := (unhide R3).size
            have e3 : ∀ k, k < wr.heap.size → w3.heap[k]? = w2.heap[k]? := fun k hk => (unhide R3).block k (by omega) (fun e => by have := ((unhide O2).lt k e.symm).1; omega)
            have G3 := hide (gr_to (unhide G2) (unhide R3) (fun k e => by have := ((unhide O2).lt k e).1; have := (unhide HG).size; omega)).1
            have S3 := hide (src_move (unhide HS) (unhide HA) hsrc (by omega) (fun k hk => by have := (unhide HG).size; exact (e3 k (by omega)).trans ((e2 k (by omega)).trans (e1 k (by omega)))) : SrcAt w3 src a len cap size)
            have Z3 := hide (put_size ht (unhide HL) (show x.size ≤ 100 by omega))
            have hlen3 : (L.take t ++ [x] ++ L.drop t).length = L.length + 1 := by simp; omega
            have eX : (L.take t ++ [x] ++ L.drop t).map Value.string = [] ++ ((L.drop 0).take t).map Value.string ++ [.string x] ++ [] := by rw [hdr]; simp
            have D3 : Hid (Dc w.heap.size w3 v3 (L.take t ++ [x] ++ L.drop t)) := hide (Dc.of (low_own (by
              have h := own_cnt (unhide O3)
              rw [← eX, List.length_map] at h
              exact h) (unhide HG).size) hv3)
            go_roundw
            case rel => exact ⟨k - 1, L.take t ++ [x] ++ L.drop t, by go_num, by rw [hlen3]; omega, D3, Z3, S3, G3⟩
            case measure => simp [intOf]; omega
    · obtain rfl : k = 0 := by omega
      have HGs := (unhide HG).size
      have hge : ¬ (0 : Int) < (0 : Int) := by omega
      obtain ⟨g, cp, hu3, hg1, hg2, hg3, hg4⟩ := (unhide HD).form
      subst hu3
      go_wp2_with fail
      refine (one_any _ src a len cap size 12 (by omega) (by omega) hl (unhide HS)).mono ?_
      rintro e w2 ⟨bb, rfl, hs2, hgr2⟩
      have HS2 := hide hs2
      have HG2 := hide (grown_trans (unhide HG) hgr2)
      have D2 := hide ((unhide HD).kept hgr2 (fun k e x => by cases x; have := ((unhide HD).own.lt _ e).1; omega))
      have z2 := hgr2.size
      clear hs2 hgr2 HD HS HG
      have hlt := src_lt (unhide HS2)
      cases bb
      · go_wp2_with fail
        go_ret
        exact ⟨_, L, rfl, (unhide D2).own, by omega, unhide HL, unhide HS2, unhide HG2⟩
      · have HSA := hide (src_alloc (unhide HS2) (.cells #[.string ⟨#[]⟩, .string ⟨#[97]⟩, .string ⟨#[122]⟩, .string ⟨#[122, 49, 50]⟩, .string ⟨#[122, 46, 122, 49]⟩, .string ⟨#[90, 49]⟩, .string ⟨#[49]⟩, .string ⟨#[122, 48]⟩, .string ⟨#[122, 122, 122, 122, 122, 122, 122, 122, 122, 122, 122, 122, 122, 122, 122, 122, 122, 122, 122, 122, 49]⟩, .string ⟨#[122, 122, 122, 122, 122, 122, 122, 122, 122, 122, 122, 122, 122, 122, 122, 122, 122, 122, 122, 122, 122, 49]⟩, .string ⟨#[46, 122, 49, 46]⟩] 9))
        have HGA := hide (grown_trans (unhide HG2) (grown_alloc w2 (.cells #[.string ⟨#[]⟩, .string ⟨#[97]⟩, .string ⟨#[122]⟩, .string ⟨#[122, 49, 50]⟩, .string ⟨#[122, 46, 122, 49]⟩, .string ⟨#[90, 49]⟩, .string ⟨#[49]⟩, .string ⟨#[122, 48]⟩, .string ⟨#[122, 122, 122, 122, 122, 122, 122, 122, 122, 122, 122, 122, 122, 122, 122, 122, 122, 122, 122, 122, 49]⟩, .string ⟨#[122, 122, 122, 122, 122, 122, 122, 122, 122, 122, 122, 122, 122, 122, 122, 122, 122, 122, 122, 122, 122, 49]⟩, .string ⟨#[46, 122, 49, 46]⟩] 9) (some src)))
        have HDA := hide ((unhide D2).below (al1 w2 (.cells #[.string ⟨#[]⟩, .string ⟨#[97]⟩, .string ⟨#[122]⟩, .string ⟨#[122, 49, 50]⟩, .string ⟨#[122, 46, 122, 49]⟩, .string ⟨#[90, 49]⟩, .string ⟨#[49]⟩, .string ⟨#[122, 48]⟩, .string ⟨#[122, 122, 122, 122, 122, 122, 122, 122, 122, 122, 122, 122, 122, 122, 122, 122, 122, 122, 122, 122, 49]⟩, .string ⟨#[122, 122, 122, 122, 122, 122, 122, 122, 122, 122, 122, 122, 122, 122, 122, 122, 122, 122, 122, 122, 122, 49]⟩, .string ⟨#[46, 122, 49, 46]⟩] 9)))
        have HLT := hide (lit_cells w2 #[.string ⟨#[]⟩, .string ⟨#[97]⟩, .string ⟨#[122]⟩, .string ⟨#[122, 49, 50]⟩, .string ⟨#[122, 46, 122, 49]⟩, .string ⟨#[90, 49]⟩, .string ⟨#[49]⟩, .string ⟨#[122, 48]⟩, .string ⟨#[122, 122, 122, 122, 122, 122, 122, 122, 122, 122, 122, 122, 122, 122, 122, 122, 122, 122, 122, 122, 49]⟩, .string ⟨#[122, 122, 122, 122, 122, 122, 122, 122, 122, 122, 122, 122, 122, 122, 122, 122, 122, 122, 122, 122, 122, 49]⟩, .string ⟨#[46, 122, 49, 46]⟩] 11 22 (fun i hi => by
            have hi' : i = 0 ∨ i = 1 ∨ i = 2 ∨ i = 3 ∨ i = 4 ∨ i = 5 ∨ i = 6 ∨ i = 7 ∨ i = 8 ∨ i = 9 ∨ i = 10 := by omega
            rcases hi' with rfl | rfl | rfl | rfl | rfl | rfl | rfl | rfl | rfl | rfl | rfl <;> exact ⟨_, rfl, by decide⟩))
        go_wp2_with (first
          | (go_at_call 26; refine (pickN_any _ src a len cap size w2.heap.size 11 11 22 (by omega) (by omega) hl (unhide HSA) (by simp) (by omega) (unhide HLT)).mono ?_; rintro e w4 ⟨x, rfl, hu, hs, hg⟩; have HS4 := hide hs; have HG4 := hide (grown_trans (unhide HGA) hg); have D4 := hide ((unhide HDA).kept hg (fun k e x => by cases x; have := ((unhide HDA).own.lt _ e).1; omega)); clear hs hg)
          | (at_builtin; refine wpList_append_own _ rfl _ _ 23 rfl w.heap.size 9 i0 (.string ⟨#[]⟩) 1 16 Tryz.underlying23 hi hz0 hz1 hz2 rfl (by decide) _ _ _ rfl (ownG_alloc (unhide D4).own _) ⟨w4.heap.size, 0, none⟩ 1 1 [.string x] rfl rfl (cell_one_new _ _ _) (by intro u hu; simp at hu; subst hu; rfl) (by unfold maxLen; omega) (by omega) (by have := (unhide HG4).size; simp; omega) ?_; intro v5 w5 ho5 hgr5 hn5; have O5 := hide ho5; have R5 := hide hgr5; clear ho5 hgr5 hn5))
        have R := hide (grown_row (unhide HG4) (unhide D4).own (unhide R5))
        have S5 := hide (src_move (unhide HS4) (unhide HA) hsrc (unhide R).2.2 (unhide R).2.1)
        go_ret
        exact ⟨_, L ++ [x], rfl, (by rw [List.map_append, List.length_append]; exact unhide O5), by simp; omega, (more_size (unhide HL) (by intro y hy; simp at hy; subst hy; omega)).1, unhide S5, (unhide R).1⟩
end Go.Proofs.YtcdhaikmedicfaaGreatDoor.Dr
