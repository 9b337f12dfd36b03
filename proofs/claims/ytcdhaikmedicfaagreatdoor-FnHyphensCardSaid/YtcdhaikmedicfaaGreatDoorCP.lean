/- Several texts in one. -/
import Derived.Test.YtcdhaikmedicfaaGreatDoorWL
import Derived.Test.YtcdhaikmedicfaaGreatDoorCA
import Derived.Test.YtcdhaikmedicfaaGreatDoorND
import Derived.Lib.BufferRead
/- Columns, in plain numbers and texts. -/
namespace Go.Proofs.YtcdhaikmedicfaaGreatDoor
namespace Clm
open Go.RowKit
set_option linter.unusedVariables false
def wx (c : ByteArray) : Int := Wid.ws (Chr.charsOut c)
theorem wx_bd (c : ByteArray) : 0 ≤ wx c ∧ wx c ≤ 131072 := by
  have a := Wid.ws_bd (Chr.charsOut c)
  have b := Chr.charsOut_le c
  unfold wx
  omega
/-- A width put to the ones of the columns. -/
def put1 (V : List Int) (k : Nat) (v : Int) : List Int := if k < V.length then V.set k (max (V.getD k 0) v) else V ++ [v]
def wup (V : List Int) (C : List ByteArray) : Nat → List Int
  | 0 => V
  | k + 1 => put1 (wup V C k) k (wx (nthS C k))
theorem put1_len (V : List Int) (k : Nat) (v : Int) (h : k ≤ V.length) : (put1 V k v).length = if k < V.length then V.length else k + 1 := by
  unfold put1
  split
  · simp
  · simp; omega
theorem wup_len (V : List Int) (C : List ByteArray) : ∀ k, k ≤ (wup V C k).length ∧ V.length ≤ (wup V C k).length ∧ (wup V C k).length ≤ max V.length k
  | 0 => ⟨Nat.zero_le _, Nat.le_refl _, by rw [wup]; omega⟩
  | k + 1 => by
    have ih := wup_len V C k
    rw [wup, put1_len _ _ _ ih.1]
    split <;> omega
theorem getD_set' (L : List Int) (i j : Nat) (x : Int) (h : i < L.length) : (L.set i x).getD j 0 = if j = i then x else L.getD j 0 := by
  rw [List.getD_eq_getElem?_getD, List.getElem?_set, List.getD_eq_getElem?_getD]
  by_cases e : i = j
  · subst e
    simp [h]
  · rw [if_neg e, if_neg (fun c => e c.symm)]
theorem put1_at (V : List Int) (k j : Nat) (v : Int) (hv : 0 ≤ v) (h : k ≤ V.length) : V.getD j 0 ≤ (put1 V k v).getD j 0 ∧ v ≤ (put1 V k v).getD k 0 := by
  unfold put1
  split
  · rename_i hk
    rw [getD_set' _ _ _ _ hk, getD_set' _ _ _ _ hk, if_pos rfl]
    constructor
    · split
      · rename_i e; subst e; omega
      · exact Int.le_refl _
    · omega
  · have hk : k = V.length := by omega
    subst hk
    have e1 : (V ++ [v]).getD V.length 0 = v := by simp [List.getD_eq_getElem?_getD]
    rw [e1]
    refine ⟨?_, Int.le_refl _⟩
    by_cases c : j < V.length
    · rw [List.getD_eq_getElem?_getD, List.getD_eq_getElem?_getD, List.getElem?_append_left c]
      exact Int.le_refl _
    · rw [List.getD_eq_getElem?_getD, List.getElem?_eq_none (by omega)]
      by_cases e : j = V.length
      · subst e; rw [e1]; exact hv
      · rw [List.getD_eq_getElem?_getD, List.getElem?_eq_none (by simp; omega)]
        exact Int.le_refl _
theorem wup_at (V : List Int) (C : List ByteArray) : ∀ k j, V.getD j 0 ≤ (wup V C k).getD j 0 ∧ (j < k → wx (nthS C j) ≤ (wup V C k).getD j 0)
  | 0, j => ⟨Int.le_refl _, fun h => absurd h (by omega)⟩
  | k + 1, j => by
    have ih := wup_at V C k j
    have p := put1_at (wup V C k) k j (wx (nthS C k)) (wx_bd _).1 (wup_len V C k).1
    rw [wup]
    refine ⟨Int.le_trans ih.1 p.1, fun h => ?_⟩
    by_cases e : j = k
    · subst e; exact p.2
    · exact Int.le_trans (ih.2 (by omega)) p.1
theorem put1_bd (V : List Int) (k : Nat) (v : Int) (hv : 0 ≤ v ∧ v ≤ 131072) (h : ∀ j, 0 ≤ V.getD j 0 ∧ V.getD j 0 ≤ 131072) (hk : k ≤ V.length) (j : Nat) : 0 ≤ (put1 V k v).getD j 0 ∧ (put1 V k v).getD j 0 ≤ 131072 := by
  have hj := h j
  have hk2 := h k
  unfold put1
  split
  · rename_i hlt
    rw [getD_set' _ _ _ _ hlt]
    split
    · omega
    · exact hj
  · have hk' : k = V.length := by omega
    subst hk'
    by_cases c : j < V.length
    · rw [List.getD_eq_getElem?_getD, List.getElem?_append_left c, ← List.getD_eq_getElem?_getD]
      exact hj
    · by_cases e : j = V.length
      · subst e
        simp [List.getD_eq_getElem?_getD]
        exact hv
      · rw [List.getD_eq_getElem?_getD, List.getElem?_eq_none (by simp; omega)]
        decide
theorem wup_bd (V : List Int) (C : List ByteArray) (h : ∀ j, 0 ≤ V.getD j 0 ∧ V.getD j 0 ≤ 131072) : ∀ k j, 0 ≤ (wup V C k).getD j 0 ∧ (wup V C k).getD j 0 ≤ 131072
  | 0, j => h j
  | k + 1, j => by
    rw [wup]
    exact put1_bd _ _ _ (wx_bd _) (wup_bd V C h k) (wup_len V C k).1 j
/-- The widths of the columns of the first i rows. -/
def wal (P : List ByteArray) : Nat → List Int
  | 0 => []
  | i + 1 => wup (wal P i) (cel (nthS P i)) (cel (nthS P i)).length
theorem wal_bd (P : List ByteArray) : ∀ i j, 0 ≤ (wal P i).getD j 0 ∧ (wal P i).getD j 0 ≤ 131072
  | 0, j => by simp [wal]
  | i + 1, j => wup_bd _ _ (wal_bd P i) _ j
theorem wal_len (P : List ByteArray) (h : ∀ i, i < P.length → (nthS P i).size ≤ 65536) : ∀ i, i ≤ P.length → (wal P i).length ≤ 65536
  | 0, _ => Nat.zero_le _
  | i + 1, hi => by
    have ih := wal_len P h i (by omega)
    have a := wup_len (wal P i) (cel (nthS P i)) (cel (nthS P i)).length
    have b := cel_len (nthS P i)
    have c := h i (by omega)
    rw [wal]
    omega
theorem wal_up (P : List ByteArray) (i j : Nat) : ∀ d, (wal P i).getD j 0 ≤ (wal P (i + d)).getD j 0 ∧ (wal P i).length ≤ (wal P (i + d)).length
  | 0 => ⟨Int.le_refl _, Nat.le_refl _⟩
  | d + 1 => by
    have ih := wal_up P i j d
    rw [← Nat.add_assoc, wal]
    exact ⟨Int.le_trans ih.1 (wup_at _ _ _ j).1, Nat.le_trans ih.2 (wup_len _ _ _).2.1⟩
theorem wal_has (P : List ByteArray) (i n k : Nat) (h : i < n) (hk : k < (cel (nthS P i)).length) : wx (nthS (cel (nthS P i)) k) ≤ (wal P n).getD k 0 ∧ k < (wal P n).length := by
  have u := wal_up P (i + 1) k (n - (i + 1))
  rw [show i + 1 + (n - (i + 1)) = n by omega] at u
  rw [wal] at u
  exact ⟨Int.le_trans ((wup_at _ _ _ k).2 hk) u.1, Nat.lt_of_lt_of_le (Nat.lt_of_lt_of_le hk (wup_len _ _ _).1) u.2⟩
/-- Blanks. -/
def bla (k : Nat) : ByteArray := ⟨(List.replicate k (32 : UInt8)).toArray⟩
theorem bla_size (k : Nat) : (bla k).size = k := by
  show (List.replicate k (32 : UInt8)).toArray.size = k
  simp
/-- How many blanks go behind a cell. -/
def bk (W : List Int) (C : List ByteArray) (gap : Int) (k : Nat) : Int := W.getD k 0 - wx (nthS C k) + gap
def fz (W : List Int) (C : List ByteArray) (gap : Int) : Nat → Int
  | 0 => 0
  | k + 1 => fz W C gap k + ((nthS C k).size : Int) + bk W C gap k
def fl (W : List Int) (C : List ByteArray) (gap : Int) : Nat → ByteArray
  | 0 => ⟨#[]⟩
  | k + 1 => fl W C gap k ++ nthS C k ++ bla (bk W C gap k).toNat
theorem fl_size {W : List Int} {C : List ByteArray} {gap : Int} : ∀ k, (∀ j, j < k → 0 ≤ bk W C gap j) → ((fl W C gap k).size : Int) = fz W C gap k
  | 0, _ => rfl
  | k + 1, h => by
    have ih := fl_size k (fun j hj => h j (by omega))
    have hk := h k (by omega)
    rw [fl, fz, ByteArray.size_append, ByteArray.size_append, bla_size]
    omega
theorem fz_up {W : List Int} {C : List ByteArray} {gap : Int} (k : Nat) : ∀ d, (∀ j, j < k + d → 0 ≤ bk W C gap j) → fz W C gap k ≤ fz W C gap (k + d)
  | 0, _ => Int.le_refl _
  | d + 1, h => by
    have ih := fz_up k d (fun j hj => h j (by omega))
    have hk := h (k + d) (by omega)
    rw [← Nat.add_assoc, fz]
    omega
/-- How long a row comes out, and the row. -/
def tot (W : List Int) (gap : Int) (x : ByteArray) : Int := fz W (cel x) gap (cel x).length + ((lst x).size : Int)
def row (W : List Int) (gap : Int) (x : ByteArray) : ByteArray := fl W (cel x) gap (cel x).length ++ lst x
def out (W : List Int) (gap : Int) (P : List ByteArray) : Nat → List ByteArray
  | 0 => []
  | i + 1 => out W gap P i ++ [row W gap (nthS P i)]
theorem out_len (W : List Int) (gap : Int) (P : List ByteArray) : ∀ i, (out W gap P i).length = i
  | 0 => rfl
  | i + 1 => by rw [out, List.length_append, out_len W gap P i]; rfl
def fits (P : List ByteArray) (gap : Int) : Bool := decide (P.length ≤ 1000 ∧ 0 ≤ gap ∧ gap ≤ 20 ∧ (∀ i, i < P.length → (nthS P i).size ≤ 65536) ∧ ∀ i, i < P.length → tot (wal P P.length) gap (nthS P i) ≤ 65536)

/-- What Columns tells. -/
def clm (P : List ByteArray) (gap : Int) : List ByteArray := if fits P gap = true then out (wal P P.length) gap P P.length else []
end Clm
end Go.Proofs.YtcdhaikmedicfaaGreatDoor
/- Columns: blanks, as the specification writes them. -/
namespace Go.Proofs.YtcdhaikmedicfaaGreatDoor
namespace Clm
open Go.RowKit
set_option linter.unusedVariables false
set_option linter.unusedSimpArgs false
theorem info5c : (Tryz.prog.info? 5).map (fun i => (i.zero, i.size, i.bytes)) = some (some (.int .u8 0), 1, 1) := by kernel_rfl
theorem conv_ownC (w : World) (B : Nat) (v : Value) (n : Nat) (zs : List Int) (h : w.ownsRow B 5 1 v n (zs.map (Value.int .u8))) :
    (convert 22 9 v).run Tryz.prog w = .ok (.string (strOfNums zs)) w := by
  have hl : zs.length = n := by simpa using h.1
  rcases h.2 with ⟨rfl, hn⟩ | ⟨g, cap, cur, hv, hg, hh, hn, hm, hs, ht⟩
  · obtain rfl : zs = [] := List.length_eq_zero_iff.1 (by omega)
    exact Lib.run_convert_nil_bytes w 22 9 5 0 Tryz.underlying22 Tryz.underlying5 Tryz.underlying9
  · subst hv
    refine conv_of w g cap zs n hl fun i hi => ?_
    rw [h.cellAt i (by omega), List.getElem?_map]
    simp [List.getD, show i < zs.length by omega]
theorem str_bla (k : Nat) : strOfNums (List.replicate k 32) = bla k := by
  apply ByteArray.ext
  unfold strOfNums bla
  simp
theorem rep_next (k : Nat) : (List.replicate (k + 1) (32 : Int)) = List.replicate k 32 ++ [32] := by
  rw [List.replicate_succ']
set_option maxRecDepth 100000 in
set_option maxHeartbeats 4000000 in
theorem blanksS (n : Nat) (hn : n ≤ 100000) (w : World) : Calls Tryz.prog 34 #[.int .i64 (n : Int)] w fun e w' => e = .returned (.string (bla n)) ∧ Below w.heap.size w w' := by
  obtain ⟨i0, hi, hz0, hz1, hz2⟩ := info_parts info5c
  have O0 : Hid ((w.alloc (.cells #[] 5)).ownsRow w.heap.size 5 1 (.slice (some ⟨w.heap.size, 0, none⟩) 0 0) 0 ((List.replicate 0 (32 : Int)).map (Value.int .u8))) := hide (World.ownsRow_lit w #[] 0 (Nat.le_refl _) (by unfold maxLen; omega) rfl)
  have B0 : Hid (Below w.heap.size w (w.alloc (.cells #[] 5))) := hide ((Below.refl _ _).alloc (Nat.le_refl _) _)
  go_enter Tryz.func34, Tryz.ntmps34
  go_wp2_with fail
  go_loopw [0, 3] (fun v0 v3 wr => ∃ (m k : Nat), v0 = .int .i64 (m : Int) ∧ k + m = n ∧ Hid (wr.ownsRow w.heap.size 5 1 v3 k ((List.replicate k (32 : Int)).map (Value.int .u8))) ∧ Hid (Below w.heap.size w wr)) (fun v _ _ => (intOf v).toNat)
  case atStart => exact ⟨n, 0, rfl, by omega, O0, B0⟩
  case round =>
    obtain ⟨m, k, rfl, hk, HO, HB⟩ := hrel
    obtain ⟨va, vc, rfl⟩ := form_ownC (unhide HO)
    have hsz := (unhide HB).size
    by_cases h0 : 0 < m
    · have hI : (0 : Int) < (m : Int) := by omega
      obtain ⟨q, hq⟩ : ∃ q, m - 1 = q := ⟨_, rfl⟩
      have hqI : (m : Int) - 1 = (q : Int) := by omega
      have hq2 : k + 1 + q = n := by omega
      have hlt : q < m := by omega
      clear hq
      go_wp2_with (at_builtin; refine wpList_append_own _ rfl _ _ 22 rfl w.heap.size 5 i0 (.int .u8 0) 1 1 Tryz.underlying22 hi hz0 hz1 hz2 rfl (by decide) _ _ _ rfl (own_allocC (unhide HO) _) ⟨wr.heap.size, 0, none⟩ 1 1 [.int .u8 32] rfl rfl ?c1 ?c2 ?c3 ?c4 ?c5 ?_)
      case c1 => exact cell_one_new _ _ _
      case c2 => intro u hu; simp at hu; subst hu; rfl
      case c3 => unfold maxLen; omega
      case c4 => omega
      case c5 => simp; omega
      intro v' w3 hown' hgrow _
      have R1 : Hid (w3.ownsRow w.heap.size 5 1 v' (k + 1) ((List.replicate (k + 1) (32 : Int)).map (Value.int .u8))) := hide (by
        rw [rep_next, List.map_append, List.map_replicate]
        exact hown')
      have R2 : Hid (Below w.heap.size w w3) := hide (((unhide HB).alloc hsz _).grown hgrow (by simp; omega) (fun j hj => ((unhide HO).lt j hj).1))
      clear hown' hgrow
      go_wp2_with fail
      go_roundw
      case rel => exact ⟨q, k + 1, rfl, hq2, R1, R2⟩
      case measure => (simp [intOf] <;> omega)
    · obtain rfl : m = 0 := by omega
      obtain rfl : k = n := by omega
      have hI : ¬ (0 : Int) < ((0 : Nat) : Int) := by omega
      have hcv := conv_ownC wr w.heap.size _ _ _ (unhide HO)
      rw [str_bla] at hcv
      go_wp2_with fail
      go_ret
      exact ⟨rfl, unhide HB⟩
end Clm
end Go.Proofs.YtcdhaikmedicfaaGreatDoor
