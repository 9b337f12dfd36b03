/- Several texts in one. -/
import Derived.Test.YtjcgchmncgihbaaDoorChsI
import Derived.Test.YtjcgchmncgihbaaDoorText
import Derived.Test.YtjcgchmncgihbaaDoorStrB
/- The pieces of a text between its cuts, one behind the other, are the text. No walk. -/
namespace Go.Proofs.YtjcgchmncgihbaaDoor
namespace Chr
open Go.RowKit
/-- The first k texts of a row, one behind the other. -/
def jnk (l : List ByteArray) : Nat → ByteArray
  | 0 => ByteArray.empty
  | k + 1 => jnk l k ++ nthS l k
theorem nthS_pieces (s : ByteArray) (C : List Int) (k : Nat) (h : k + 1 < C.length) : nthS (pieces s C) k = s.extract (nth C k).toNat (nth C (k + 1)).toNat := by
  simp [nthS, pieces, pcs, List.getD_eq_getElem?_getD, show k < C.length - 1 by omega]
theorem jnk_pieces {s : ByteArray} {C : List Int} (hC : Cuts s C) (h0 : nth C 0 = 0) : ∀ k, k < C.length → jnk (pieces s C) k = s.extract 0 (nth C k).toNat
  | 0, _ => by rw [h0]; show ByteArray.empty = s.extract 0 0; simp
  | k + 1, h => by
    show jnk (pieces s C) k ++ nthS (pieces s C) k = _
    obtain ⟨a, b, ha, hb, hab, _⟩ := hC k h
    rw [jnk_pieces hC h0 k (by omega), nthS_pieces s C k h, ha, hb, ByteArray.extract_append_extract]
    congr 1 <;> simp [hab]
theorem jnk_size {s : ByteArray} {C : List Int} (hC : Cuts s C) (h0 : nth C 0 = 0) (k : Nat) (h : k < C.length) : (jnk (pieces s C) k).size ≤ s.size := by
  rw [jnk_pieces hC h0 k h]
  simp
  omega
/-- All of them are the text, where the cuts begin at its beginning and end at its end. -/
theorem jnk_all {s : ByteArray} {C : List Int} (hC : Cuts s C) (h0 : nth C 0 = 0) (hl : 0 < C.length) (he : nth C (C.length - 1) = (s.size : Int)) : jnk (pieces s C) (pieces s C).length = s := by
  rw [pieces_len, jnk_pieces hC h0 _ (by omega), he]
  simp
end Chr
end Go.Proofs.YtjcgchmncgihbaaDoor
/- lwJoin of the laws: the texts of a row, one behind the other. -/
namespace Go.Proofs.YtjcgchmncgihbaaDoor
namespace Chr
open Go.RowKit
/-- A text's bytes as numbers. -/
def nmb (s : ByteArray) : List Int := s.data.toList.map fun b => (b.toNat : Int)
theorem nmb_len (s : ByteArray) : (nmb s).length = s.size := by simp [nmb]
theorem nmb_cells (s : ByteArray) : Lib.strCells s = (nmb s).map (Value.int .u8) := by simp [nmb, Lib.strCells]
theorem nmb_str (s : ByteArray) : strOfNums (nmb s) = s := by
  unfold strOfNums nmb
  rw [List.map_map]
  have : ((fun n : Int => UInt8.ofNat n.toNat) ∘ fun b : UInt8 => (b.toNat : Int)) = id := by funext b; simp
  rw [this]
  simp
theorem nmb_app (s t : ByteArray) : nmb (s ++ t) = nmb s ++ nmb t := by simp [nmb]
theorem join_step {w wr w3 : World} {s v' : Value} {l : List ByteArray} {k : Nat} (hb : Below w.heap.size w wr)
    (ho : wr.ownsRow w.heap.size 5 1 s (nmb (jnk l k)).length ((nmb (jnk l k)).map (Value.int .u8)))
    (ho3 : w3.ownsRow w.heap.size 5 1 v' ((nmb (jnk l k)).length + (nthS l k).size) ((nmb (jnk l k)).map (Value.int .u8) ++ Lib.strCells (nthS l k)))
    (hg : wr.grownBy w3 s.ownBlock) : w3.ownsRow w.heap.size 5 1 v' (nmb (jnk l (k + 1))).length ((nmb (jnk l (k + 1))).map (Value.int .u8)) ∧ Below w.heap.size w w3 := by
  constructor
  · show w3.ownsRow w.heap.size 5 1 v' (nmb (jnk l k ++ nthS l k)).length ((nmb (jnk l k ++ nthS l k)).map (Value.int .u8))
    rw [nmb_app, List.length_append, List.map_append, ← nmb_cells (nthS l k), nmb_len (nthS l k)]
    exact ho3
  · exact hb.grown hg hb.size (fun j hj => (ho.lt j hj).1)
set_option maxHeartbeats 1000000 in
theorem lwJoin_at (b off cap : Nat) (l : List ByteArray) (w : World) (hbs : b < w.heap.size) (hc : ∀ i, i < l.length → w.cell? ⟨b, off + i, none⟩ = some (.string (nthS l i))) (hl : l.length ≤ 1048576) (hj : ∀ k, k ≤ l.length → (jnk l k).size ≤ 1048576) :
    Calls Tryd.prog 9 #[.slice (some ⟨b, off, none⟩) l.length cap] w fun e w' => e = .returned (.string (jnk l l.length)) ∧ Below w.heap.size w w' := by
  obtain ⟨i0, hi, hz0, hz1, hz2⟩ := info_parts info5
  have HC := hide hc
  have HJ := hide hj
  clear hc hj
  have HO0 : Hid ((w.alloc (.cells #[] 5)).ownsRow w.heap.size 5 1 (.slice (some ⟨w.heap.size, 0, none⟩) 0 0) (nmb (jnk l 0)).length ((nmb (jnk l 0)).map (Value.int .u8))) := hide (World.ownsRow_lit w #[] 0 (Nat.le_refl _) (by unfold maxLen; omega) rfl)
  have HB0 : Hid (Below w.heap.size w (w.alloc (.cells #[] 5))) := hide ((Below.refl _ _).alloc (Nat.le_refl _) _)
  go_enter Tryd.func9, Tryd.ntmps9
  go_wp2
  go_loopw [3, 4] (fun s i wr => ∃ k : Nat, k ≤ l.length ∧ i = .int .i64 k ∧ Hid (wr.ownsRow w.heap.size 5 1 s (nmb (jnk l k)).length ((nmb (jnk l k)).map (Value.int .u8))) ∧ Hid (Below w.heap.size w wr)) (fun _ i _ => l.length - (intOf i).toNat)
  case atStart => exact ⟨0, Nat.zero_le _, rfl, HO0, HB0⟩
  case round =>
    obtain ⟨k, hk, rfl, HO, HB⟩ := hrel
    clear HO0 HB0
    by_cases hlt : k < l.length
    · have c1 := ((unhide HB).cell (p := ⟨b, off + k, none⟩) hbs).trans ((unhide HC) k hlt)
      have hsz : (jnk l k).size + (nthS l k).size ≤ 1048576 := by
        have := (unhide HJ) (k + 1) hlt
        have e : (jnk l (k + 1)).size = (jnk l k).size + (nthS l k).size := by show (jnk l k ++ nthS l k).size = _; simp
        omega
      have hnl := nmb_len (jnk l k)
      have hbse := (unhide HB).size
      go_wp2_with (at_builtin; refine Lib.wpList_append_own_string _ rfl _ _ 22 9 rfl w.heap.size 5 i0 Tryd.underlying22 Tryd.underlying9 hi hz0 hz1 hz2 _ _ _ rfl (unhide HO) _ rfl ?c1 ?c2 ?c3 ?_)
      case c1 => unfold maxLen; omega
      case c2 => omega
      case c3 => omega
      intro v' w3 hown' hgrow _
      have R := hide (join_step (unhide HB) (unhide HO) (by rw [nmb_len]; exact hown') hgrow)
      clear hown' hgrow
      go_wp2
      go_roundw
      case rel => exact ⟨k + 1, by omega, by go_num, hide (unhide R).1, hide (unhide R).2⟩
      case measure => simp [intOf]; omega
    · obtain rfl : k = l.length := by omega
      have hcv := conv_owned wr _ _ _ _ (unhide HO)
      rw [nmb_str] at hcv
      go_wp2
      go_ret
      exact ⟨rfl, unhide HB⟩
set_option maxHeartbeats 1000000 in
theorem lwJoin_nil (a : Option Addr) (cap : Nat) (l : List ByteArray) (w : World) (h0 : l.length = 0) :
    Calls Tryd.prog 9 #[.slice a l.length cap] w fun e w' => e = .returned (.string (jnk l l.length)) ∧ Below w.heap.size w w' := by
  have H0 := hide h0
  clear h0
  have hl : l.length ≤ 1048576 := by rw [unhide H0]; omega
  have HO0 : Hid ((w.alloc (.cells #[] 5)).ownsRow w.heap.size 5 1 (.slice (some ⟨w.heap.size, 0, none⟩) 0 0) (nmb (jnk l 0)).length ((nmb (jnk l 0)).map (Value.int .u8))) := hide (World.ownsRow_lit w #[] 0 (Nat.le_refl _) (by unfold maxLen; omega) rfl)
  have HB0 : Hid (Below w.heap.size w (w.alloc (.cells #[] 5))) := hide ((Below.refl _ _).alloc (Nat.le_refl _) _)
  go_enter Tryd.func9, Tryd.ntmps9
  go_wp2
  go_loopw [3, 4] (fun s i wr => ∃ k : Nat, k ≤ l.length ∧ i = .int .i64 k ∧ Hid (wr.ownsRow w.heap.size 5 1 s (nmb (jnk l k)).length ((nmb (jnk l k)).map (Value.int .u8))) ∧ Hid (Below w.heap.size w wr)) (fun _ i _ => l.length - (intOf i).toNat)
  case atStart => exact ⟨0, Nat.zero_le _, rfl, HO0, HB0⟩
  case round =>
    obtain ⟨k, hk, rfl, HO, HB⟩ := hrel
    clear HO0 HB0
    have hge : ¬ k < l.length := by have := unhide H0; omega
    obtain rfl : k = l.length := by omega
    have hcv := conv_owned wr _ _ _ _ (unhide HO)
    rw [nmb_str] at hcv
    go_wp2
    go_ret
    exact ⟨rfl, unhide HB⟩
theorem lwJoin (v : Value) (l : List ByteArray) (w : World) (h : StrsAt w v l) (hl : l.length ≤ 1048576) (hj : ∀ k, k ≤ l.length → (jnk l k).size ≤ 1048576) :
    Calls Tryd.prog 9 #[v] w fun e w' => e = .returned (.string (jnk l l.length)) ∧ Below w.heap.size w w' := by
  obtain ⟨a, cap, rfl, h⟩ := h
  rcases h with h | ⟨b, off, rfl, hbs, hc⟩
  · exact lwJoin_nil a cap l w (by rw [h]; rfl)
  · exact lwJoin_at b off cap l w hbs hc hl hj
end Chr
end Go.Proofs.YtjcgchmncgihbaaDoor
/- Two rows of texts alike, as the laws ask it. -/
namespace Go.Proofs.YtjcgchmncgihbaaDoor
open Go.RowKit
set_option maxHeartbeats 1000000 in
theorem lwTexts_nil (a b : Option Addr) (c d : Nat) (l : List ByteArray) (w : World) (h0 : l.length = 0) :
    Calls Tryd.prog 6 #[.slice a l.length c, .slice b l.length d] w fun e w' => e = .returned (.bool true) ∧ Below w.heap.size w w' := by
  have H0 := hide h0
  clear h0
  have hl : l.length ≤ 1048576 := by rw [unhide H0]; omega
  have hne : ((l.length : Int) != (l.length : Int)) = false := by simp
  go_enter Tryd.func6, Tryd.ntmps6
  go_wp2
  go_loopw [5] (fun i wr => ∃ k : Nat, k ≤ l.length ∧ i = .int .i64 k ∧ Hid (Below w.heap.size w wr)) (fun i _ => l.length - (intOf i).toNat)
  case atStart => exact ⟨0, Nat.zero_le _, rfl, hide (Below.refl _ _)⟩
  case round =>
    obtain ⟨k, hk, rfl, HB⟩ := hrel
    have hge : ¬ k < l.length := by have := unhide H0; omega
    go_wp2
    go_ret
    exact ⟨rfl, unhide HB⟩
set_option maxHeartbeats 1000000 in
theorem lwTexts_at (b1 o1 b2 o2 c d : Nat) (l : List ByteArray) (w : World) (hb1 : b1 < w.heap.size) (hc1 : ∀ i, i < l.length → w.cell? ⟨b1, o1 + i, none⟩ = some (.string (nthS l i)))
    (hb2 : b2 < w.heap.size) (hc2 : ∀ i, i < l.length → w.cell? ⟨b2, o2 + i, none⟩ = some (.string (nthS l i))) (hl : l.length ≤ 1048576) :
    Calls Tryd.prog 6 #[.slice (some ⟨b1, o1, none⟩) l.length c, .slice (some ⟨b2, o2, none⟩) l.length d] w fun e w' => e = .returned (.bool true) ∧ Below w.heap.size w w' := by
  have H1 := hide hc1
  have H2 := hide hc2
  clear hc1 hc2
  have hne : ((l.length : Int) != (l.length : Int)) = false := by simp
  go_enter Tryd.func6, Tryd.ntmps6
  go_wp2
  go_loopw [5] (fun i wr => ∃ k : Nat, k ≤ l.length ∧ i = .int .i64 k ∧ Hid (Below w.heap.size w wr)) (fun i _ => l.length - (intOf i).toNat)
  case atStart => exact ⟨0, Nat.zero_le _, rfl, hide (Below.refl _ _)⟩
  case round =>
    obtain ⟨k, hk, rfl, HB⟩ := hrel
    by_cases hlt : k < l.length
    · have c1 := ((unhide HB).cell (p := ⟨b1, o1 + k, none⟩) hb1).trans ((unhide H1) k hlt)
      have c2 := ((unhide HB).cell (p := ⟨b2, o2 + k, none⟩) hb2).trans ((unhide H2) k hlt)
      generalize nthS l k = x at c1 c2
      have hne2 := str_ne x
      go_wp2
      go_quiet (fail)
      go_wp2
      go_roundw
      case rel => exact ⟨k + 1, by omega, by go_num, hide (bdrew (unhide HB) _)⟩
      case measure => simp [intOf]; omega
    · go_wp2
      go_ret
      exact ⟨rfl, unhide HB⟩
theorem lwTexts (v1 v2 : Value) (l : List ByteArray) (w : World) (h1 : StrsAt w v1 l) (h2 : StrsAt w v2 l) (hl : l.length ≤ 1048576) :
    Calls Tryd.prog 6 #[v1, v2] w fun e w' => e = .returned (.bool true) ∧ Below w.heap.size w w' := by
  obtain ⟨a1, c1, rfl, h1⟩ := h1
  obtain ⟨a2, c2, rfl, h2⟩ := h2
  rcases h1 with h1 | ⟨b1, o1, rfl, hb1, hc1⟩
  · exact lwTexts_nil a1 a2 c1 c2 l w (by rw [h1]; rfl)
  · rcases h2 with h2 | ⟨b2, o2, rfl, hb2, hc2⟩
    · exact lwTexts_nil _ a2 c1 c2 l w (by rw [h2]; rfl)
    · exact lwTexts_at b1 o1 b2 o2 c1 c2 l w hb1 hc1 hb2 hc2 hl
end Go.Proofs.YtjcgchmncgihbaaDoor
