/- lwJoin of the laws: the texts of a row, one behind the other. -/
import Derived.Test.YtjcgchmncgihbaaDoorChqJ
import Derived.Test.YtjcgchmncgihbaaDoorText
namespace Go.Proofs.YtjcgchmncgihbaaDoor
namespace Chr
open Go.RowKit
/-- A text's bytes as numbers. -/
def nmb (s : ByteArray) : List Int := s.data.toList.map fun b => (b.toNat : Int)
theorem nmb_len (s : ByteArray) : (nmb s).length = s.size := by simp [nmb]
theorem nmb_cells (s : ByteArray) : Lib.strCells s = (nmb s).map (Value.int .u8) := by simp [nmb, Lib.strCells]
theorem nmb_str (s : ByteArray) : strOfNums (nmb s) = s := by
  unfold strOfNums nmb
  rw [List.map_map]
  have : ((fun n : Int => UInt8.ofNat n.toNat) ∘ fun b : UInt8 => (b.toNat : Int)) = id := by funext b; simp
  rw [this]
  simp
theorem nmb_app (s t : ByteArray) : nmb (s ++ t) = nmb s ++ nmb t := by simp [nmb]
theorem join_step {w wr w3 : World} {s v' : Value} {l : List ByteArray} {k : Nat} (hb : Below w.heap.size w wr)
    (ho : wr.ownsRow w.heap.size 5 1 s (nmb (jnk l k)).length ((nmb (jnk l k)).map (Value.int .u8)))
    (ho3 : w3.ownsRow w.heap.size 5 1 v' ((nmb (jnk l k)).length + (nthS l k).size) ((nmb (jnk l k)).map (Value.int .u8) ++ Lib.strCells (nthS l k)))
    (hg : wr.grownBy w3 s.ownBlock) : w3.ownsRow w.heap.size 5 1 v' (nmb (jnk l (k + 1))).length ((nmb (jnk l (k + 1))).map (Value.int .u8)) ∧ Below w.heap.size w w3 := by
  constructor
  · show w3.ownsRow w.heap.size 5 1 v' (nmb (jnk l k ++ nthS l k)).length ((nmb (jnk l k ++ nthS l k)).map (Value.int .u8))
    rw [nmb_app, List.length_append, List.map_append, ← nmb_cells (nthS l k), nmb_len (nthS l k)]
    exact ho3
  · exact hb.grown hg hb.size (fun j hj => (ho.lt j hj).1)
set_option maxHeartbeats 1000000 in
theorem lwJoin_at (b off cap : Nat) (l : List ByteArray) (w : World) (hbs : b < w.heap.size) (hc : ∀ i, i < l.length → w.cell? ⟨b, off + i, none⟩ = some (.string (nthS l i))) (hl : l.length ≤ 1048576) (hj : ∀ k, k ≤ l.length → (jnk l k).size ≤ 1048576) :
    Calls Tryd.prog 9 #[.slice (some ⟨b, off, none⟩) l.length cap] w fun e w' => e = .returned (.string (jnk l l.length)) ∧ Below w.heap.size w w' := by
  obtain ⟨i0, hi, hz0, hz1, hz2⟩ := info_parts info5
  have HC := hide hc
  have HJ := hide hj
  clear hc hj
  have HO0 : Hid ((w.alloc (.cells #[] 5)).ownsRow w.heap.size 5 1 (.slice (some ⟨w.heap.size, 0, none⟩) 0 0) (nmb (jnk l 0)).length ((nmb (jnk l 0)).map (Value.int .u8))) := hide (World.ownsRow_lit w #[] 0 (Nat.le_refl _) (by unfold maxLen; omega) rfl)
  have HB0 : Hid (Below w.heap.size w (w.alloc (.cells #[] 5))) := hide ((Below.refl _ _).alloc (Nat.le_refl _) _)
  go_enter Tryd.func9, Tryd.ntmps9
  go_wp2
  go_loopw [3, 4] (fun s i wr => ∃ k : Nat, k ≤ l.length ∧ i = .int .i64 k ∧ Hid (wr.ownsRow w.heap.size 5 1 s (nmb (jnk l k)).length ((nmb (jnk l k)).map (Value.int .u8))) ∧ Hid (Below w.heap.size w wr)) (fun _ i _ => l.length - (intOf i).toNat)
  case atStart => exact ⟨0, Nat.zero_le _, rfl, HO0, HB0⟩
  case round =>
    obtain ⟨k, hk, rfl, HO, HB⟩ := hrel
    clear HO0 HB0
    by_cases hlt : k < l.length
    · have c1 := ((unhide HB).cell (p := ⟨b, off + k, none⟩) hbs).trans ((unhide HC) k hlt)
      have hsz : (jnk l k).size + (nthS l k).size ≤ 1048576 := by
        have := (unhide HJ) (k + 1) hlt
        have e : (jnk l (k + 1)).size = (jnk l k).size + (nthS l k).size := by show (jnk l k ++ nthS l k).size = _; simp
        omega
      have hnl := nmb_len (jnk l k)
      have hbse := (unhide HB).size
      go_wp2_with (at_builtin; refine Lib.wpList_append_own_string _ rfl _ _ 22 9 rfl w.heap.size 5 i0 Tryd.underlying22 Tryd.underlying9 hi hz0 hz1 hz2 _ _ _ rfl (unhide HO) _ rfl ?c1 ?c2 ?c3 ?_)
      case c1 => unfold maxLen; omega
      case c2 => omega
      case c3 => omega
      intro v' w3 hown' hgrow _
      have R := hide (join_step (unhide HB) (unhide HO) (by rw [nmb_len]; exact hown') hgrow)
      clear hown' hgrow
      go_wp2
      go_roundw
      case rel => exact ⟨k + 1, by omega, by go_num, hide (unhide R).1, hide (unhide R).2⟩
      case measure => simp [intOf]; omega
    · obtain rfl : k = l.length := by omega
      have hcv := conv_owned wr _ _ _ _ (unhide HO)
      rw [nmb_str] at hcv
      go_wp2
      go_ret
      exact ⟨rfl, unhide HB⟩
set_option maxHeartbeats 1000000 in
theorem lwJoin_nil (a : Option Addr) (cap : Nat) (l : List ByteArray) (w : World) (h0 : l.length = 0) :
    Calls Tryd.prog 9 #[.slice a l.length cap] w fun e w' => e = .returned (.string (jnk l l.length)) ∧ Below w.heap.size w w' := by
  have H0 := hide h0
  clear h0
  have hl : l.length ≤ 1048576 := by rw [unhide H0]; omega
  have HO0 : Hid ((w.alloc (.cells #[] 5)).ownsRow w.heap.size 5 1 (.slice (some ⟨w.heap.size, 0, none⟩) 0 0) (nmb (jnk l 0)).length ((nmb (jnk l 0)).map (Value.int .u8))) := hide (World.ownsRow_lit w #[] 0 (Nat.le_refl _) (by unfold maxLen; omega) rfl)
  have HB0 : Hid (Below w.heap.size w (w.alloc (.cells #[] 5))) := hide ((Below.refl _ _).alloc (Nat.le_refl _) _)
  go_enter Tryd.func9, Tryd.ntmps9
  go_wp2
  go_loopw [3, 4] (fun s i wr => ∃ k : Nat, k ≤ l.length ∧ i = .int .i64 k ∧ Hid (wr.ownsRow w.heap.size 5 1 s (nmb (jnk l k)).length ((nmb (jnk l k)).map (Value.int .u8))) ∧ Hid (Below w.heap.size w wr)) (fun _ i _ => l.length - (intOf i).toNat)
  case atStart => exact ⟨0, Nat.zero_le _, rfl, HO0, HB0⟩
  case round =>
    obtain ⟨k, hk, rfl, HO, HB⟩ := hrel
    clear HO0 HB0
    have hge : ¬ k < l.length := by have := unhide H0; omega
    obtain rfl : k = l.length := by omega
    have hcv := conv_owned wr _ _ _ _ (unhide HO)
    rw [nmb_str] at hcv
    go_wp2
    go_ret
    exact ⟨rfl, unhide HB⟩
theorem lwJoin (v : Value) (l : List ByteArray) (w : World) (h : StrsAt w v l) (hl : l.length ≤ 1048576) (hj : ∀ k, k ≤ l.length → (jnk l k).size ≤ 1048576) :
    Calls Tryd.prog 9 #[v] w fun e w' => e = .returned (.string (jnk l l.length)) ∧ Below w.heap.size w w' := by
  obtain ⟨a, cap, rfl, h⟩ := h
  rcases h with h | ⟨b, off, rfl, hbs, hc⟩
  · exact lwJoin_nil a cap l w (by rw [h]; rfl)
  · exact lwJoin_at b off cap l w hbs hc hl hj
end Chr
end Go.Proofs.YtjcgchmncgihbaaDoor
