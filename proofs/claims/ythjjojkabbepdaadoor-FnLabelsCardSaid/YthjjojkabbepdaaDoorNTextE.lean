/- TextOf of the program and of the specification answer with the bytes of the points. -/
import Derived.Test.YthjjojkabbepdaaDoorIntA
import Derived.Test.YthjjojkabbepdaaDoorNApp
import Derived.Lib.AppendStr
import Derived.Lib.BufferRead
import Derived.Outline
namespace Go.Proofs.YthjjojkabbepdaaDoor
open Go.RowKit
def textL (l : List Int) : List Int := l.flatMap Lib.encodeRuneZ
theorem textL_snoc (l : List Int) (k : Nat) (h : k < l.length) : textL (l.take (k + 1)) = textL (l.take k) ++ Lib.encodeRuneZ (nth l k) := by
  have e : nth l k = l[k] := by simp [nth, List.getD, h]
  rw [List.take_succ_eq_append_getElem h, e]
  unfold textL
  rw [List.flatMap_append, List.flatMap_singleton]
theorem textL_le (l : List Int) : (textL l).length ≤ 4 * l.length := by
  induction l with
  | nil => simp [textL]
  | cons a t ih =>
    have h1 := (Lib.encodeRuneZ_length a).2
    have h2 : textL (a :: t) = Lib.encodeRuneZ a ++ textL t := by simp [textL]
    rw [h2, List.length_append, List.length_cons]
    omega
theorem textL_take (l : List Int) (k : Nat) : (textL (l.take k)).length ≤ 4 * k := by
  have h1 := textL_le (l.take k)
  have h2 : (l.take k).length ≤ k := List.length_take_le _ _
  omega
theorem conv_owned (w : World) (B : Nat) (v : Value) (n : Nat) (zs : List Int) (h : w.ownsRow B 5 1 v n (zs.map (Value.int .u8))) :
    (convert 22 9 v).run Tryd.prog w = .ok (.string (strOfNums zs)) w := by
  have hl : zs.length = n := by simpa using h.1
  rcases h.2 with ⟨rfl, hn⟩ | ⟨g, cap, cur, hv, hg, hh, hn, hm, hs, ht⟩
  · obtain rfl : zs = [] := List.length_eq_zero_iff.1 (by omega)
    exact Lib.run_convert_nil_bytes w 22 9 5 0 Tryd.underlying22 Tryd.underlying5 Tryd.underlying9
  · subst hv
    refine conv_of w g cap zs n hl fun i hi => ?_
    rw [h.cellAt i (by omega), List.getElem?_map]
    simp [List.getD, show i < zs.length by omega]
theorem strCells_nums (zs : List Int) (h : ∀ x ∈ zs, 0 ≤ x ∧ x < 256) : Lib.strCells (strOfNums zs) = zs.map (Value.int .u8) := by
  unfold Lib.strCells
  rw [strOfNums_data, List.map_map]
  apply List.map_congr_left
  intro x hx
  have := h x hx
  simp only [Function.comp]
  congr 1
  rw [UInt8.toNat_ofNat_of_lt' (by show x.toNat < 256; omega)]
  omega
theorem text_step {w wr w2 w3 : World} {s v' : Value} {l : List Int} {k : Nat} (hk : k < l.length) (hb : Below w.heap.size w wr) (hb2 : Below wr.heap.size wr w2)
    (ho2 : w2.ownsRow w.heap.size 5 1 s (textL (l.take k)).length ((textL (l.take k)).map (Value.int .u8)))
    (ho3 : w3.ownsRow w.heap.size 5 1 v' ((textL (l.take k)).length + (strOfNums (Lib.encodeRuneZ (nth l k))).size) ((textL (l.take k)).map (Value.int .u8) ++ Lib.strCells (strOfNums (Lib.encodeRuneZ (nth l k)))))
    (hg : w2.grownBy w3 s.ownBlock) : w3.ownsRow w.heap.size 5 1 v' (textL (l.take (k + 1))).length ((textL (l.take (k + 1))).map (Value.int .u8)) ∧ Below w.heap.size w w3 := by
  constructor
  · rw [textL_snoc l k hk, List.length_append, List.map_append]
    rw [strCells_nums _ (Lib.encodeRuneZ_byte _), strOfNums_size] at ho3
    exact ho3
  · exact (hb.trans (hb2.mono hb.size)).grown hg (Nat.le_trans hb.size hb2.size) (fun j hj => (ho2.lt j hj).1)
set_option maxHeartbeats 1000000 in
theorem l01Text_nil (a : Option Addr) (cap : Nat) (l : List Int) (w : World) (h0 : l.length = 0) :
    Calls Tryd.prog 20 #[.slice a l.length cap] w fun e w' => e = .returned (.string (strOfNums (textL l))) ∧ Below w.heap.size w w' := by
  obtain ⟨i0, hi, hz0, hz1, hz2⟩ := info_parts info5
  have H0 := hide h0
  clear h0
  have hl : l.length ≤ 600000 := by rw [unhide H0]; omega
  have HO0 : Hid ((w.alloc (.cells #[] 5)).ownsRow w.heap.size 5 1 (.slice (some ⟨w.heap.size, 0, none⟩) 0 0) (textL (l.take 0)).length ((textL (l.take 0)).map (Value.int .u8))) := hide (World.ownsRow_lit w #[] 0 (Nat.le_refl _) (by unfold maxLen; omega) rfl)
  have HB0 : Hid (Below w.heap.size w (w.alloc (.cells #[] 5))) := hide ((Below.refl _ _).alloc (Nat.le_refl _) _)
  go_enter Tryd.func20, Tryd.ntmps20
  go_wp2
  go_loopw [3, 4] (fun s i wr => ∃ k : Nat, k ≤ l.length ∧ i = .int .i64 k ∧ Hid (wr.ownsRow w.heap.size 5 1 s (textL (l.take k)).length ((textL (l.take k)).map (Value.int .u8))) ∧ Hid (Below w.heap.size w wr)) (fun _ i _ => l.length - (intOf i).toNat)
  case atStart => exact ⟨0, Nat.zero_le _, rfl, HO0, HB0⟩
  case round =>
    obtain ⟨k, hk, rfl, HO, HB⟩ := hrel
    clear HO0 HB0
    by_cases hlt : k < l.length
    · have := unhide H0; omega
    · obtain rfl : k = l.length := by omega
      have hcv := conv_owned wr _ _ _ _ (unhide HO)
      rw [List.take_length] at hcv
      go_wp2
      go_ret
      exact ⟨rfl, unhide HB⟩
set_option maxHeartbeats 1000000 in
theorem l01Text_at (b off cap : Nat) (l : List Int) (w : World) (hbs : b < w.heap.size) (hc : ∀ i, i < l.length → w.cell? ⟨b, off + i, none⟩ = some (.int .i64 (nth l i))) (hl : l.length ≤ 600000) :
    Calls Tryd.prog 20 #[.slice (some ⟨b, off, none⟩) l.length cap] w fun e w' => e = .returned (.string (strOfNums (textL l))) ∧ Below w.heap.size w w' := by
  obtain ⟨i0, hi, hz0, hz1, hz2⟩ := info_parts info5
  have HC := hide hc
  clear hc
  have HO0 : Hid ((w.alloc (.cells #[] 5)).ownsRow w.heap.size 5 1 (.slice (some ⟨w.heap.size, 0, none⟩) 0 0) (textL (l.take 0)).length ((textL (l.take 0)).map (Value.int .u8))) := hide (World.ownsRow_lit w #[] 0 (Nat.le_refl _) (by unfold maxLen; omega) rfl)
  have HB0 : Hid (Below w.heap.size w (w.alloc (.cells #[] 5))) := hide ((Below.refl _ _).alloc (Nat.le_refl _) _)
  go_enter Tryd.func20, Tryd.ntmps20
  go_wp2
  go_loopw [3, 4] (fun s i wr => ∃ k : Nat, k ≤ l.length ∧ i = .int .i64 k ∧ Hid (wr.ownsRow w.heap.size 5 1 s (textL (l.take k)).length ((textL (l.take k)).map (Value.int .u8))) ∧ Hid (Below w.heap.size w wr)) (fun _ i _ => l.length - (intOf i).toNat)
  case atStart => exact ⟨0, Nat.zero_le _, rfl, HO0, HB0⟩
  case round =>
    obtain ⟨k, hk, rfl, HO, HB⟩ := hrel
    clear HO0 HB0
    by_cases hlt : k < l.length
    · have c1 := ((unhide HB).cell (p := ⟨b, off + k, none⟩) hbs).trans ((unhide HC) k hlt)
      have hle := textL_take l k
      have hel := (Lib.encodeRuneZ_length (nth l k)).2
      have hsz : (strOfNums (Lib.encodeRuneZ (nth l k))).size ≤ 4 := by rw [strOfNums_size]; exact hel
      have hbse := (unhide HB).size
      go_wp2_with (first | (go_at_call 31; refine (write_any (nth l k) _).mono ?_; rintro e w2 ⟨rfl, hb2⟩; have HB2 := hide hb2; have hb2s := hb2.size; clear hb2; have HO2 := hide (ownsRow_below (unhide HO) (unhide HB2))) | (at_builtin; refine Lib.wpList_append_own_string _ rfl _ _ 22 9 rfl w.heap.size 5 i0 Tryd.underlying22 Tryd.underlying9 hi hz0 hz1 hz2 _ _ _ rfl (unhide HO2) _ rfl ?c1 ?c2 ?c3 ?_))
      case c1 => unfold maxLen; omega
      case c2 => omega
      case c3 => omega
      intro v' w3 hown' hgrow _
      have R := hide (text_step hlt (unhide HB) (unhide HB2) (unhide HO2) hown' hgrow)
      clear hown' hgrow
      go_wp2
      go_roundw
      case rel => exact ⟨k + 1, by omega, by go_num, hide (unhide R).1, hide (unhide R).2⟩
      case measure => simp [intOf]; omega
    · obtain rfl : k = l.length := by omega
      have hcv := conv_owned wr _ _ _ _ (unhide HO)
      rw [List.take_length] at hcv
      go_wp2
      go_ret
      exact ⟨rfl, unhide HB⟩
theorem l01Text (v : Value) (l : List Int) (w : World) (h : IntsAt w v l) (hl : l.length ≤ 600000) :
    Calls Tryd.prog 20 #[v] w fun e w' => e = .returned (.string (strOfNums (textL l))) ∧ Below w.heap.size w w' := by
  obtain ⟨a, cap, rfl, h⟩ := h
  rcases h with h | ⟨b, off, rfl, hbs, hc⟩
  · exact l01Text_nil a cap l w (by rw [h]; rfl)
  · exact l01Text_at b off cap l w hbs hc hl
end Go.Proofs.YthjjojkabbepdaaDoor
