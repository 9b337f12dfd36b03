/- TextOf of the program, of the specification, and their law. -/
import Derived.Test.YthjjojkabbepdaaDoorNTextE
namespace Go.Proofs.YthjjojkabbepdaaDoor
open Go.RowKit
theorem isPt_broken : isPt 65533 = true := by decide
theorem enc_bad (p : Int) (h : isPt p = false) : Lib.encodeRuneZ 65533 = Lib.encodeRuneZ p := by
  have hn : ¬ (0 ≤ p ∧ p ≤ 1114111 ∧ (p < 55296 ∨ 57343 < p)) := fun hh => by rw [(isPt_iff p).2 hh] at h; cases h
  rw [Lib.encodeRuneZ_bad (r := p) (by omega), Lib.encodeRuneZ_three (r := 65533) (.inr (by omega))]
  rfl
theorem impl_step {w wr w2 : World} {v' : Value} {l : List Int} {k : Nat} {r : Int} (hk : k < l.length) (he : Lib.encodeRuneZ r = Lib.encodeRuneZ (nth l k)) (hb : Below w.heap.size w wr)
    (ho2 : w2.ownsRow w.heap.size 5 1 v' ((textL (l.take k)).length + (Lib.encodeRuneZ r).length) ((textL (l.take k)).map (Value.int .u8) ++ runeCells r))
    (hb2 : Below w.heap.size wr w2) : w2.ownsRow w.heap.size 5 1 v' (textL (l.take (k + 1))).length ((textL (l.take (k + 1))).map (Value.int .u8)) ∧ Below w.heap.size w w2 := by
  refine ⟨?_, hb.trans hb2⟩
  rw [textL_snoc l k hk, List.length_append, List.map_append, ← he]
  exact ho2
set_option maxHeartbeats 1000000 in
theorem implText_nil (a : Option Addr) (cap : Nat) (l : List Int) (w : World) (h0 : l.length = 0) :
    Calls Tryd.prog 44 #[.slice a l.length cap] w fun e w' => e = .returned (.string (strOfNums (textL l))) ∧ Below w.heap.size w w' := by
  obtain ⟨i0, hi, hz0, hz1, hz2⟩ := info_parts info5
  have H0 := hide h0
  clear h0
  have hl : l.length ≤ 600000 := by rw [unhide H0]; omega
  go_enter Tryd.func44, Tryd.ntmps44
  go_wp2_with (at_make; refine wpList_make_own _ rfl _ _ 22 rfl w.heap.size 5 i0 (.int .u8 0) 1 Tryd.underlying22 hi hz0 hz1 .i64 .i64 _ l.length rfl rfl rfl ?b2 ?b3 ?b4 ?_)
  case b2 => rw [hz2]; omega
  case b3 => unfold maxLen; omega
  case b4 => omega
  intro w1 hown hgrow
  have HO0 : Hid (w1.ownsRow w.heap.size 5 1 (.slice (some ⟨w.heap.size, 0, none⟩) 0 l.length) (textL (l.take 0)).length ((textL (l.take 0)).map (Value.int .u8))) := hide hown
  have HB0 := hide (made_below hgrow)
  clear hown hgrow
  go_wp2
  go_loopw [3, 11] (fun s i wr => ∃ k : Nat, k ≤ l.length ∧ i = .int .i64 k ∧ Hid (wr.ownsRow w.heap.size 5 1 s (textL (l.take k)).length ((textL (l.take k)).map (Value.int .u8))) ∧ Hid (Below w.heap.size w wr)) (fun _ i _ => l.length - (intOf i).toNat)
  case atStart => exact ⟨0, Nat.zero_le _, rfl, HO0, HB0⟩
  case round =>
    obtain ⟨k, hk, rfl, HO, HB⟩ := hrel
    clear HO0 HB0
    by_cases hlt : k < l.length
    · have := unhide H0; omega
    · obtain rfl : k = l.length := by omega
      have hcv := conv_owned wr _ _ _ _ (unhide HO)
      rw [List.take_length] at hcv
      go_wp2
      go_ret
      exact ⟨rfl, unhide HB⟩
set_option maxHeartbeats 1000000 in
theorem implText_at (b off cap : Nat) (l : List Int) (w : World) (hbs : b < w.heap.size) (hc : ∀ i, i < l.length → w.cell? ⟨b, off + i, none⟩ = some (.int .i64 (nth l i))) (hl : l.length ≤ 600000) :
    Calls Tryd.prog 44 #[.slice (some ⟨b, off, none⟩) l.length cap] w fun e w' => e = .returned (.string (strOfNums (textL l))) ∧ Below w.heap.size w w' := by
  obtain ⟨i0, hi, hz0, hz1, hz2⟩ := info_parts info5
  have HC := hide hc
  clear hc
  go_enter Tryd.func44, Tryd.ntmps44
  go_wp2_with (at_make; refine wpList_make_own _ rfl _ _ 22 rfl w.heap.size 5 i0 (.int .u8 0) 1 Tryd.underlying22 hi hz0 hz1 .i64 .i64 _ l.length rfl rfl rfl ?b2 ?b3 ?b4 ?_)
  case b2 => rw [hz2]; omega
  case b3 => unfold maxLen; omega
  case b4 => omega
  intro w1 hown hgrow
  have HO0 : Hid (w1.ownsRow w.heap.size 5 1 (.slice (some ⟨w.heap.size, 0, none⟩) 0 l.length) (textL (l.take 0)).length ((textL (l.take 0)).map (Value.int .u8))) := hide hown
  have HB0 := hide (made_below hgrow)
  clear hown hgrow
  go_wp2
  go_loopw [3, 11] (fun s i wr => ∃ k : Nat, k ≤ l.length ∧ i = .int .i64 k ∧ Hid (wr.ownsRow w.heap.size 5 1 s (textL (l.take k)).length ((textL (l.take k)).map (Value.int .u8))) ∧ Hid (Below w.heap.size w wr)) (fun _ i _ => l.length - (intOf i).toNat)
  case atStart => exact ⟨0, Nat.zero_le _, rfl, HO0, HB0⟩
  case round =>
    obtain ⟨k, hk, rfl, HO, HB⟩ := hrel
    clear HO0 HB0
    by_cases hlt : k < l.length
    · have c1 := ((unhide HB).cell (p := ⟨b, off + k, none⟩) hbs).trans ((unhide HC) k hlt)
      have hle := textL_take l k
      have hbse := (unhide HB).size
      cases hp : isPt (nth l k)
      · have HE := hide (enc_bad (nth l k) hp)
        have HP := hide isPt_broken
        go_wp2_with (first | (go_at_call 58; refine (isPointP (nth l k) _).mono ?_; rintro e w' ⟨rfl, rfl⟩) | (go_at_call 52; refine (append_any w.heap.size _ _ _ 65533 (unhide HP) _ (unhide HO) (by omega) (by omega)).mono ?_; rintro e w2 ⟨v', rfl, ho2, hb2⟩))
        have R := hide (impl_step hlt (unhide HE) (unhide HB) ho2 hb2)
        clear ho2 hb2
        go_wp2
        go_roundw
        case rel => exact ⟨k + 1, by omega, by go_num, hide (unhide R).1, hide (unhide R).2⟩
        case measure => simp [intOf]; omega
      · have HP := hide hp
        have hpb := (isPt_iff _).1 hp
        have hp0 := hpb.1
        have hp1 := hpb.2.1
        clear hpb
        go_wp2_with (first | (go_at_call 58; refine (isPointP (nth l k) _).mono ?_; rintro e w' ⟨rfl, rfl⟩) | (go_at_call 52; refine (append_any w.heap.size _ _ _ (nth l k) (unhide HP) _ (unhide HO) (by omega) (by omega)).mono ?_; rintro e w2 ⟨v', rfl, ho2, hb2⟩))
        have R := hide (impl_step hlt rfl (unhide HB) ho2 hb2)
        clear ho2 hb2
        go_wp2
        go_roundw
        case rel => exact ⟨k + 1, by omega, by go_num, hide (unhide R).1, hide (unhide R).2⟩
        case measure => simp [intOf]; omega
    · obtain rfl : k = l.length := by omega
      have hcv := conv_owned wr _ _ _ _ (unhide HO)
      rw [List.take_length] at hcv
      go_wp2
      go_ret
      exact ⟨rfl, unhide HB⟩
theorem implWritten (v : Value) (l : List Int) (w : World) (h : IntsAt w v l) (hl : l.length ≤ 600000) :
    Calls Tryd.prog 44 #[v] w fun e w' => e = .returned (.string (strOfNums (textL l))) ∧ Below w.heap.size w w' := by
  obtain ⟨a, cap, rfl, h⟩ := h
  rcases h with h | ⟨b, off, rfl, hbs, hc⟩
  · exact implText_nil a cap l w (by rw [h]; rfl)
  · exact implText_at b off cap l w hbs hc hl
theorem small_any (s : ByteArray) (w : World) (h : s.size ≤ 65536) : Calls Tryd.prog 21 #[.string s] w fun e w' => e = .returned (.string s) ∧ w' = w := by
  go_enter Tryd.func21, Tryd.ntmps21
  go_wp2
  go_ret
  exact ⟨rfl, rfl⟩
end Go.Proofs.YthjjojkabbepdaaDoor
