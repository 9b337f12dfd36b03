/- The program's Encode. -/
import Derived.Test.YtiianallpmfcbaaEncW
import Derived.Test.YtiianallpmfcbaaPointsI
import Derived.Lib.OthersKept
namespace Go.Proofs.Ytiianallpmfcbaa
open Go.RowKit
theorem formOf_none (f : Int) (hf : f < 1 ∨ 5 < f) (w : World) : Calls Try.prog 33 #[.int .i64 f] w fun e w' => e = .returned .nilIface ∧ w' = w := by
  have h1 : (f == 1) = false := by rw [beq_eq_false_iff_ne]; omega
  have h2 : (f == 2) = false := by rw [beq_eq_false_iff_ne]; omega
  have h3 : (f == 3) = false := by rw [beq_eq_false_iff_ne]; omega
  have h4 : (f == 4) = false := by rw [beq_eq_false_iff_ne]; omega
  have h5 : (f == 5) = false := by rw [beq_eq_false_iff_ne]; omega
  clear hf
  go_enter Try.func33, Try.ntmps33
  go_wp2
  go_ret
  exact ⟨rfl, rfl⟩
theorem formOf_1 (w : World) : Calls Try.prog 33 #[.int .i64 1] w fun e w' => e = .returned (.iface 78 (.agg #[])) ∧ w' = w := by
  go_enter Try.func33, Try.ntmps33
  go_wp2
  go_ret
  exact ⟨rfl, rfl⟩
theorem formOf_2 (w : World) : Calls Try.prog 33 #[.int .i64 2] w fun e w' => e = .returned (.iface 82 (.agg #[.int .i64 2, .bool false])) ∧ w' = w := by
  go_enter Try.func33, Try.ntmps33
  go_wp2
  go_ret
  exact ⟨rfl, rfl⟩
theorem formOf_3 (w : World) : Calls Try.prog 33 #[.int .i64 3] w fun e w' => e = .returned (.iface 82 (.agg #[.int .i64 2, .bool true])) ∧ w' = w := by
  go_enter Try.func33, Try.ntmps33
  go_wp2
  go_ret
  exact ⟨rfl, rfl⟩
theorem formOf_4 (w : World) : Calls Try.prog 33 #[.int .i64 4] w fun e w' => e = .returned (.iface 83 (.agg #[.int .i64 4, .bool false])) ∧ w' = w := by
  go_enter Try.func33, Try.ntmps33
  go_wp2
  go_ret
  exact ⟨rfl, rfl⟩
theorem formOf_5 (w : World) : Calls Try.prog 33 #[.int .i64 5] w fun e w' => e = .returned (.iface 83 (.agg #[.int .i64 4, .bool true])) ∧ w' = w := by
  go_enter Try.func33, Try.ntmps33
  go_wp2
  go_ret
  exact ⟨rfl, rfl⟩
theorem lay_1 (p : Int) (hp : isPt p = true) (B : Nat) (v : Value) (L : List Int) (w : World) (hown : w.ownsRow B 5 1 v L.length (L.map (Value.int .u8))) (hlen : L.length ≤ 999990) (hB : B ≤ w.heap.size) :
    Calls Try.prog 86 #[.agg #[], v, .int .i64 p] w fun e w' => Wrote 1 p B L w e w' := eightLay B v L p hp w hown hlen hB
theorem lay_2 (p : Int) (hp : isPt p = true) (B : Nat) (v : Value) (L : List Int) (w : World) (hown : w.ownsRow B 5 1 v L.length (L.map (Value.int .u8))) (hlen : L.length ≤ 999990) (hB : B ≤ w.heap.size) :
    Calls Try.prog 94 #[.agg #[.int .i64 2, .bool false], v, .int .i64 p] w fun e w' => Wrote 2 p B L w e w' := by
  have hb := (isPt_iff p).1 hp
  by_cases h : p ≤ 65535
  · exact sixLay_low _ 2 B v L p (by unfold encP; rw [if_neg (by omega), if_neg (by omega), if_pos (by omega)]; rfl) h w hown hlen hB
  · exact sixLay_high _ 2 B v L p (by unfold encP; rw [if_neg (by omega), if_neg (by omega), if_neg (by omega)]; rfl) (by omega) hb.2.1 w hown hlen hB
theorem lay_3 (p : Int) (hp : isPt p = true) (B : Nat) (v : Value) (L : List Int) (w : World) (hown : w.ownsRow B 5 1 v L.length (L.map (Value.int .u8))) (hlen : L.length ≤ 999990) (hB : B ≤ w.heap.size) :
    Calls Try.prog 94 #[.agg #[.int .i64 2, .bool true], v, .int .i64 p] w fun e w' => Wrote 3 p B L w e w' := by
  have hb := (isPt_iff p).1 hp
  by_cases h : p ≤ 65535
  · exact sixLay_low _ 3 B v L p (by unfold encP; rw [if_neg (by omega), if_neg (by omega), if_pos (by omega)]; rfl) h w hown hlen hB
  · exact sixLay_high _ 3 B v L p (by unfold encP; rw [if_neg (by omega), if_neg (by omega), if_neg (by omega)]; rfl) (by omega) hb.2.1 w hown hlen hB
theorem lay_4 (p : Int) (_hp : isPt p = true) (B : Nat) (v : Value) (L : List Int) (w : World) (hown : w.ownsRow B 5 1 v L.length (L.map (Value.int .u8))) (hlen : L.length ≤ 999990) (hB : B ≤ w.heap.size) :
    Calls Try.prog 102 #[.agg #[.int .i64 4, .bool false], v, .int .i64 p] w fun e w' => Wrote 4 p B L w e w' :=
  wideLay _ 4 (by funext q; unfold encP; rw [if_neg (by omega), if_pos (by omega)]; rfl) B v L p w hown hlen hB
theorem lay_5 (p : Int) (_hp : isPt p = true) (B : Nat) (v : Value) (L : List Int) (w : World) (hown : w.ownsRow B 5 1 v L.length (L.map (Value.int .u8))) (hlen : L.length ≤ 999990) (hB : B ≤ w.heap.size) :
    Calls Try.prog 102 #[.agg #[.int .i64 4, .bool true], v, .int .i64 p] w fun e w' => Wrote 5 p B L w e w' :=
  wideLay _ 5 (by funext q; unfold encP; rw [if_neg (by omega), if_pos (by omega)]; rfl) B v L p w hown hlen hB
theorem notRow_iter (s : ByteArray) (pos : Nat) : NotRow (.stringIter s pos) := by
  intro cs fz e; cases e
theorem own_shape {w : World} {B : Nat} {v : Value} {n : Nat} {xs : List Value} (h : w.ownsRow B 5 1 v n xs) : ∃ a c, v = .slice a n c := by
  rcases h.2 with ⟨hv, hn⟩ | ⟨g, cap, cur, hv, _⟩
  · exact ⟨none, 0, by rw [hv, hn]⟩
  · exact ⟨_, _, hv⟩
theorem dP_isPt (s : ByteArray) (pos : Nat) : isPt (dP s pos : Int) = true := dP_pt s pos
set_option maxHeartbeats 2000000 in
set_option maxRecDepth 100000 in
theorem implEncode_1 (s : ByteArray) (w : World) (hs : s.size ≤ 65536) :
    Calls Try.prog 11 #[.int .i64 1, .string s] w fun e w' => e = .returned (.string (strOfNums (encOut 1 s))) ∧ Below w.heap.size w w' := by
  obtain ⟨i0, hi, hz0, hz1, hz2⟩ := info_parts info5
  go_enter Try.func11, Try.ntmps11
  go_wp2_with fail
  refine (formOf_1 _).mono ?_
  rintro e w0 ⟨rfl, rfl⟩
  go_wp2_with ((at_make; refine wpList_make_own _ rfl _ _ 22 rfl w0.heap.size 5 i0 (.int .u8 0) 1 Try.underlying22 hi hz0 hz1 .i64 .i64 _ s.size rfl rfl rfl ?b2 ?b3 ?b4 ?_))
  case b2 => rw [hz2]; omega
  case b3 => unfold maxLen; omega
  case b4 => omega
  intro w1 hown hgrow
  have hw1 := (made_below hgrow).size
  have HO0 : Hid ((w1.iter s 0).ownsRow w0.heap.size 5 1 (.slice (some ⟨w0.heap.size, 0, none⟩) 0 s.size) (encL 1 []).length ((encL 1 []).map (Value.int .u8))) := hide (owned_alloc hown _)
  have HB0 : Hid (Below w0.heap.size w0 (w1.iter s 0)) := hide ((made_below hgrow).alloc hw1 _)
  have HI0 : Hid ((w1.iter s 0).heap[w1.heap.size]? = some (.stringIter s 0)) := hide (World.iter_heap w1 s 0)
  clear hown hgrow
  go_wp2
  go_loopw [6] (fun v wr => ∃ (n : Nat) (L : List Int) (pos : Nat), Hid (steps s n = (L, pos)) ∧ pos ≤ s.size ∧ L.length ≤ pos ∧ Hid (wr.heap[w1.heap.size]? = some (.stringIter s pos)) ∧ Hid (wr.ownsRow w0.heap.size 5 1 v (encL 1 L).length ((encL 1 L).map (Value.int .u8))) ∧ Hid (Below w0.heap.size w0 wr)) (fun _ wr => s.size - wr.iterPos w1.heap.size)
  case atStart => exact ⟨0, [], 0, hide rfl, by omega, by simp, HI0, HO0, HB0⟩
  case round =>
    obtain ⟨n, L, pos, HS, hpos, hL, HI, HO, HB⟩ := hrel
    clear HO0 HB0 HI0
    have HM := hide (iterPos_of (unhide HI))
    by_cases hlt : pos < s.size
    · have hbd := dN_bd s pos hlt
      have d1 := hbd.1
      have d2 := hbd.2.1
      have d3 := hbd.2.2
      have hBs := (unhide HB).size
      have HS' := hide (pts_step (unhide HS) hlt)
      have HP := hide (dP_isPt s pos)
      have hLe := encL_le 1 L
      have HE : Hid (encL 1 (L ++ [(dP s pos : Int)]) = encL 1 L ++ encP 1 (dP s pos : Int)) := hide (by unfold encL; rw [List.flatMap_append, List.flatMap_singleton])
      have hnx : ∀ ty, (Instr.next (.pointer (some ⟨w1.heap.size, 0, none⟩)) true ty).run Try.prog wr = .ok (.tuple #[.bool true, .int .i64 pos, .int .i32 (dP s pos)]) (wr.iterAt w1.heap.size s (pos + dN s pos)) := fun ty => Lib.run_next_any_at wr _ s pos ty (unhide HI) hlt
      obtain ⟨w2, hw2⟩ : ∃ w2, wr.iterAt w1.heap.size s (pos + dN s pos) = w2 := ⟨_, rfl⟩
      rw [hw2] at hnx
      have HI2 : Hid (w2.heap[w1.heap.size]? = some (.stringIter s (pos + dN s pos))) := hide (by rw [← hw2]; exact Lib.iterAt_heap wr _ s pos _ (unhide HI))
      have HO2 : Hid (w2.ownsRow w0.heap.size 5 1 _ (encL 1 L).length ((encL 1 L).map (Value.int .u8))) := hide (by rw [← hw2]; exact owned_iterAt (unhide HO) (unhide HI) _)
      have HB2 : Hid (Below w0.heap.size wr w2) := hide (by rw [← hw2]; exact Lib.below_iterAt (Below.refl _ _) hw1 _ _)
      have hs2 : wr.heap.size ≤ w2.heap.size := (unhide HB2).size
      clear hbd hw2
      generalize encL 1 L = M at *
      go_wp2_with fail
      refine (lay_1 _ (unhide HP) w0.heap.size _ M _ (unhide HO2) (by omega) (by omega)).mono ?_
      rintro e w3 ⟨v', rfl, ho, hb, hk⟩
      have HI3 : Hid (w3.heap[w1.heap.size]? = some (.stringIter s (pos + dN s pos))) := hide (hk _ _ (unhide HI2) (notRow_iter _ _))
      have HB3 := hide (((unhide HB).trans (unhide HB2)).trans hb)
      have HO3 := hide ho
      have HM3 := hide (iterPos_of (unhide HI3))
      clear ho hb hk
      go_wp2
      go_roundw
      case rel => exact ⟨n + 1, L ++ [(dP s pos : Int)], pos + dN s pos, HS', by omega, by simp; omega, HI3, hide (by rw [unhide HE]; exact unhide HO3), HB3⟩
      case measure => rw [unhide HM, unhide HM3]; omega
    · have hnx : ∀ ty, (Instr.next (.pointer (some ⟨w1.heap.size, 0, none⟩)) true ty).run Try.prog wr = .ok (.tuple #[.bool false]) wr := fun ty => Lib.run_next_end_at wr _ s pos ty (unhide HI) hlt
      have e := steps_pts s n (by rw [unhide HS]; show s.size ≤ pos; omega)
      rw [unhide HS] at e
      have e' : L = pts s := e
      obtain ⟨va, vc, hv⟩ := own_shape (unhide HO)
      subst hv
      by_cases hbig : 65536 < (encL 1 L).length
      · have HR : Hid (encOut 1 s = []) := hide (by unfold encOut; rw [if_neg (by omega), if_neg (by omega), ← e', if_pos hbig])
        clear e e'
        generalize encL 1 L = M at *
        go_wp2
        go_ret
        exact ⟨by rw [unhide HR]; rfl, unhide HB⟩
      · have HR : Hid (encOut 1 s = encL 1 L) := hide (by unfold encOut; rw [if_neg (by omega), if_neg (by omega), ← e', if_neg hbig])
        clear e e'
        generalize encL 1 L = M at *
        have hcv := conv_owned wr _ _ _ _ (unhide HO)
        have hsm : M.length ≤ 65536 := by omega
        go_wp2
        go_ret
        exact ⟨by rw [unhide HR]; rfl, unhide HB⟩
set_option maxHeartbeats 2000000 in
set_option maxRecDepth 100000 in
theorem implEncode_2 (s : ByteArray) (w : World) (hs : s.size ≤ 65536) :
    Calls Try.prog 11 #[.int .i64 2, .string s] w fun e w' => e = .returned (.string (strOfNums (encOut 2 s))) ∧ Below w.heap.size w w' := by
  obtain ⟨i0, hi, hz0, hz1, hz2⟩ := info_parts info5
  go_enter Try.func11, Try.ntmps11
  go_wp2_with fail
  refine (formOf_2 _).mono ?_
  rintro e w0 ⟨rfl, rfl⟩
  go_wp2_with ((at_make; refine wpList_make_own _ rfl _ _ 22 rfl w0.heap.size 5 i0 (.int .u8 0) 1 Try.underlying22 hi hz0 hz1 .i64 .i64 _ s.size rfl rfl rfl ?b2 ?b3 ?b4 ?_))
  case b2 => rw [hz2]; omega
  case b3 => unfold maxLen; omega
  case b4 => omega
  intro w1 hown hgrow
  have hw1 := (made_below hgrow).size
  have HO0 : Hid ((w1.iter s 0).ownsRow w0.heap.size 5 1 (.slice (some ⟨w0.heap.size, 0, none⟩) 0 s.size) (encL 2 []).length ((encL 2 []).map (Value.int .u8))) := hide (owned_alloc hown _)
  have HB0 : Hid (Below w0.heap.size w0 (w1.iter s 0)) := hide ((made_below hgrow).alloc hw1 _)
  have HI0 : Hid ((w1.iter s 0).heap[w1.heap.size]? = some (.stringIter s 0)) := hide (World.iter_heap w1 s 0)
  clear hown hgrow
  go_wp2
  go_loopw [6] (fun v wr => ∃ (n : Nat) (L : List Int) (pos : Nat), Hid (steps s n = (L, pos)) ∧ pos ≤ s.size ∧ L.length ≤ pos ∧ Hid (wr.heap[w1.heap.size]? = some (.stringIter s pos)) ∧ Hid (wr.ownsRow w0.heap.size 5 1 v (encL 2 L).length ((encL 2 L).map (Value.int .u8))) ∧ Hid (Below w0.heap.size w0 wr)) (fun _ wr => s.size - wr.iterPos w1.heap.size)
  case atStart => exact ⟨0, [], 0, hide rfl, by omega, by simp, HI0, HO0, HB0⟩
  case round =>
    obtain ⟨n, L, pos, HS, hpos, hL, HI, HO, HB⟩ := hrel
    clear HO0 HB0 HI0
    have HM := hide (iterPos_of (unhide HI))
    by_cases hlt : pos < s.size
    · have hbd := dN_bd s pos hlt
      have d1 := hbd.1
      have d2 := hbd.2.1
      have d3 := hbd.2.2
      have hBs := (unhide HB).size
      have HS' := hide (pts_step (unhide HS) hlt)
      have HP := hide (dP_isPt s pos)
      have hLe := encL_le 2 L
      have HE : Hid (encL 2 (L ++ [(dP s pos : Int)]) = encL 2 L ++ encP 2 (dP s pos : Int)) := hide (by unfold encL; rw [List.flatMap_append, List.flatMap_singleton])
      have hnx : ∀ ty, (Instr.next (.pointer (some ⟨w1.heap.size, 0, none⟩)) true ty).run Try.prog wr = .ok (.tuple #[.bool true, .int .i64 pos, .int .i32 (dP s pos)]) (wr.iterAt w1.heap.size s (pos + dN s pos)) := fun ty => Lib.run_next_any_at wr _ s pos ty (unhide HI) hlt
      obtain ⟨w2, hw2⟩ : ∃ w2, wr.iterAt w1.heap.size s (pos + dN s pos) = w2 := ⟨_, rfl⟩
      rw [hw2] at hnx
      have HI2 : Hid (w2.heap[w1.heap.size]? = some (.stringIter s (pos + dN s pos))) := hide (by rw [← hw2]; exact Lib.iterAt_heap wr _ s pos _ (unhide HI))
      have HO2 : Hid (w2.ownsRow w0.heap.size 5 1 _ (encL 2 L).length ((encL 2 L).map (Value.int .u8))) := hide (by rw [← hw2]; exact owned_iterAt (unhide HO) (unhide HI) _)
      have HB2 : Hid (Below w0.heap.size wr w2) := hide (by rw [← hw2]; exact Lib.below_iterAt (Below.refl _ _) hw1 _ _)
      have hs2 : wr.heap.size ≤ w2.heap.size := (unhide HB2).size
      clear hbd hw2
      generalize encL 2 L = M at *
      go_wp2_with fail
      refine (lay_2 _ (unhide HP) w0.heap.size _ M _ (unhide HO2) (by omega) (by omega)).mono ?_
      rintro e w3 ⟨v', rfl, ho, hb, hk⟩
      have HI3 : Hid (w3.heap[w1.heap.size]? = some (.stringIter s (pos + dN s pos))) := hide (hk _ _ (unhide HI2) (notRow_iter _ _))
      have HB3 := hide (((unhide HB).trans (unhide HB2)).trans hb)
      have HO3 := hide ho
      have HM3 := hide (iterPos_of (unhide HI3))
      clear ho hb hk
      go_wp2
      go_roundw
      case rel => exact ⟨n + 1, L ++ [(dP s pos : Int)], pos + dN s pos, HS', by omega, by simp; omega, HI3, hide (by rw [unhide HE]; exact unhide HO3), HB3⟩
      case measure => rw [unhide HM, unhide HM3]; omega
    · have hnx : ∀ ty, (Instr.next (.pointer (some ⟨w1.heap.size, 0, none⟩)) true ty).run Try.prog wr = .ok (.tuple #[.bool false]) wr := fun ty => Lib.run_next_end_at wr _ s pos ty (unhide HI) hlt
      have e := steps_pts s n (by rw [unhide HS]; show s.size ≤ pos; omega)
      rw [unhide HS] at e
      have e' : L = pts s := e
      obtain ⟨va, vc, hv⟩ := own_shape (unhide HO)
      subst hv
      by_cases hbig : 65536 < (encL 2 L).length
      · have HR : Hid (encOut 2 s = []) := hide (by unfold encOut; rw [if_neg (by omega), if_neg (by omega), ← e', if_pos hbig])
        clear e e'
        generalize encL 2 L = M at *
        go_wp2
        go_ret
        exact ⟨by rw [unhide HR]; rfl, unhide HB⟩
      · have HR : Hid (encOut 2 s = encL 2 L) := hide (by unfold encOut; rw [if_neg (by omega), if_neg (by omega), ← e', if_neg hbig])
        clear e e'
        generalize encL 2 L = M at *
        have hcv := conv_owned wr _ _ _ _ (unhide HO)
        have hsm : M.length ≤ 65536 := by omega
        go_wp2
        go_ret
        exact ⟨by rw [unhide HR]; rfl, unhide HB⟩
set_option maxHeartbeats 2000000 in
set_option maxRecDepth 100000 in
theorem implEncode_3 (s : ByteArray) (w : World) (hs : s.size ≤ 65536) :
    Calls Try.prog 11 #[.int .i64 3, .string s] w fun e w' => e = .returned (.string (strOfNums (encOut 3 s))) ∧ Below w.heap.size w w' := by
  obtain ⟨i0, hi, hz0, hz1, hz2⟩ := info_parts info5
  go_enter Try.func11, Try.ntmps11
  go_wp2_with fail
  refine (formOf_3 _).mono ?_
  rintro e w0 ⟨rfl, rfl⟩
  go_wp2_with ((at_make; refine wpList_make_own _ rfl _ _ 22 rfl w0.heap.size 5 i0 (.int .u8 0) 1 Try.underlying22 hi hz0 hz1 .i64 .i64 _ s.size rfl rfl rfl ?b2 ?b3 ?b4 ?_))
  case b2 => rw [hz2]; omega
  case b3 => unfold maxLen; omega
  case b4 => omega
  intro w1 hown hgrow
  have hw1 := (made_below hgrow).size
  have HO0 : Hid ((w1.iter s 0).ownsRow w0.heap.size 5 1 (.slice (some ⟨w0.heap.size, 0, none⟩) 0 s.size) (encL 3 []).length ((encL 3 []).map (Value.int .u8))) := hide (owned_alloc hown _)
  have HB0 : Hid (Below w0.heap.size w0 (w1.iter s 0)) := hide ((made_below hgrow).alloc hw1 _)
  have HI0 : Hid ((w1.iter s 0).heap[w1.heap.size]? = some (.stringIter s 0)) := hide (World.iter_heap w1 s 0)
  clear hown hgrow
  go_wp2
  go_loopw [6] (fun v wr => ∃ (n : Nat) (L : List Int) (pos : Nat), Hid (steps s n = (L, pos)) ∧ pos ≤ s.size ∧ L.length ≤ pos ∧ Hid (wr.heap[w1.heap.size]? = some (.stringIter s pos)) ∧ Hid (wr.ownsRow w0.heap.size 5 1 v (encL 3 L).length ((encL 3 L).map (Value.int .u8))) ∧ Hid (Below w0.heap.size w0 wr)) (fun _ wr => s.size - wr.iterPos w1.heap.size)
  case atStart => exact ⟨0, [], 0, hide rfl, by omega, by simp, HI0, HO0, HB0⟩
  case round =>
    obtain ⟨n, L, pos, HS, hpos, hL, HI, HO, HB⟩ := hrel
    clear HO0 HB0 HI0
    have HM := hide (iterPos_of (unhide HI))
    by_cases hlt : pos < s.size
    · have hbd := dN_bd s pos hlt
      have d1 := hbd.1
      have d2 := hbd.2.1
      have d3 := hbd.2.2
      have hBs := (unhide HB).size
      have HS' := hide (pts_step (unhide HS) hlt)
      have HP := hide (dP_isPt s pos)
      have hLe := encL_le 3 L
      have HE : Hid (encL 3 (L ++ [(dP s pos : Int)]) = encL 3 L ++ encP 3 (dP s pos : Int)) := hide (by unfold encL; rw [List.flatMap_append, List.flatMap_singleton])
      have hnx : ∀ ty, (Instr.next (.pointer (some ⟨w1.heap.size, 0, none⟩)) true ty).run Try.prog wr = .ok (.tuple #[.bool true, .int .i64 pos, .int .i32 (dP s pos)]) (wr.iterAt w1.heap.size s (pos + dN s pos)) := fun ty => Lib.run_next_any_at wr _ s pos ty (unhide HI) hlt
      obtain ⟨w2, hw2⟩ : ∃ w2, wr.iterAt w1.heap.size s (pos + dN s pos) = w2 := ⟨_, rfl⟩
      rw [hw2] at hnx
      have HI2 : Hid (w2.heap[w1.heap.size]? = some (.stringIter s (pos + dN s pos))) := hide (by rw [← hw2]; exact Lib.iterAt_heap wr _ s pos _ (unhide HI))
      have HO2 : Hid (w2.ownsRow w0.heap.size 5 1 _ (encL 3 L).length ((encL 3 L).map (Value.int .u8))) := hide (by rw [← hw2]; exact owned_iterAt (unhide HO) (unhide HI) _)
      have HB2 : Hid (Below w0.heap.size wr w2) := hide (by rw [← hw2]; exact Lib.below_iterAt (Below.refl _ _) hw1 _ _)
      have hs2 : wr.heap.size ≤ w2.heap.size := (unhide HB2).size
      clear hbd hw2
      generalize encL 3 L = M at *
      go_wp2_with fail
      refine (lay_3 _ (unhide HP) w0.heap.size _ M _ (unhide HO2) (by omega) (by omega)).mono ?_
      rintro e w3 ⟨v', rfl, ho, hb, hk⟩
      have HI3 : Hid (w3.heap[w1.heap.size]? = some (.stringIter s (pos + dN s pos))) := hide (hk _ _ (unhide HI2) (notRow_iter _ _))
      have HB3 := hide (((unhide HB).trans (unhide HB2)).trans hb)
      have HO3 := hide ho
      have HM3 := hide (iterPos_of (unhide HI3))
      clear ho hb hk
      go_wp2
      go_roundw
      case rel => exact ⟨n + 1, L ++ [(dP s pos : Int)], pos + dN s pos, HS', by omega, by simp; omega, HI3, hide (by rw [unhide HE]; exact unhide HO3), HB3⟩
      case measure => rw [unhide HM, unhide HM3]; omega
    · have hnx : ∀ ty, (Instr.next (.pointer (some ⟨w1.heap.size, 0, none⟩)) true ty).run Try.prog wr = .ok (.tuple #[.bool false]) wr := fun ty => Lib.run_next_end_at wr _ s pos ty (unhide HI) hlt
      have e := steps_pts s n (by rw [unhide HS]; show s.size ≤ pos; omega)
      rw [unhide HS] at e
      have e' : L = pts s := e
      obtain ⟨va, vc, hv⟩ := own_shape (unhide HO)
      subst hv
      by_cases hbig : 65536 < (encL 3 L).length
      · have HR : Hid (encOut 3 s = []) := hide (by unfold encOut; rw [if_neg (by omega), if_neg (by omega), ← e', if_pos hbig])
        clear e e'
        generalize encL 3 L = M at *
        go_wp2
        go_ret
        exact ⟨by rw [unhide HR]; rfl, unhide HB⟩
      · have HR : Hid (encOut 3 s = encL 3 L) := hide (by unfold encOut; rw [if_neg (by omega), if_neg (by omega), ← e', if_neg hbig])
        clear e e'
        generalize encL 3 L = M at *
        have hcv := conv_owned wr _ _ _ _ (unhide HO)
        have hsm : M.length ≤ 65536 := by omega
        go_wp2
        go_ret
        exact ⟨by rw [unhide HR]; rfl, unhide HB⟩
set_option maxHeartbeats 2000000 in
set_option maxRecDepth 100000 in
theorem implEncode_4 (s : ByteArray) (w : World) (hs : s.size ≤ 65536) :
    Calls Try.prog 11 #[.int .i64 4, .string s] w fun e w' => e = .returned (.string (strOfNums (encOut 4 s))) ∧ Below w.heap.size w w' := by
  obtain ⟨i0, hi, hz0, hz1, hz2⟩ := info_parts info5
  go_enter Try.func11, Try.ntmps11
  go_wp2_with fail
  refine (formOf_4 _).mono ?_
  rintro e w0 ⟨rfl, rfl⟩
  go_wp2_with ((at_make; refine wpList_make_own _ rfl _ _ 22 rfl w0.heap.size 5 i0 (.int .u8 0) 1 Try.underlying22 hi hz0 hz1 .i64 .i64 _ s.size rfl rfl rfl ?b2 ?b3 ?b4 ?_))
  case b2 => rw [hz2]; omega
  case b3 => unfold maxLen; omega
  case b4 => omega
  intro w1 hown hgrow
  have hw1 := (made_below hgrow).size
  have HO0 : Hid ((w1.iter s 0).ownsRow w0.heap.size 5 1 (.slice (some ⟨w0.heap.size, 0, none⟩) 0 s.size) (encL 4 []).length ((encL 4 []).map (Value.int .u8))) := hide (owned_alloc hown _)
  have HB0 : Hid (Below w0.heap.size w0 (w1.iter s 0)) := hide ((made_below hgrow).alloc hw1 _)
  have HI0 : Hid ((w1.iter s 0).heap[w1.heap.size]? = some (.stringIter s 0)) := hide (World.iter_heap w1 s 0)
  clear hown hgrow
  go_wp2
  go_loopw [6] (fun v wr => ∃ (n : Nat) (L : List Int) (pos : Nat), Hid (steps s n = (L, pos)) ∧ pos ≤ s.size ∧ L.length ≤ pos ∧ Hid (wr.heap[w1.heap.size]? = some (.stringIter s pos)) ∧ Hid (wr.ownsRow w0.heap.size 5 1 v (encL 4 L).length ((encL 4 L).map (Value.int .u8))) ∧ Hid (Below w0.heap.size w0 wr)) (fun _ wr => s.size - wr.iterPos w1.heap.size)
  case atStart => exact ⟨0, [], 0, hide rfl, by omega, by simp, HI0, HO0, HB0⟩
  case round =>
    obtain ⟨n, L, pos, HS, hpos, hL, HI, HO, HB⟩ := hrel
    clear HO0 HB0 HI0
    have HM := hide (iterPos_of (unhide HI))
    by_cases hlt : pos < s.size
    · have hbd := dN_bd s pos hlt
      have d1 := hbd.1
      have d2 := hbd.2.1
      have d3 := hbd.2.2
      have hBs := (unhide HB).size
      have HS' := hide (pts_step (unhide HS) hlt)
      have HP := hide (dP_isPt s pos)
      have hLe := encL_le 4 L
      have HE : Hid (encL 4 (L ++ [(dP s pos : Int)]) = encL 4 L ++ encP 4 (dP s pos : Int)) := hide (by unfold encL; rw [List.flatMap_append, List.flatMap_singleton])
      have hnx : ∀ ty, (Instr.next (.pointer (some ⟨w1.heap.size, 0, none⟩)) true ty).run Try.prog wr = .ok (.tuple #[.bool true, .int .i64 pos, .int .i32 (dP s pos)]) (wr.iterAt w1.heap.size s (pos + dN s pos)) := fun ty => Lib.run_next_any_at wr _ s pos ty (unhide HI) hlt
      obtain ⟨w2, hw2⟩ : ∃ w2, wr.iterAt w1.heap.size s (pos + dN s pos) = w2 := ⟨_, rfl⟩
      rw [hw2] at hnx
      have HI2 : Hid (w2.heap[w1.heap.size]? = some (.stringIter s (pos + dN s pos))) := hide (by rw [← hw2]; exact Lib.iterAt_heap wr _ s pos _ (unhide HI))
      have HO2 : Hid (w2.ownsRow w0.heap.size 5 1 _ (encL 4 L).length ((encL 4 L).map (Value.int .u8))) := hide (by rw [← hw2]; exact owned_iterAt (unhide HO) (unhide HI) _)
      have HB2 : Hid (Below w0.heap.size wr w2) := hide (by rw [← hw2]; exact Lib.below_iterAt (Below.refl _ _) hw1 _ _)
      have hs2 : wr.heap.size ≤ w2.heap.size := (unhide HB2).size
      clear hbd hw2
      generalize encL 4 L = M at *
      go_wp2_with fail
      refine (lay_4 _ (unhide HP) w0.heap.size _ M _ (unhide HO2) (by omega) (by omega)).mono ?_
      rintro e w3 ⟨v', rfl, ho, hb, hk⟩
      have HI3 : Hid (w3.heap[w1.heap.size]? = some (.stringIter s (pos + dN s pos))) := hide (hk _ _ (unhide HI2) (notRow_iter _ _))
      have HB3 := hide (((unhide HB).trans (unhide HB2)).trans hb)
      have HO3 := hide ho
      have HM3 := hide (iterPos_of (unhide HI3))
      clear ho hb hk
      go_wp2
      go_roundw
      case rel => exact ⟨n + 1, L ++ [(dP s pos : Int)], pos + dN s pos, HS', by omega, by simp; omega, HI3, hide (by rw [unhide HE]; exact unhide HO3), HB3⟩
      case measure => rw [unhide HM, unhide HM3]; omega
    · have hnx : ∀ ty, (Instr.next (.pointer (some ⟨w1.heap.size, 0, none⟩)) true ty).run Try.prog wr = .ok (.tuple #[.bool false]) wr := fun ty => Lib.run_next_end_at wr _ s pos ty (unhide HI) hlt
      have e := steps_pts s n (by rw [unhide HS]; show s.size ≤ pos; omega)
      rw [unhide HS] at e
      have e' : L = pts s := e
      obtain ⟨va, vc, hv⟩ := own_shape (unhide HO)
      subst hv
      by_cases hbig : 65536 < (encL 4 L).length
      · have HR : Hid (encOut 4 s = []) := hide (by unfold encOut; rw [if_neg (by omega), if_neg (by omega), ← e', if_pos hbig])
        clear e e'
        generalize encL 4 L = M at *
        go_wp2
        go_ret
        exact ⟨by rw [unhide HR]; rfl, unhide HB⟩
      · have HR : Hid (encOut 4 s = encL 4 L) := hide (by unfold encOut; rw [if_neg (by omega), if_neg (by omega), ← e', if_neg hbig])
        clear e e'
        generalize encL 4 L = M at *
        have hcv := conv_owned wr _ _ _ _ (unhide HO)
        have hsm : M.length ≤ 65536 := by omega
        go_wp2
        go_ret
        exact ⟨by rw [unhide HR]; rfl, unhide HB⟩
set_option maxHeartbeats 2000000 in
set_option maxRecDepth 100000 in
theorem implEncode_5 (s : ByteArray) (w : World) (hs : s.size ≤ 65536) :
    Calls Try.prog 11 #[.int .i64 5, .string s] w fun e w' => e = .returned (.string (strOfNums (encOut 5 s))) ∧ Below w.heap.size w w' := by
  obtain ⟨i0, hi, hz0, hz1, hz2⟩ := info_parts info5
  go_enter Try.func11, Try.ntmps11
  go_wp2_with fail
  refine (formOf_5 _).mono ?_
  rintro e w0 ⟨rfl, rfl⟩
  go_wp2_with ((at_make; refine wpList_make_own _ rfl _ _ 22 rfl w0.heap.size 5 i0 (.int .u8 0) 1 Try.underlying22 hi hz0 hz1 .i64 .i64 _ s.size rfl rfl rfl ?b2 ?b3 ?b4 ?_))
  case b2 => rw [hz2]; omega
  case b3 => unfold maxLen; omega
  case b4 => omega
  intro w1 hown hgrow
  have hw1 := (made_below hgrow).size
  have HO0 : Hid ((w1.iter s 0).ownsRow w0.heap.size 5 1 (.slice (some ⟨w0.heap.size, 0, none⟩) 0 s.size) (encL 5 []).length ((encL 5 []).map (Value.int .u8))) := hide (owned_alloc hown _)
  have HB0 : Hid (Below w0.heap.size w0 (w1.iter s 0)) := hide ((made_below hgrow).alloc hw1 _)
  have HI0 : Hid ((w1.iter s 0).heap[w1.heap.size]? = some (.stringIter s 0)) := hide (World.iter_heap w1 s 0)
  clear hown hgrow
  go_wp2
  go_loopw [6] (fun v wr => ∃ (n : Nat) (L : List Int) (pos : Nat), Hid (steps s n = (L, pos)) ∧ pos ≤ s.size ∧ L.length ≤ pos ∧ Hid (wr.heap[w1.heap.size]? = some (.stringIter s pos)) ∧ Hid (wr.ownsRow w0.heap.size 5 1 v (encL 5 L).length ((encL 5 L).map (Value.int .u8))) ∧ Hid (Below w0.heap.size w0 wr)) (fun _ wr => s.size - wr.iterPos w1.heap.size)
  case atStart => exact ⟨0, [], 0, hide rfl, by omega, by simp, HI0, HO0, HB0⟩
  case round =>
    obtain ⟨n, L, pos, HS, hpos, hL, HI, HO, HB⟩ := hrel
    clear HO0 HB0 HI0
    have HM := hide (iterPos_of (unhide HI))
    by_cases hlt : pos < s.size
    · have hbd := dN_bd s pos hlt
      have d1 := hbd.1
      have d2 := hbd.2.1
      have d3 := hbd.2.2
      have hBs := (unhide HB).size
      have HS' := hide (pts_step (unhide HS) hlt)
      have HP := hide (dP_isPt s pos)
      have hLe := encL_le 5 L
      have HE : Hid (encL 5 (L ++ [(dP s pos : Int)]) = encL 5 L ++ encP 5 (dP s pos : Int)) := hide (by unfold encL; rw [List.flatMap_append, List.flatMap_singleton])
      have hnx : ∀ ty, (Instr.next (.pointer (some ⟨w1.heap.size, 0, none⟩)) true ty).run Try.prog wr = .ok (.tuple #[.bool true, .int .i64 pos, .int .i32 (dP s pos)]) (wr.iterAt w1.heap.size s (pos + dN s pos)) := fun ty => Lib.run_next_any_at wr _ s pos ty (unhide HI) hlt
      obtain ⟨w2, hw2⟩ : ∃ w2, wr.iterAt w1.heap.size s (pos + dN s pos) = w2 := ⟨_, rfl⟩
      rw [hw2] at hnx
      have HI2 : Hid (w2.heap[w1.heap.size]? = some (.stringIter s (pos + dN s pos))) := hide (by rw [← hw2]; exact Lib.iterAt_heap wr _ s pos _ (unhide HI))
      have HO2 : Hid (w2.ownsRow w0.heap.size 5 1 _ (encL 5 L).length ((encL 5 L).map (Value.int .u8))) := hide (by rw [← hw2]; exact owned_iterAt (unhide HO) (unhide HI) _)
      have HB2 : Hid (Below w0.heap.size wr w2) := hide (by rw [← hw2]; exact Lib.below_iterAt (Below.refl _ _) hw1 _ _)
      have hs2 : wr.heap.size ≤ w2.heap.size := (unhide HB2).size
      clear hbd hw2
      generalize encL 5 L = M at *
      go_wp2_with fail
      refine (lay_5 _ (unhide HP) w0.heap.size _ M _ (unhide HO2) (by omega) (by omega)).mono ?_
      rintro e w3 ⟨v', rfl, ho, hb, hk⟩
      have HI3 : Hid (w3.heap[w1.heap.size]? = some (.stringIter s (pos + dN s pos))) := hide (hk _ _ (unhide HI2) (notRow_iter _ _))
      have HB3 := hide (((unhide HB).trans (unhide HB2)).trans hb)
      have HO3 := hide ho
      have HM3 := hide (iterPos_of (unhide HI3))
      clear ho hb hk
      go_wp2
      go_roundw
      case rel => exact ⟨n + 1, L ++ [(dP s pos : Int)], pos + dN s pos, HS', by omega, by simp; omega, HI3, hide (by rw [unhide HE]; exact unhide HO3), HB3⟩
      case measure => rw [unhide HM, unhide HM3]; omega
    · have hnx : ∀ ty, (Instr.next (.pointer (some ⟨w1.heap.size, 0, none⟩)) true ty).run Try.prog wr = .ok (.tuple #[.bool false]) wr := fun ty => Lib.run_next_end_at wr _ s pos ty (unhide HI) hlt
      have e := steps_pts s n (by rw [unhide HS]; show s.size ≤ pos; omega)
      rw [unhide HS] at e
      have e' : L = pts s := e
      obtain ⟨va, vc, hv⟩ := own_shape (unhide HO)
      subst hv
      by_cases hbig : 65536 < (encL 5 L).length
      · have HR : Hid (encOut 5 s = []) := hide (by unfold encOut; rw [if_neg (by omega), if_neg (by omega), ← e', if_pos hbig])
        clear e e'
        generalize encL 5 L = M at *
        go_wp2
        go_ret
        exact ⟨by rw [unhide HR]; rfl, unhide HB⟩
      · have HR : Hid (encOut 5 s = encL 5 L) := hide (by unfold encOut; rw [if_neg (by omega), if_neg (by omega), ← e', if_neg hbig])
        clear e e'
        generalize encL 5 L = M at *
        have hcv := conv_owned wr _ _ _ _ (unhide HO)
        have hsm : M.length ≤ 65536 := by omega
        go_wp2
        go_ret
        exact ⟨by rw [unhide HR]; rfl, unhide HB⟩
set_option maxRecDepth 100000 in
theorem implEncode_big (f : Int) (s : ByteArray) (w : World) (hs : 65536 < s.size) (hf : 1 ≤ f ∧ f ≤ 5) :
    Calls Try.prog 11 #[.int .i64 f, .string s] w fun e w' => e = .returned (.string (strOfNums (encOut f s))) ∧ Below w.heap.size w w' := by
  have HR : Hid (encOut f s = []) := hide (by unfold encOut; rw [if_pos hs])
  obtain rfl | rfl | rfl | rfl | rfl : f = 1 ∨ f = 2 ∨ f = 3 ∨ f = 4 ∨ f = 5 := by omega
  · go_enter Try.func11, Try.ntmps11
    go_wp2_with fail
    refine (formOf_1 _).mono ?_
    rintro e w0 ⟨rfl, rfl⟩
    go_wp2
    go_ret
    exact ⟨by rw [unhide HR]; rfl, Below.refl _ _⟩
  · go_enter Try.func11, Try.ntmps11
    go_wp2_with fail
    refine (formOf_2 _).mono ?_
    rintro e w0 ⟨rfl, rfl⟩
    go_wp2
    go_ret
    exact ⟨by rw [unhide HR]; rfl, Below.refl _ _⟩
  · go_enter Try.func11, Try.ntmps11
    go_wp2_with fail
    refine (formOf_3 _).mono ?_
    rintro e w0 ⟨rfl, rfl⟩
    go_wp2
    go_ret
    exact ⟨by rw [unhide HR]; rfl, Below.refl _ _⟩
  · go_enter Try.func11, Try.ntmps11
    go_wp2_with fail
    refine (formOf_4 _).mono ?_
    rintro e w0 ⟨rfl, rfl⟩
    go_wp2
    go_ret
    exact ⟨by rw [unhide HR]; rfl, Below.refl _ _⟩
  · go_enter Try.func11, Try.ntmps11
    go_wp2_with fail
    refine (formOf_5 _).mono ?_
    rintro e w0 ⟨rfl, rfl⟩
    go_wp2
    go_ret
    exact ⟨by rw [unhide HR]; rfl, Below.refl _ _⟩
set_option maxRecDepth 100000 in
theorem implEncode_none (f : Int) (s : ByteArray) (w : World) (hf : f < 1 ∨ 5 < f) :
    Calls Try.prog 11 #[.int .i64 f, .string s] w fun e w' => e = .returned (.string (strOfNums (encOut f s))) ∧ Below w.heap.size w w' := by
  have HR : Hid (encOut f s = []) := hide (by unfold encOut; rw [if_pos hf]; simp)
  have HF := hide hf
  clear hf
  go_enter Try.func11, Try.ntmps11
  go_wp2_with fail
  refine (formOf_none f (unhide HF) _).mono ?_
  rintro e w0 ⟨rfl, rfl⟩
  go_wp2
  go_ret
  exact ⟨by rw [unhide HR]; rfl, Below.refl _ _⟩
theorem implEncode (f : Int) (s : ByteArray) (w : World) :
    Calls Try.prog 11 #[.int .i64 f, .string s] w fun e w' => e = .returned (.string (strOfNums (encOut f s))) ∧ Below w.heap.size w w' := by
  by_cases hf : f < 1 ∨ 5 < f
  · exact implEncode_none f s w hf
  by_cases hs : 65536 < s.size
  · exact implEncode_big f s w hs (by omega)
  obtain rfl | rfl | rfl | rfl | rfl : f = 1 ∨ f = 2 ∨ f = 3 ∨ f = 4 ∨ f = 5 := by omega
  · exact implEncode_1 s w (by omega)
  · exact implEncode_2 s w (by omega)
  · exact implEncode_3 s w (by omega)
  · exact implEncode_4 s w (by omega)
  · exact implEncode_5 s w (by omega)
set_option maxHeartbeats 1000000 in
theorem lawEncode (f : Int) (s : ByteArray) (w : World) :
    Calls Try.prog 4 #[.int .i64 f, .string s] w fun e w' => e = .returned (.bool true) ∧ Below w.heap.size w w' := by
  by_cases hl : 1048576 < s.size
  · go_enter Try.func4, Try.ntmps4
    go_wp2
    go_ret
    exact ⟨rfl, Below.refl _ _⟩
  have hl' : s.size ≤ 1048576 := by omega
  go_enter Try.func4, Try.ntmps4
  go_wp2_with fail
  refine (specEncode f s _ hl').mono ?_
  rintro e w1 ⟨rfl, hb1⟩
  have HB1 := hide hb1
  clear hb1
  go_wp2_with fail
  refine (implEncode f s _).mono ?_
  rintro e w2 ⟨rfl, hb2⟩
  have HB2 := hide ((unhide HB1).trans (hb2.mono (unhide HB1).size))
  clear hb2 HB1
  generalize strOfNums (encOut f s) = T at *
  have hne : (T.toList != T.toList) = false := by simp
  go_wp2
  go_ret
  exact ⟨rfl, unhide HB2⟩
end Go.Proofs.Ytiianallpmfcbaa
