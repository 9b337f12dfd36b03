/- EncodeSteps of the program, and of the specification. -/
import Derived.Test.YtohpifhpfijmcaaDoorStpE
namespace Go.Proofs.YtohpifhpfijmcaaDoor
open Go.RowKit
def small (l : List Int) : List Int := if 65536 < l.length then [] else l
def encS (s : ByteArray) : List Int := if 65536 < s.size then [] else small (encSt (pts s)).1
theorem notRow_iter (s : ByteArray) (pos : Nat) : NotRow (.stringIter s pos) := by intro cs fz e; cases e
/-- The answer that has these bytes, if they are not too many. -/
def legA (L : List Int) : Int × Int × List Int := if 65536 < L.length then (2, 0, []) else (0, 0, L)
theorem legA_small (L : List Int) : (legA L).2.2 = small L := by unfold legA small; split <;> rfl
set_option maxRecDepth 100000 in
theorem legOut_any (B : Nat) (v : Value) (L : List Int) (w : World) (hown : w.ownsRow B 5 1 v L.length (L.map (Value.int .u8))) (hlen : L.length ≤ 1000000) :
    Calls Tryd.prog 25 #[v] w fun e w' => e = .returned (legV (legA L)) ∧ Below w.heap.size w w' := by
  obtain ⟨a, c, rfl⟩ : ∃ a c, v = .slice a L.length c := by
    rcases hown.2 with ⟨hv, hn⟩ | ⟨g, cap, cur, hv, _⟩
    · exact ⟨none, 0, by rw [hv, hn]⟩
    · exact ⟨_, _, hv⟩
  have HC : Hid (∀ o, (convert 22 9 (.slice a L.length c)).run Tryd.prog (w.alloc o) = .ok (.string (strOfNums L)) (w.alloc o)) := hide fun o => conv_owned _ _ _ _ _ (owned_alloc hown o)
  clear hown
  by_cases hb : 65536 < L.length
  · have ea : legA L = (2, 0, []) := by unfold legA; rw [if_pos hb]
    rw [ea]
    clear ea
    go_enter Tryd.func25, Tryd.ntmps25
    go_wp2
    go_returns
    exact ⟨rfl, (Below.refl _ _).alloc (Nat.le_refl _) _⟩
  · have ea : legA L = (0, 0, L) := by unfold legA; rw [if_neg hb]
    rw [ea]
    clear ea
    have hcv := unhide HC
    go_enter Tryd.func25, Tryd.ntmps25
    go_wp2
    go_returns
    exact ⟨rfl, (Below.refl _ _).alloc (Nat.le_refl _) _⟩
theorem smallS (zs : List Int) (hz : zs.length ≤ 1000000) (w : World) :
    Calls Tryd.prog 41 #[.string (strOfNums zs)] w fun e w' => e = .returned (.string (strOfNums (small zs))) ∧ w = w' := by
  have hsz := strOfNums_size zs
  by_cases hb : 65536 < zs.length
  · have e : small zs = [] := by unfold small; rw [if_pos hb]
    rw [e]
    go_enter Tryd.func41, Tryd.ntmps41
    go_wp2
    go_ret
    exact ⟨rfl, rfl⟩
  · have e : small zs = zs := by unfold small; rw [if_neg hb]
    rw [e]
    go_enter Tryd.func41, Tryd.ntmps41
    go_wp2
    go_ret
    exact ⟨rfl, rfl⟩
theorem pts_taken {s : ByteArray} {n pos : Nat} {L : List Int} (h : steps s n = (L, pos)) : ∀ x ∈ L, isPt x = true := by
  have := steps_pt s n
  rw [h] at this
  exact this
set_option maxHeartbeats 1000000 in
set_option maxRecDepth 100000 in
theorem iEncSteps (s : ByteArray) (w : World) (hs : s.size ≤ 65536) :
    Calls Tryd.prog 13 #[.string s] w fun e w' => e = .returned (.string (strOfNums (small (encSt (pts s)).1))) ∧ Below w.heap.size w w' := by
  obtain ⟨i0, hi, hz0, hz1, hz2⟩ := info_parts info5
  have hf : ∀ (u : World) (x : Int × Int × List Int), (Instr.field 25 (legV x) 2).run Tryd.prog u = .ok (.string (strOfNums x.2.2)) u := fun _ _ => by kernel_rfl
  go_enter Tryd.func13, Tryd.ntmps13
  go_wp2_with (at_make; refine wpList_make_own _ rfl _ _ 22 rfl w.heap.size 5 i0 (.int .u8 0) 1 Tryd.underlying22 hi hz0 hz1 .i64 .i64 _ s.size rfl rfl rfl ?b2 ?b3 ?b4 ?_)
  case b2 => rw [hz2]; omega
  case b3 => unfold maxLen; omega
  case b4 => omega
  intro w1 hown hgrow
  have hw1 := (made_below hgrow).size
  have HO0 : Hid ((w1.iter s 0).ownsRow w.heap.size 5 1 (.slice (some ⟨w.heap.size, 0, none⟩) 0 s.size) (encSt []).1.length ((encSt []).1.map (Value.int .u8))) := hide (owned_alloc hown _)
  have HB0 : Hid (Below w.heap.size w (w1.iter s 0)) := hide ((made_below hgrow).alloc hw1 _)
  have HI0 : Hid ((w1.iter s 0).heap[w1.heap.size]? = some (.stringIter s 0)) := hide (World.iter_heap w1 s 0)
  clear hown hgrow
  go_wp2_with fail
  refine (stepsFromI 0 (by omega) (by omega) _).mono ?_
  rintro e w' ⟨rfl, rfl⟩
  have hm0 : mid 0 = 64 := rfl
  go_wp2
  go_loopw [3, 4] (fun v f wr => ∃ (n : Nat) (L : List Int) (pos : Nat) (fr : Int), Hid (steps s n = (L, pos)) ∧ pos ≤ s.size ∧ L.length ≤ pos ∧ f = .int .i64 fr ∧ Hid ((encSt L).2 = fr) ∧ Hid (wr.heap[w1.heap.size]? = some (.stringIter s pos)) ∧ Hid (wr.ownsRow w.heap.size 5 1 v (encSt L).1.length ((encSt L).1.map (Value.int .u8))) ∧ Hid (Below w.heap.size w wr)) (fun _ _ wr => s.size - wr.iterPos w1.heap.size)
  case atStart => exact ⟨0, [], 0, 64, hide rfl, by omega, by simp, rfl, hide rfl, HI0, HO0, HB0⟩
  case round =>
    obtain ⟨n, L, pos, fr, HS, hpos, hL, rfl, HF, HI, HO, HB⟩ := hrel
    clear HO0 HB0 HI0
    have HM := hide (iterPos_of (unhide HI))
    have hbd0 := encSt_bd L (pts_taken (unhide HS))
    rw [unhide HF] at hbd0
    obtain ⟨hf1, hf2, hf3⟩ := hbd0
    by_cases hlt : pos < s.size
    · have hbd := dN_bd s pos hlt
      have d1 := hbd.1
      have d2 := hbd.2.1
      have d3 := hbd.2.2
      have hBs := (unhide HB).size
      have HS' := hide (pts_step (unhide HS) hlt)
      have hzb := zig_bd (dP_pt s pos) hf1 hf2
      have HE : Hid (encSt (L ++ [(dP s pos : Int)]) = ((encSt L).1 ++ vl (zig ((dP s pos : Int) - fr)).toNat, mid (dP s pos))) := hide (by rw [encSt_snoc]; unfold stp; rw [unhide HF])
      have hnx : ∀ ty, (Instr.next (.pointer (some ⟨w1.heap.size, 0, none⟩)) true ty).run Tryd.prog wr = .ok (.tuple #[.bool true, .int .i64 pos, .int .i32 (dP s pos)]) (wr.iterAt w1.heap.size s (pos + dN s pos)) := fun ty => Lib.run_next_any_at wr _ s pos ty (unhide HI) hlt
      obtain ⟨w2, hw2⟩ : ∃ w2, wr.iterAt w1.heap.size s (pos + dN s pos) = w2 := ⟨_, rfl⟩
      rw [hw2] at hnx
      have HI2 : Hid (w2.heap[w1.heap.size]? = some (.stringIter s (pos + dN s pos))) := hide (by rw [← hw2]; exact Lib.iterAt_heap wr _ s pos _ (unhide HI))
      have HO2 : Hid (w2.ownsRow w.heap.size 5 1 _ (encSt L).1.length ((encSt L).1.map (Value.int .u8))) := hide (by rw [← hw2]; exact owned_iterAt (unhide HO) (unhide HI) _)
      have HB2 : Hid (Below w.heap.size wr w2) := hide (by rw [← hw2]; exact Lib.below_iterAt (Below.refl _ _) hw1 _ _)
      have hs2 : wr.heap.size ≤ w2.heap.size := (unhide HB2).size
      clear hbd hw2
      go_wp2_with fail
      refine (layStep_any w.heap.size _ (encSt L).1 ((dP s pos : Int) - fr) (zig ((dP s pos : Int) - fr)).toNat (by omega) (by omega) _ (unhide HO2) (by omega) (by omega)).mono ?_
      rintro e w3 ⟨v', rfl, ho3, hb3, hk3⟩
      have HI3 := hide (hk3 _ _ (unhide HI2) (notRow_iter _ _))
      have HM3 := hide (iterPos_of (unhide HI3))
      have HO3 : Hid (w3.ownsRow w.heap.size 5 1 v' (encSt (L ++ [(dP s pos : Int)])).1.length ((encSt (L ++ [(dP s pos : Int)])).1.map (Value.int .u8))) := hide (by rw [unhide HE]; exact ho3)
      have HB3 := hide ((unhide HB).trans ((unhide HB2).trans hb3))
      have HF3 : Hid ((encSt (L ++ [(dP s pos : Int)])).2 = mid (dP s pos)) := hide (by rw [unhide HE])
      clear ho3 hb3 hk3
      go_wp2_with fail
      refine (stepsFromI (dP s pos) (by omega) (by omega) _).mono ?_
      rintro e w4 ⟨rfl, rfl⟩
      go_wp2
      go_roundw
      case rel =>
        obtain ⟨q, hq⟩ : ∃ q : Int, q = (dP s pos : Int) := ⟨_, rfl⟩
        have RR : ∃ (n : Nat) (L : List Int) (pos : Nat) (fr : Int), Hid (steps s n = (L, pos)) ∧ pos ≤ s.size ∧ L.length ≤ pos ∧ Value.int .i64 (mid q) = .int .i64 fr ∧ Hid ((encSt L).2 = fr) ∧ Hid (w3.heap[w1.heap.size]? = some (.stringIter s pos)) ∧ Hid (w3.ownsRow w.heap.size 5 1 v' (encSt L).1.length ((encSt L).1.map (Value.int .u8))) ∧ Hid (Below w.heap.size w w3) :=
          ⟨n + 1, L ++ [(dP s pos : Int)], pos + dN s pos, mid (dP s pos), HS', by omega, by simp; omega, by rw [hq], HF3, HI3, HO3, HB3⟩
        rw [hq] at RR
        first | exact RR | ((repeat apply Exists.intro); exact ⟨RR, rfl⟩)
      case measure => rw [unhide HM, unhide HM3]; omega
    · have hnx : ∀ ty, (Instr.next (.pointer (some ⟨w1.heap.size, 0, none⟩)) true ty).run Tryd.prog wr = .ok (.tuple #[.bool false]) wr := fun ty => Lib.run_next_end_at wr _ s pos ty (unhide HI) hlt
      have e := steps_pts s n (by rw [unhide HS]; show s.size ≤ pos; omega)
      rw [unhide HS] at e
      have e' : L = pts s := e
      have HP := hide e'
      clear e e'
      go_wp2_with fail
      refine (legOut_any w.heap.size _ (encSt L).1 _ (unhide HO) (by omega)).mono ?_
      rintro e w3 ⟨rfl, hb3⟩
      have HB3 := hide ((unhide HB).trans (hb3.mono (unhide HB).size))
      clear hb3
      go_wp2
      go_ret
      refine ⟨?_, unhide HB3⟩
      rw [← unhide HP, ← legA_small]
      rfl
end Go.Proofs.YtohpifhpfijmcaaDoor
