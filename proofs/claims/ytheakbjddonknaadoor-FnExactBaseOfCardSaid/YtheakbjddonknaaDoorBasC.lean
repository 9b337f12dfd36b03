/- BaseOf, as the program tells it, of a text. -/
import Derived.Test.YtheakbjddonknaaDoorBasB
namespace Go.Proofs.YtheakbjddonknaaDoor.Bs
open Go.RowKit Chr
set_option linter.unusedVariables false
/-- The classes of the first k points. -/
def ctk (L : List Int) (k : Nat) : List Int := (L.take k).map clI
theorem ctk_len (L : List Int) (k : Nat) (h : k ≤ L.length) : (ctk L k).length = k := by simp [ctk]; omega
theorem ctk_all (L : List Int) : ctk L L.length = L.map clI := by unfold ctk; rw [List.take_length]
theorem ctk_one (L : List Int) (k : Nat) (h : k < L.length) : ctk L (k + 1) = ctk L k ++ [clI (nth L k)] := by
  unfold ctk
  have e : nth L k = L[k] := by simp [nth, List.getD, h]
  rw [List.take_succ_eq_append_getElem h, List.map_append, e]
  rfl
set_option maxHeartbeats 2000000 in
set_option maxRecDepth 100000 in
theorem dirClasses_any (v : Value) (L : List Int) (w : World) (h : IntsAt w v L) (ht : TabAt w) (hl : L.length ≤ 65536) :
    Calls Tryd.prog 10 #[v] w fun e w' => ∃ sv, e = .returned sv ∧ w'.ownsRow w.heap.size 2 1 sv (L.map clI).length ((L.map clI).map (Value.int .i64)) ∧ Below w.heap.size w w' := by
  obtain ⟨a, cap, rfl, h⟩ := h
  have HC : Hid (∀ k, k < L.length → ∃ b off, a = some ⟨b, off, none⟩ ∧ b < w.heap.size ∧ w.cell? ⟨b, off + k, none⟩ = some (.int .i64 (nth L k))) := hide (fun k hk => by
    rcases h with rfl | ⟨b, off, rfl, hb, hc⟩
    · simp at hk
    · exact ⟨b, off, rfl, hb, hc k hk⟩)
  have HT := hide ht
  clear h ht
  obtain ⟨i0, hi, hz0, hz1, hz2⟩ := info_parts info2
  go_enter Tryd.func10, Tryd.ntmps10
  go_wp2_with (at_make; refine wpList_make_own _ rfl _ _ 24 rfl w.heap.size 2 i0 (.int .i64 0) 1 Tryd.underlying24 hi hz0 hz1 .i64 .i64 _ L.length rfl rfl rfl ?b2 ?b3 ?b4 ?_)
  case b2 => rw [hz2]; omega
  case b3 => unfold maxLen; omega
  case b4 => omega
  intro w1 hown hgrow
  have H1 : Hid (w1.ownsRow w.heap.size 2 1 (.slice (some ⟨w.heap.size, 0, none⟩) 0 L.length) (ctk L 0).length ((ctk L 0).map (Value.int .i64))) := hide hown
  have HB1 := hide (made_below hgrow)
  clear hown hgrow
  go_wp2
  go_loopw [3, 11] (fun cv i wr => ∃ k : Nat, k ≤ L.length ∧ i = .int .i64 k ∧ Hid (wr.ownsRow w.heap.size 2 1 cv (ctk L k).length ((ctk L k).map (Value.int .i64))) ∧ Hid (Below w.heap.size w wr)) (fun _ i _ => L.length - (intOf i).toNat)
  case atStart => exact ⟨0, Nat.zero_le _, rfl, H1, HB1⟩
  case round =>
    obtain ⟨k, hk, rfl, HO, HB⟩ := hrel
    clear H1 HB1
    have hBs := (unhide HB).size
    by_cases hlt : k < L.length
    · have hlt' : (k : Int) < (L.length : Int) := by omega
      obtain ⟨b, off, rfl, hb, hc⟩ := unhide HC k hlt
      have c1 := ((unhide HB).cell (p := ⟨b, off + k, none⟩) hb).trans hc
      have DC := hide (dirClass_any (nth L k) wr ((unhide HT).below (unhide HB)))
      have HE := hide (ctk_one L k hlt)
      have hkl := ctk_len L k hk
      clear hc
      generalize clI (nth L k) = cc at *
      generalize nth L k = p at *
      go_wp2_with (first | (go_at_call 16; refine (unhide DC).mono ?_; rintro e w2 ⟨rfl, hb2⟩; have hb2s := hb2.size; have HB2 := hide hb2; clear hb2; have HO2 := hide (ownsRow_below (unhide HO) (unhide HB2))) | (at_builtin; refine wpList_append_own _ rfl _ _ 24 rfl w.heap.size 2 i0 (.int .i64 0) 1 8 Tryd.underlying24 hi hz0 hz1 hz2 rfl (by decide) _ _ _ rfl (owned_alloc (unhide HO2) _) ⟨w2.heap.size, 0, none⟩ 1 1 [.int .i64 cc] rfl rfl (cell_one_new _ _ _) (by intro u hu; simp at hu; subst hu; rfl) (by unfold maxLen; omega) (by omega) (by simp; omega) ?_))
      intro v' w3 hown' hgrow _
      have hown2 : w3.ownsRow w.heap.size 2 1 v' ((ctk L k).length + 1) ((ctk L k).map (Value.int .i64) ++ [.int .i64 cc]) := by rw [hkl]; exact hown'
      have R := hide (row_step (unhide HB) ((unhide HB2).mono hBs) (by omega) (unhide HO2) hown2 hgrow)
      clear hown' hown2 hgrow
      go_wp2
      go_roundw
      case rel => exact ⟨k + 1, by omega, by go_num, hide (by rw [unhide HE]; exact (unhide R).1), hide (unhide R).2⟩
      case measure => simp [intOf]; omega
    · obtain rfl : k = L.length := by omega
      have HO' : Hid _ := HO
      rw [ctk_all] at HO'
      go_wp2
      go_ret
      exact ⟨_, rfl, unhide HO', unhide HB⟩
/-- The points of a text, none if they are more than a list may have. -/
def lst (s : ByteArray) : List Int := if 1000 < (ptsOut s).length then [] else ptsOut s
theorem lst_len (s : ByteArray) : (lst s).length ≤ 1000 := by
  unfold lst
  split
  · simp
  · omega
set_option maxHeartbeats 1000000 in
theorem listed_any (s : ByteArray) (w : World) (hs : s.size ≤ 1048576) :
    Calls Tryd.prog 11 #[.string s] w fun e w' => ∃ v, e = .returned v ∧ IntsAt w' v (lst s) ∧ Below w.heap.size w w' := by
  have PC := hide (implPointsOf s w hs)
  have hlo := ptsOut_le s
  go_enter Tryd.func11, Tryd.ntmps11
  go_wp2_with fail
  refine (unhide PC).mono ?_
  rintro e w1 ⟨v, rfl, ho, hb⟩
  have hat := IntsAt.owned ho
  have HA := hide hat
  have HB := hide hb
  obtain ⟨a, cap, rfl, _⟩ := hat
  clear ho hb PC
  by_cases hl : 1000 < (ptsOut s).length
  · have hl' : (1000 : Int) < ((ptsOut s).length : Int) := by omega
    have R : Hid (lst s = []) := hide (by unfold lst; rw [if_pos hl])
    go_wp2
    go_ret
    refine ⟨_, rfl, ?_, unhide HB⟩
    rw [unhide R]
    exact ⟨none, 0, rfl, .inl rfl⟩
  · have hl' : ¬ (1000 : Int) < ((ptsOut s).length : Int) := by omega
    have R : Hid (lst s = ptsOut s) := hide (by unfold lst; rw [if_neg hl])
    go_wp2
    go_ret
    refine ⟨_, rfl, ?_, unhide HB⟩
    rw [unhide R]
    exact unhide HA
/-- The base of a text. -/
def basA (s : ByteArray) : Int := bsL 0 ((lst s).map clI)
set_option maxHeartbeats 1000000 in
theorem implBase (s : ByteArray) (w : World) (ht : TabAt w) (hs : s.size ≤ 1048576) :
    Calls Tryd.prog 5 #[.string s] w fun e w' => e = .returned (.int .i64 (basA s)) ∧ Below w.heap.size w w' := by
  have LC := hide (listed_any s w hs)
  have HT := hide ht
  have hl := lst_len s
  clear ht
  go_enter Tryd.func5, Tryd.ntmps5
  go_wp2_with fail
  refine (unhide LC).mono ?_
  rintro e w1 ⟨v, rfl, hat, hb⟩
  have HA := hide hat
  have HB := hide hb
  clear hat hb LC
  go_wp2_with fail
  refine (dirClasses_any v (lst s) w1 (unhide HA) ((unhide HT).below (unhide HB)) (by omega)).mono ?_
  rintro e w2 ⟨cv, rfl, ho, hb⟩
  have HO := hide (IntsAt.owned ho)
  have HB2 := hide ((unhide HB).trans (hb.mono (unhide HB).size))
  clear ho hb HB HA
  go_wp2_with fail
  refine (baseOf_any cv ((lst s).map clI) w2 (unhide HO) (by simp; omega)).mono ?_
  rintro e w3 ⟨rfl, rfl⟩
  go_wp2
  go_ret
  exact ⟨rfl, unhide HB2⟩
end Go.Proofs.YtheakbjddonknaaDoor.Bs
