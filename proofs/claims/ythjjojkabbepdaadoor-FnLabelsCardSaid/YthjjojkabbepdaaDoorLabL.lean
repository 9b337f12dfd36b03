/- EncodeLabel of the program and of the specification; the law. -/
import Derived.Test.YthjjojkabbepdaaDoorLabO
import Derived.Test.YthjjojkabbepdaaDoorWelP
import Derived.Test.YthjjojkabbepdaaDoorNPointsI
import Derived.Test.YthjjojkabbepdaaDoorShelf
namespace Go.Proofs.YthjjojkabbepdaaDoor.Lab
open Go.RowKit Go.Shelf
set_option linter.unusedVariables false
theorem ret_boolL {x y : Bool} (h : x = y) : (Ending.returned (.bool x) : Ending) = .returned (.bool y) := by rw [h]
theorem str_ne {s t : ByteArray} (h : ¬ t = s) : (t.toList == s.toList) = false := by
  rw [beq_eq_false_iff_ne, ByteArray.toList_eq, ByteArray.toList_eq]
  intro e
  apply h
  obtain ⟨⟨a⟩⟩ := s
  obtain ⟨⟨b⟩⟩ := t
  have e' : b = a := e
  rw [e']
def small (t : List Int) : List Int := if 65536 < t.length then [] else t
set_option maxRecDepth 100000 in
theorem smallS (t : List Int) (w : World) : Calls Tryd.prog 21 #[.string (strOfNums t)] w fun e w' => e = .returned (.string (strOfNums (small t))) ∧ w' = w := by
  by_cases h : 65536 < t.length
  · have hz : 65536 < (strOfNums t).size := by rw [strOfNums_size]; exact h
    have HE : Hid (strOfNums (small t) = { data := #[] }) := hide (by unfold small; rw [if_pos h]; rfl)
    clear h
    generalize strOfNums t = s at *
    go_enter Tryd.func21, Tryd.ntmps21
    go_wp2
    go_ret
    exact ⟨by rw [unhide HE]; rfl, rfl⟩
  · have hz : (strOfNums t).size ≤ 65536 := by rw [strOfNums_size]; omega
    have e : small t = t := by unfold small; rw [if_neg h]
    rw [e]
    exact small_any _ w hz
set_option maxRecDepth 100000 in
set_option maxHeartbeats 1000000 in
theorem count_any (s : ByteArray) (w : World) (hs : s.size ≤ 65536) : Calls Tryd.prog 33 #[.string s] w fun e w' => e = .returned (.int .i64 ((pts s).length : Int)) ∧ Below w.heap.size w w' := by
  have HB0 : Hid (Below w.heap.size w (w.iter s 0)) := hide ((Below.refl _ _).alloc (Nat.le_refl _) _)
  have HI0 : Hid ((w.iter s 0).heap[w.heap.size]? = some (.stringIter s 0)) := hide (World.iter_heap w s 0)
  go_enter Tryd.func33, Tryd.ntmps33
  go_wp2
  go_loopw [2] (fun v wr => ∃ (n : Nat) (L : List Int) (pos : Nat), v = .int .i64 (L.length : Int) ∧ Hid (steps s n = (L, pos)) ∧ pos ≤ s.size ∧ L.length ≤ pos ∧ Hid (wr.heap[w.heap.size]? = some (.stringIter s pos)) ∧ Hid (Below w.heap.size w wr)) (fun _ wr => s.size - wr.iterPos w.heap.size)
  case atStart => exact ⟨0, [], 0, rfl, hide rfl, by omega, by simp, HI0, HB0⟩
  case round =>
    obtain ⟨n, L, pos, rfl, HS, hpos, hL, HI, HB⟩ := hrel
    clear HB0 HI0
    have HM := hide (iterPos_of (unhide HI))
    by_cases hlt : pos < s.size
    · have hbd := dN_bd s pos hlt
      have d1 := hbd.1
      have d2 := hbd.2.1
      have hBs := (unhide HB).size
      have HS' := hide (pts_step (unhide HS) hlt)
      have hnx : ∀ ty, (Instr.next (.pointer (some ⟨w.heap.size, 0, none⟩)) true ty).run Tryd.prog wr = .ok (.tuple #[.bool true, .int .i64 pos, .int .i32 (dP s pos)]) (wr.iterAt w.heap.size s (pos + dN s pos)) := fun ty => Lib.run_next_any_at wr _ s pos ty (unhide HI) hlt
      obtain ⟨w2, hw2⟩ : ∃ w2, wr.iterAt w.heap.size s (pos + dN s pos) = w2 := ⟨_, rfl⟩
      rw [hw2] at hnx
      have HI2 : Hid (w2.heap[w.heap.size]? = some (.stringIter s (pos + dN s pos))) := hide (by rw [← hw2]; exact Lib.iterAt_heap wr _ s pos _ (unhide HI))
      have HB2 : Hid (Below w.heap.size w w2) := hide (by rw [← hw2]; exact Lib.below_iterAt (unhide HB) (Nat.le_refl _) _ _)
      have HM3 := hide (iterPos_of (unhide HI2))
      clear hbd hw2
      go_wp2
      go_roundw
      case rel => exact ⟨n + 1, L ++ [(dP s pos : Int)], pos + dN s pos, by simp, HS', by omega, by simp; omega, HI2, HB2⟩
      case measure => rw [unhide HM, unhide HM3]; omega
    · have hnx : ∀ ty, (Instr.next (.pointer (some ⟨w.heap.size, 0, none⟩)) true ty).run Tryd.prog wr = .ok (.tuple #[.bool false]) wr := fun ty => Lib.run_next_end_at wr _ s pos ty (unhide HI) hlt
      have e := steps_pts s n (by rw [unhide HS]; show s.size ≤ pos; omega)
      rw [unhide HS] at e
      have e' : L = pts s := e
      have HL := hide (congrArg List.length e')
      clear e e'
      go_wp2
      go_ret
      exact ⟨by rw [← unhide HL]; rfl, unhide HB⟩
abbrev Tabs (w : World) : Prop := Lib.Utf8Tabs (Tryd.laysValid_ren.g 3) (Tryd.laysValid_ren.g 4) w
def few (s : ByteArray) : Bool := decide (s.size ≤ 65536) && decide ((pts s).length ≤ 1000)
/-- What EncodeLabel tells. -/
def enc (s : ByteArray) : List Int := if few s && vB s then lab (pts s) else []
theorem few_yes {s : ByteArray} (h : few s = true) : s.size ≤ 65536 ∧ (pts s).length ≤ 1000 := by unfold few at h; simpa using h
theorem few_no {s : ByteArray} (h : few s = false) : 65536 < s.size ∨ s.size ≤ 65536 ∧ 1000 < (pts s).length := by
  unfold few at h
  simp at h
  by_cases c : s.size ≤ 65536
  · exact .inr ⟨c, h c⟩
  · exact .inl (by omega)
theorem pts_bd2 (s : ByteArray) : ∀ x ∈ pts s, 0 ≤ x ∧ x ≤ 1114111 := fun x hx => by have := (isPt_iff x).1 (pts_pt s x hx); omega
set_option maxRecDepth 100000 in
theorem fewS (s : ByteArray) (w : World) (hs : s.size ≤ 1048576) :
    Calls Tryd.prog 19 #[.string s] w fun e w' => ∃ v, e = .returned (.tuple #[v, .bool (few s)]) ∧ (few s = true → IntsAt w' v (pts s)) ∧ Below w.heap.size w w' := by
  by_cases hb : 65536 < s.size
  · have hb' : (65536 : Int) < (s.size : Int) := by omega
    have R : few s = false := by unfold few; rw [decide_eq_false (by omega)]; rfl
    rw [R]
    clear R
    go_enter Tryd.func19, Tryd.ntmps19
    go_wp2
    go_ret2
    exact ⟨_, rfl, fun h => (by cases h), Below.refl _ _⟩
  have hb' : ¬ (65536 : Int) < (s.size : Int) := by omega
  have PC := hide (l01Points s w (by omega))
  have hp := pts_le s
  have hF : few s = decide ((pts s).length ≤ 1000) := by unfold few; rw [decide_eq_true (by omega)]; rfl
  rw [hF]
  clear hF
  go_enter Tryd.func19, Tryd.ntmps19
  go_wp2_with fail
  refine (unhide PC).mono ?_
  rintro e w1 ⟨v, rfl, ho, hbl⟩
  have hat := IntsAt.owned ho
  have HA := hide hat
  have HB := hide hbl
  obtain ⟨a, cap, rfl, _⟩ := hat
  clear ho hbl PC
  by_cases hl : (pts s).length ≤ 1000
  · have hl' : ((pts s).length : Int) ≤ 1000 := by omega
    go_wp2
    go_ret2
    exact ⟨.slice a (pts s).length cap, by simp [hl], fun _ => unhide HA, unhide HB⟩
  · have hl' : ¬ ((pts s).length : Int) ≤ 1000 := by omega
    go_wp2
    go_ret2
    exact ⟨.slice a (pts s).length cap, by simp [hl]; omega, fun h => by simp at h; omega, unhide HB⟩
set_option maxRecDepth 100000 in
set_option maxHeartbeats 1000000 in
theorem specEnc (s : ByteArray) (w : World) (hs : s.size ≤ 1048576) :
    Calls Tryd.prog 7 #[.string s] w fun e w' => e = .returned (.string (strOfNums (enc s))) ∧ Below w.heap.size w w' := by
  have hU : undef = Value.tuple #[] := rfl
  have CF := hide (fewS s w hs)
  cases hf : few s with
  | false =>
    have HE : Hid (enc s = []) := hide (by unfold enc; rw [hf]; rfl)
    rw [hf] at CF
    clear hf
    go_enter Tryd.func7, Tryd.ntmps7
    go_wp2_with (go_at_call 19; refine (unhide CF).mono ?_; rintro e w1 ⟨v1, rfl, hi1, hb1⟩; have B1 := hide hb1; clear hb1 hi1)
    go_ret
    exact ⟨by rw [unhide HE]; rfl, unhide B1⟩
  | true =>
    obtain ⟨f1, f2⟩ := few_yes hf
    have C2 := hide (fun (W : World) (v : Value) (h : IntsAt W v (pts s)) => l01Text v _ W h (by omega))
    have CL := hide (fun (W : World) (v : Value) (h : IntsAt W v (pts s)) => encodeS v _ W h f2 (pts_bd2 s))
    have hll := lab_len f2 (fun x hx => (pts_bd2 s x hx).2)
    have hsm : small (lab (pts s)) = lab (pts s) := by unfold small; rw [if_neg (by omega)]
    have CS := hide (fun W => smallS (lab (pts s)) W)
    rw [hsm] at CS
    have HI := hide (wel_iff s)
    have HE : Hid (enc s = if vB s then lab (pts s) else []) := hide (by unfold enc; rw [hf, Bool.true_and])
    rw [hf] at CF
    clear hf hsm hll
    generalize enc s = O at *
    generalize lab (pts s) = Z at *
    generalize strOfNums (textL (pts s)) = t at *
    generalize pts s = X at *
    by_cases ht : t = s
    · have hv := (unhide HI).1 ht
      rw [hv, if_pos rfl] at HE
      have hq : (t.toList == s.toList) = true := by rw [ht]; simp
      have hq2 : (t.toList != s.toList) = false := by rw [ht]; simp
      clear HI hv ht
      go_enter Tryd.func7, Tryd.ntmps7
      go_wp2_with (first
        | (go_at_call 19; refine (unhide CF).mono ?_; rintro e w1 ⟨v1, rfl, hi1, hb1⟩; have I1 := hide (hi1 rfl); have B1 := hide hb1; clear hb1 hi1)
        | (go_at_call 20; refine ((unhide C2) _ _ (unhide I1)).mono ?_; rintro e w2 ⟨rfl, hb2⟩; have I2 := hide ((unhide I1).below hb2); have B2 := hide ((unhide B1).trans (hb2.mono (unhide B1).size)); clear hb2)
        | (go_at_call 22; refine ((unhide CL) _ _ (unhide I2)).mono ?_; rintro e w3 ⟨rfl, hb3⟩; have B3 := hide ((unhide B2).trans (hb3.mono (unhide B2).size)); clear hb3)
        | (go_at_call 21; refine ((unhide CS) _).mono ?_; rintro e w' ⟨rfl, hw⟩; obtain rfl := hw.symm; clear hw))
      go_ret
      exact ⟨by rw [unhide HE]; rfl, unhide B3⟩
    · have hv : vB s = false := by
        cases e : vB s with
        | false => rfl
        | true => exact absurd ((unhide HI).2 e) ht
      rw [hv, if_neg (by simp)] at HE
      have hq : (t.toList == s.toList) = false := str_ne ht
      have hq2 : (t.toList != s.toList) = true := by unfold bne; rw [hq]; rfl
      clear HI hv ht
      go_enter Tryd.func7, Tryd.ntmps7
      go_wp2_with (first
        | (go_at_call 19; refine (unhide CF).mono ?_; rintro e w1 ⟨v1, rfl, hi1, hb1⟩; have I1 := hide (hi1 rfl); have B1 := hide hb1; clear hb1 hi1)
        | (go_at_call 20; refine ((unhide C2) _ _ (unhide I1)).mono ?_; rintro e w2 ⟨rfl, hb2⟩; have B2 := hide ((unhide B1).trans (hb2.mono (unhide B1).size)); clear hb2))
      go_ret
      exact ⟨by rw [unhide HE]; rfl, unhide B2⟩
set_option maxRecDepth 100000 in
theorem manyI (s : ByteArray) (w : World) (hs : s.size ≤ 1048576) : Calls Tryd.prog 15 #[.string s] w fun e w' => e = .returned (.bool (!few s)) ∧ Below w.heap.size w w' := by
  have hU : undef = Value.tuple #[] := rfl
  have C1 : Hid (∀ (b : Bool) (_ : decide ((65536 : Int) < (s.size : Int)) = b) (W : World), Calls Tryd.prog 32 #[.string s] W fun e w' => e = .returned (.bool b) ∧ w' = W) := hide (by
    intro b hb W
    go_enter Tryd.func32, Tryd.ntmps32
    go_wp2
    go_ret
    exact ⟨by rw [← hb]; simp, rfl⟩)
  by_cases hb : 65536 < s.size
  · have R : few s = false := by unfold few; rw [decide_eq_false (by omega)]; rfl
    rw [R]
    have C := hide ((unhide C1) true (decide_eq_true (by omega)))
    clear R C1
    go_enter Tryd.func15, Tryd.ntmps15
    go_wp2_with (go_at_call 32; refine ((unhide C) _).mono ?_; rintro e w' ⟨rfl, hw⟩; obtain rfl := hw.symm; clear hw)
    go_ret
    exact ⟨rfl, Below.refl _ _⟩
  · have C := hide ((unhide C1) false (decide_eq_false (by omega)))
    have CR := hide (fun W => count_any s W (by omega))
    have hF : few s = decide ((pts s).length ≤ 1000) := by unfold few; rw [decide_eq_true (by omega)]; rfl
    rw [hF]
    clear hF C1
    by_cases hl : (pts s).length ≤ 1000
    · have hl' : ¬ (1000 : Int) < ((pts s).length : Int) := by omega
      rw [decide_eq_true hl]
      generalize (pts s).length = X at *
      go_enter Tryd.func15, Tryd.ntmps15
      go_wp2_with (first | (go_at_call 32; refine ((unhide C) _).mono ?_; rintro e w' ⟨rfl, hw⟩; obtain rfl := hw.symm; clear hw) | (go_at_call 33; refine ((unhide CR) _).mono ?_; rintro e w2 ⟨rfl, hb2⟩; have B2 := hide hb2; clear hb2))
      go_ret
      exact ⟨ret_boolL (by first | rfl | (simp; omega)), unhide B2⟩
    · have hl' : (1000 : Int) < ((pts s).length : Int) := by omega
      rw [decide_eq_false hl]
      generalize (pts s).length = X at *
      go_enter Tryd.func15, Tryd.ntmps15
      go_wp2_with (first | (go_at_call 32; refine ((unhide C) _).mono ?_; rintro e w' ⟨rfl, hw⟩; obtain rfl := hw.symm; clear hw) | (go_at_call 33; refine ((unhide CR) _).mono ?_; rintro e w2 ⟨rfl, hb2⟩; have B2 := hide hb2; clear hb2))
      go_ret
      exact ⟨ret_boolL (by first | rfl | (simp; omega)), unhide B2⟩
theorem Tabs.below {w w' : World} (h : Tabs w) (hb : Below w.heap.size w w') : Tabs w' := Utf8Tabs_below h hb
set_option maxRecDepth 100000 in
set_option maxHeartbeats 1000000 in
theorem implEnc (s : ByteArray) (w : World) (hs : s.size ≤ 1048576) (hT : Tabs w) :
    Calls Tryd.prog 6 #[.string s] w fun e w' => e = .returned (.string (strOfNums (enc s))) ∧ Below w.heap.size w w' := by
  have hU : undef = Value.tuple #[] := rfl
  have CM := hide (manyI s w hs)
  have HT := hide hT
  clear hT
  cases hf : few s with
  | false =>
    have HE : Hid (enc s = []) := hide (by unfold enc; rw [hf]; rfl)
    rw [hf] at CM
    clear hf
    go_enter Tryd.func6, Tryd.ntmps6
    go_wp2_with (go_at_call 15; refine (unhide CM).mono ?_; rintro e w1 ⟨rfl, hb1⟩; have B1 := hide hb1; clear hb1)
    go_ret
    exact ⟨by rw [unhide HE]; rfl, unhide B1⟩
  | true =>
    obtain ⟨f1, f2⟩ := few_yes hf
    have CV : Hid (∀ W, Tabs W → Calls Tryd.prog 16 #[.string s] W fun e w' => e = .returned (.bool (vB s)) ∧ Below W.heap.size W w') := hide (fun W h => Any.utf8_ValidString Tryd.laysValid s W (by omega) h)
    have CP := hide (fun W => implPointsOf s W (by omega))
    rw [show ptsOut s = pts s by unfold ptsOut; rw [if_neg (by omega)]] at CP
    have CL := hide (fun (W : World) (v : Value) (h : IntsAt W v (pts s)) => labelI v _ W h f2 (pts_bd2 s))
    have HE : Hid (enc s = if vB s then lab (pts s) else []) := hide (by unfold enc; rw [hf, Bool.true_and])
    rw [hf] at CM
    clear hf
    generalize enc s = O at *
    generalize lab (pts s) = Z at *
    generalize pts s = X at *
    cases hv : vB s with
    | true =>
      rw [hv] at CV HE
      rw [if_pos rfl] at HE
      clear hv
      go_enter Tryd.func6, Tryd.ntmps6
      go_wp2_with (first
        | (go_at_call 15; refine (unhide CM).mono ?_; rintro e w1 ⟨rfl, hb1⟩; have T1 := hide ((unhide HT).below hb1); have B1 := hide hb1; clear hb1)
        | (go_at_call 16; refine ((unhide CV) _ (unhide T1)).mono ?_; rintro e w2 ⟨rfl, hb2⟩; have B2 := hide ((unhide B1).trans (hb2.mono (unhide B1).size)); clear hb2)
        | (go_at_call 18; refine ((unhide CP) _).mono ?_; rintro e w3 ⟨v3, rfl, ho3, hb3⟩; have I3 := hide (IntsAt.owned ho3); have B3 := hide ((unhide B2).trans (hb3.mono (unhide B2).size)); clear ho3 hb3)
        | (go_at_call 17; refine ((unhide CL) _ _ (unhide I3)).mono ?_; rintro e w4 ⟨rfl, hb4⟩; have B4 := hide ((unhide B3).trans (hb4.mono (unhide B3).size)); clear hb4))
      go_ret
      exact ⟨by rw [unhide HE]; rfl, unhide B4⟩
    | false =>
      rw [hv] at CV HE
      rw [if_neg (by simp)] at HE
      clear hv
      go_enter Tryd.func6, Tryd.ntmps6
      go_wp2_with (first
        | (go_at_call 15; refine (unhide CM).mono ?_; rintro e w1 ⟨rfl, hb1⟩; have T1 := hide ((unhide HT).below hb1); have B1 := hide hb1; clear hb1)
        | (go_at_call 16; refine ((unhide CV) _ (unhide T1)).mono ?_; rintro e w2 ⟨rfl, hb2⟩; have B2 := hide ((unhide B1).trans (hb2.mono (unhide B1).size)); clear hb2))
      go_ret
      exact ⟨by rw [unhide HE]; rfl, unhide B2⟩
end Go.Proofs.YthjjojkabbepdaaDoor.Lab
