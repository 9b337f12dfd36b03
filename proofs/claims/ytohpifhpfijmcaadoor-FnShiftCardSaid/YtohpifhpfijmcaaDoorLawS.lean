/- The law FnShift returns true. -/
import Derived.Test.YtohpifhpfijmcaaDoorHshL
import Derived.Test.YtohpifhpfijmcaaDoorHshR
import Derived.Test.YtohpifhpfijmcaaDoorStpIB
import Derived.Test.YtohpifhpfijmcaaDoorWell
import Derived.Test.YtohpifhpfijmcaaDoorShbD
import Derived.Deep.RegionWith
import Derived.Deep.DeepCutAuto
namespace Go.Proofs.YtohpifhpfijmcaaDoor
open Go.RowKit
theorem CodeIn.below {w w' : World} {a : Option Addr} {len : Nat} (h : CodeIn w a len) (hb : Below w.heap.size w w') : CodeIn w' a len := by
  rcases h with h0 | ⟨cb, off, ha, hlt, hcc⟩
  · exact .inl h0
  · refine .inr ⟨cb, off, ha, Nat.lt_of_lt_of_le hlt hb.size, fun i hi => ?_⟩
    obtain ⟨z, hz, hzb⟩ := hcc i hi
    exact ⟨z, (hb.cell (p := ⟨cb, off + i, none⟩) hlt).trans hz, hzb⟩
/-- Where Shift can write a text, all of its answer is told. -/
theorem shGo_ok (R : List Int) : ∀ (out : List Int) (st : Int) (k : Nat), (shGo out st k R).1 = 0 → ∃ D, shGo out st k R = (0, 0, D) := by
  induction R with
  | nil =>
    intro out st k h
    have e : shGo out st k [] = legA (out ++ layS st 0) := rfl
    rw [e] at h ⊢
    unfold legA at h ⊢
    split at h
    · simp at h
    · rename_i hn; rw [if_neg hn]; exact ⟨_, rfl⟩
  | cons p t ih =>
    intro out st k h
    by_cases hn : stF st p = -1
    · rw [shGo_not hn] at h; simp at h
    · rw [shGo_one hn] at h ⊢; exact ih _ _ _ h
theorem shiftE_ok {s : ByteArray} {x1 : Int} {x2 : List Int} (h : shiftE s = (0, x1, x2)) : (strOfNums x2).size ≤ 65536 ∧ shiftD (strOfNums x2) = (0, 0, textL (ptsOut s)) := by
  unfold shiftE at h
  split at h
  · simp at h
  rename_i hs
  obtain ⟨D, hD⟩ := shGo_ok (pts s) [] 0 0 (show (shAns (pts s)).1 = 0 by rw [h])
  have hD' : shAns (pts s) = (0, 0, D) := hD
  rw [hD'] at h
  simp only [Prod.mk.injEq, true_and] at h
  rw [← h.2]
  have hb := (shAns_back (pts_pt s) hD').2
  have e : ptsOut s = pts s := by unfold ptsOut; rw [if_neg hs]
  rw [e]
  exact ⟨by rw [strOfNums_size]; exact hb, shiftD_back (by omega) hD'⟩
theorem encS_law (s : ByteArray) : (encS s).length ≤ 65536 ∧ (encS s = [] ∨ stepsD (strOfNums (encS s)) = (2, 0, []) ∨ stepsD (strOfNums (encS s)) = (0, 0, textL (ptsOut s))) := by
  unfold encS
  by_cases hs : 65536 < s.size
  · rw [if_pos hs]; exact ⟨by simp, .inl rfl⟩
  rw [if_neg hs]
  unfold small
  by_cases hb : 65536 < (encSt (pts s)).1.length
  · rw [if_pos hb]; exact ⟨by simp, .inl rfl⟩
  rw [if_neg hb]
  refine ⟨by omega, .inr ?_⟩
  rw [stepsD_back (pts s) (pts_pt s) (by omega)]
  have e : ptsOut s = pts s := by unfold ptsOut; rw [if_neg hs]
  rw [e]
  unfold legA
  by_cases h : 65536 < (textL (pts s)).length
  · rw [if_pos h]; exact .inl rfl
  · rw [if_neg h]; exact .inr rfl
theorem leg_at {w w' : World} {E : Nat} {x0 x1 : Int} {T : ByteArray} (h : w.heap[E]? = some (.cells #[.int .i64 x0, .int .i64 x1, .string T] 25)) (hb : Below w.heap.size w w') : w'.heap[E]? = some (.cells #[.int .i64 x0, .int .i64 x1, .string T] 25) :=
  (hb.block _ (Array.getElem?_eq_some_iff.1 h).1).trans h
theorem reg_new {w w' : World} {x0 x1 : Int} {T : ByteArray} (hb : Below (w.alloc (.cells #[.int .i64 x0, .int .i64 x1, .string T] 25)).drew.heap.size (w.alloc (.cells #[.int .i64 x0, .int .i64 x1, .string T] 25)).drew w') :
    w'.heap[w.heap.size]? = some (.cells #[.int .i64 x0, .int .i64 x1, .string T] 25) ∧ Below (w.heap.size + 1) (w.alloc (.cells #[.int .i64 x0, .int .i64 x1, .string T] 25)) w' := by
  have h : Below (w.alloc (.cells #[.int .i64 x0, .int .i64 x1, .string T] 25)).heap.size (w.alloc (.cells #[.int .i64 x0, .int .i64 x1, .string T] 25)) w' :=
    (show Below _ (w.alloc (.cells #[.int .i64 x0, .int .i64 x1, .string T] 25)) (w.alloc (.cells #[.int .i64 x0, .int .i64 x1, .string T] 25)).drew from ⟨rfl, rfl, rfl, Nat.le_refl _, fun _ _ => rfl⟩).trans hb
  refine ⟨(h.block _ (by simp)).trans (heap_alloc_new _ _), ?_⟩
  have e : (w.alloc (.cells #[.int .i64 x0, .int .i64 x1, .string T] 25)).heap.size = w.heap.size + 1 := by simp
  rw [e] at h
  exact h
theorem reg_more {w w5 w6 : World} {E : Nat} {x0 x1 : Int} {T : ByteArray} {B : Nat} (hE : w5.heap[E]? = some (.cells #[.int .i64 x0, .int .i64 x1, .string T] 25)) (hB : Below B w w5) (hBs : B ≤ w.heap.size) (hb : Below w5.heap.size w5 w6) :
    w6.heap[E]? = some (.cells #[.int .i64 x0, .int .i64 x1, .string T] 25) ∧ Below B w w6 := by
  have := hB.size
  exact ⟨leg_at hE hb, hB.trans (hb.mono (by omega))⟩
set_option maxHeartbeats 8000000 in
set_option maxRecDepth 100000 in
theorem lawShift (w : World) (a : Option Addr) (len cap : Nat) (hc : CodeIn w a len) (ht : TabAt w) :
    Calls Tryd.prog 3 #[.slice a len cap] w fun e w' => e = .returned (.bool true) ∧ Below w.heap.size w w' := by
  by_cases hl : 1048576 < len
  · go_enter Tryd.func3, Tryd.ntmps3
    go_wp2
    go_ret
    exact ⟨rfl, Below.refl _ _⟩
  have HC := hide hc
  have HT := hide ht
  clear hc ht
  have HLl : Hid (len ≤ 1048576) := hide (by omega)
  go_enter Tryd.func3, Tryd.ntmps3
  go_wp2_with fail
  refine (drawES_any _ a len cap (unhide HLl) (unhide HC)).mono ?_
  rintro e w1 ⟨t, rfl, htz, hb⟩
  have B1 := hide hb
  clear hb
  obtain ⟨⟨x0, x1, x2⟩, hx⟩ : ∃ x, shiftE t = x := ⟨_, rfl⟩
  have S1 : Hid (∀ W, Calls Tryd.prog 9 #[.string t] W fun e w' => e = .returned (.agg #[.int .i64 x0, .int .i64 x1, .string (strOfNums x2)]) ∧ Below W.heap.size W w') := hide fun W => by
    have h := sEncH t W (by omega)
    rw [hx] at h
    exact h
  have S2 : Hid (∀ W, TabAt W → Calls Tryd.prog 8 #[.string t] W fun e w' => e = .returned (.agg #[.int .i64 x0, .int .i64 x1, .string (strOfNums x2)]) ∧ Below W.heap.size W w') := hide fun W hW => by
    have h := iEncH t W (by omega) hW
    rw [hx] at h
    exact h
  have HX := hide hx
  clear hx
  obtain ⟨T, hT⟩ : ∃ T, strOfNums x2 = T := ⟨_, rfl⟩
  rw [hT] at S1 S2
  have HTT := hide hT
  clear hT
  go_wp2_with fail
  refine ((unhide S2) _ ((unhide HT).below (unhide B1))).mono ?_
  rintro e w2 ⟨rfl, hb2⟩
  have B2 := hide ((unhide B1).trans (hb2.mono (unhide B1).size))
  clear hb2 B1 S2
  have q0 : (x0 != x0) = false := by simp
  have qT : (T.toList != T.toList) = false := by simp
  have hf0 : ∀ u, (Instr.field 25 (.agg #[.int .i64 x0, .int .i64 x1, .string T]) 0).run Tryd.prog u = .ok (.int .i64 x0) u := fun _ => by kernel_rfl
  have hf2 : ∀ u, (Instr.field 25 (.agg #[.int .i64 x0, .int .i64 x1, .string T]) 2).run Tryd.prog u = .ok (.string T) u := fun _ => by kernel_rfl
  go_upto_region 5 with fail
  go_cut [27] (fun v wx => v = .bool false ∧ Hid (Below (w2.heap.size + 1) (w2.alloc (.cells #[.int .i64 x0, .int .i64 x1, .string T] 25)) wx))
  case first =>
    have TOK : Hid True := hide trivial
    go_region_with (first
      | (go_at_call 9; clear TOK; refine ((unhide S1) _).mono ?_; rintro e w5 ⟨rfl, hb5⟩; obtain ⟨hE5, hB5⟩ := reg_new hb5; have c50 := (store3 hE5).1; have c52 := (store3 hE5).2.2.1; have HE5 := hide hE5; have HB5 := hide hB5; clear hb5 hE5 hB5)
      | (go_at_call 9; refine ((unhide S1) _).mono ?_; rintro e w6 ⟨rfl, hb6⟩; obtain ⟨hE6, hB6⟩ := reg_more (unhide HE5) (unhide HB5) (by simp) hb6; have c60 := (store3 hE6).1; have c62 := (store3 hE6).2.2.1; have HB6 := hide hB6; clear hb6 hE6 hB6))
    all_goals
      go_wp2_with fail
      go_meet
      exact ⟨rfl, HB6⟩
  case rest =>
    obtain ⟨rfl, HB5⟩ := hcut
    have hE5 : wc.heap[w2.heap.size]? = some (.cells #[.int .i64 x0, .int .i64 x1, .string T] 25) := ((unhide HB5).block _ (by omega)).trans (heap_alloc_new _ _)
    have hb5 : Below w.heap.size w wc := ((unhide B2).alloc (unhide B2).size _).trans ((unhide HB5).mono (by have := (unhide B2).size; omega))
    have c50 := (store3 hE5).1
    have c52 := (store3 hE5).2.2.1
    have B5 := hide hb5
    clear hE5 hb5 HB5 B2 q0 qT S1 hf0 hf2
    go_upto_region 7 with fail
    go_cut [39] (fun v wx => v = .bool false ∧ Hid (Below w.heap.size w wx))
    case first =>
      by_cases h0 : x0 = 0
      · subst h0
        have hok := shiftE_ok (unhide HX)
        rw [unhide HTT] at hok
        have CD : Hid (∀ W, TabAt W → Calls Tryd.prog 10 #[.string T] W fun e w' => e = .returned (.agg #[.int .i64 0, .int .i64 0, .string (strOfNums (textL (ptsOut t)))]) ∧ Below W.heap.size W w') := hide fun W hW => by
          have h := iDecH T W (by omega) hW
          rw [hok.2] at h
          exact h
        have CW : Hid (∀ W, Calls Tryd.prog 11 #[.string t] W fun e w' => e = .returned (.string (strOfNums (textL (ptsOut t)))) ∧ Below W.heap.size W w') := hide fun W => well_any t W (by omega)
        clear hok
        generalize strOfNums (textL (ptsOut t)) = V at *
        have qV : (V.toList != V.toList) = false := by simp
        have hf2 : ∀ u, (Instr.field 25 (.agg #[.int .i64 0, .int .i64 0, .string V]) 2).run Tryd.prog u = .ok (.string V) u := fun _ => by kernel_rfl
        go_wp2_with fail
        refine ((unhide CD) _ ((unhide HT).below (unhide B5))).mono ?_
        rintro e w7 ⟨rfl, hb7⟩
        have B7 := hide ((unhide B5).trans (hb7.mono (unhide B5).size))
        clear hb7 B5
        go_wp2_with fail
        refine ((unhide CW) _).mono ?_
        rintro e w8 ⟨rfl, hb8⟩
        have B8 := hide ((unhide B7).trans (hb8.mono (unhide B7).size))
        clear hb8 B7
        go_wp2_with fail
        go_meet
        exact ⟨rfl, B8⟩
      · have q0 : (x0 == 0) = false := by rw [beq_eq_false_iff_ne]; exact h0
        clear h0
        go_wp2_with fail
        go_meet
        exact ⟨rfl, B5⟩
    case rest =>
      obtain ⟨rfl, B8⟩ := hcut
      clear c50 c52 B5
      go_wp2_with fail
      refine (draw_any _ a len cap (unhide HLl) ((unhide HC).below (unhide B8))).mono ?_
      rintro e w9 ⟨r, rfl, hrz, hb9⟩
      have B9 := hide ((unhide B8).trans (hb9.mono (unhide B8).size))
      clear hb9 B8 HC HT
      obtain ⟨hel, hlaw⟩ := encS_law r
      have CE : Hid (∀ W, Calls Tryd.prog 13 #[.string r] W fun e w' => e = .returned (.string (strOfNums (encS r))) ∧ Below W.heap.size W w') := hide fun W => iEncS r W (by omega)
      have CF : Hid (∀ W, Calls Tryd.prog 15 #[.string r] W fun e w' => e = .returned (.string (strOfNums (encS r))) ∧ Below W.heap.size W w') := hide fun W => sEncS r W (by omega)
      have CG : Hid (∀ W, Calls Tryd.prog 14 #[.string (strOfNums (encS r))] W fun e w' => e = .returned (legV (stepsD (strOfNums (encS r)))) ∧ Below W.heap.size W w') := hide fun W => iDecS _ W (by rw [strOfNums_size]; omega)
      have CW : Hid (∀ W, Calls Tryd.prog 11 #[.string r] W fun e w' => e = .returned (.string (strOfNums (textL (ptsOut r)))) ∧ Below W.heap.size W w') := hide fun W => well_any r W (by omega)
      obtain ⟨⟨y0, y1, y2⟩, hy⟩ : ∃ y, stepsD (strOfNums (encS r)) = y := ⟨_, rfl⟩
      rw [hy] at CG hlaw
      have hlaw2 : (strOfNums (encS r)).toList.isEmpty = true ∨ ((strOfNums (encS r)).toList.isEmpty = false ∧ (y0 = 2 ∨ (y0 = 0 ∧ strOfNums y2 = strOfNums (textL (ptsOut r))))) := by
        cases he : (strOfNums (encS r)).toList.isEmpty
        · right
          refine ⟨rfl, ?_⟩
          rcases hlaw with h | h | h
          · rw [h, Lib.strOfNums_toList] at he; exact absurd he (by decide)
          · simp only [Prod.mk.injEq] at h; exact .inl h.1
          · simp only [Prod.mk.injEq] at h; exact .inr ⟨h.1, by rw [h.2.2]⟩
        · exact .inl rfl
      unfold legV at CG
      simp only [] at CG
      clear hlaw hy hel
      generalize strOfNums (encS r) = S at *
      generalize strOfNums (textL (ptsOut r)) = V at *
      generalize strOfNums y2 = Y at *
      have HLAW := hide hlaw2
      clear hlaw2
      go_wp2_with fail
      refine ((unhide CE) _).mono ?_
      rintro e w10 ⟨rfl, hb10⟩
      have B10 := hide ((unhide B9).trans (hb10.mono (unhide B9).size))
      clear hb10 B9 CE
      go_wp2_with fail
      refine ((unhide CG) _).mono ?_
      rintro e w11 ⟨rfl, hb11⟩
      have B11 := hide ((unhide B10).trans (hb11.mono (unhide B10).size))
      clear hb11 B10 CG
      have qS : (S.toList == S.toList) = true := by simp
      go_upto_region 12 with fail
      rcases unhide HLAW with hS | ⟨hS, hy | ⟨hy, hV⟩⟩
      · obtain rfl : S = { data := #[] } := by
          rw [Lib.toList_data, List.isEmpty_iff] at hS
          exact ByteArray.ext (Array.toList_inj.1 hS)
        clear qS hS HLAW
        have hU : undef = Value.tuple #[] := rfl
        first | (go_region_with (go_at_call 15; refine ((unhide CF) _).mono ?_; rintro e w12 ⟨rfl, hb12⟩; obtain ⟨hE12, hB12⟩ := reg_new hb12; have c0 := (store3 hE12).1; have c2 := (store3 hE12).2.2.1; have HB12 := hide hB12; clear hb12 hE12 hB12)) | fail
        all_goals
          go_wp2
          go_ret
          exact ⟨rfl, ((unhide B11).alloc (unhide B11).size _).trans ((unhide HB12).mono (by have := (unhide B11).size; omega))⟩
      · have hS2 : (S.toList == []) = false := by rw [beq_eq_false_iff_ne]; intro e; rw [e] at hS; cases hS
        have hS3 : ¬ S.toList = [] := by intro e; rw [e] at hS; cases hS
        have hS4 : (S.toList == ({ data := #[] } : ByteArray).toList) = false := by rw [Lib.toList_data { data := #[] }]; exact hS2
        subst hy
        clear HLAW
        have hU : undef = Value.tuple #[] := rfl
        first | (go_region_with (go_at_call 15; refine ((unhide CF) _).mono ?_; rintro e w12 ⟨rfl, hb12⟩; obtain ⟨hE12, hB12⟩ := reg_new hb12; have c0 := (store3 hE12).1; have c2 := (store3 hE12).2.2.1; have HB12 := hide hB12; clear hb12 hE12 hB12)) | fail
        all_goals
          go_wp2
          go_ret
          exact ⟨rfl, ((unhide B11).alloc (unhide B11).size _).trans ((unhide HB12).mono (by have := (unhide B11).size; omega))⟩
      · have hS2 : (S.toList == []) = false := by rw [beq_eq_false_iff_ne]; intro e; rw [e] at hS; cases hS
        have hS3 : ¬ S.toList = [] := by intro e; rw [e] at hS; cases hS
        have hS4 : (S.toList == ({ data := #[] } : ByteArray).toList) = false := by rw [Lib.toList_data { data := #[] }]; exact hS2
        subst hy
        subst hV
        have qV : (Y.toList == Y.toList) = true := by simp
        clear HLAW
        have hU : undef = Value.tuple #[] := rfl
        first | (go_region_with (first | (go_at_call 15; refine ((unhide CF) _).mono ?_; rintro e w12 ⟨rfl, hb12⟩; obtain ⟨hE12, hB12⟩ := reg_new hb12; have c0 := (store3 hE12).1; have c2 := (store3 hE12).2.2.1; have HE12 := hide hE12; have HB12 := hide hB12; clear hb12 hE12 hB12) | (go_at_call 11; refine ((unhide CW) _).mono ?_; rintro e w13 ⟨rfl, hb13⟩; obtain ⟨hE13, hB13⟩ := reg_more (unhide HE12) (unhide HB12) (by simp) hb13; have d2 := (store3 hE13).2.2.1; have HB13 := hide hB13; clear hb13 hE13 hB13))) | fail
        all_goals
          go_wp2
          go_ret
          exact ⟨rfl, ((unhide B11).alloc (unhide B11).size _).trans ((unhide HB13).mono (by have := (unhide B11).size; omega))⟩
end Go.Proofs.YtohpifhpfijmcaaDoor
