/- charsAlong's iterator, walked what it hands on is what chA tells. -/
import Derived.Test.YtigobciichnccaaDoorAlgI
namespace Go.Proofs.YtigobciichnccaaDoor
namespace Chr
open Go.RowKit Go.Shelf
set_option linter.unusedVariables false
attribute [local go_sem] Oper.semAt_some
theorem fsI_le (s : ByteArray) (B : List Bool) (n : Nat) : fsI (plS s) B n ≤ (steps s n).2 := by
  induction n with
  | zero => exact Nat.zero_le _
  | succ n ih =>
    have h1 : (steps s n).2 ≤ (steps s (n + 1)).2 := by
      show (steps s n).2 ≤ (if (steps s n).2 < s.size then ((steps s n).1 ++ [(dP s (steps s n).2 : Int)], (steps s n).2 + dN s (steps s n).2) else steps s n).2
      split
      · exact Nat.le_add_right _ _
      · exact Nat.le_refl _
    rw [fsI]
    split
    · exact h1
    · exact Nat.le_trans ih h1
theorem sts_at (L : List Int) (n : Nat) (h : n < L.length) : (sts L).getD n false = stb L n := by
  simp [sts, List.getD_eq_getElem?_getD, h]
theorem fs_same {s : ByteArray} {n : Nat} (h : ¬ (n ≠ 0 ∧ (sts (pts s)).getD n false = true)) : fsI (plS s) (sts (pts s)) (n + 1) = fsI (plS s) (sts (pts s)) n ∧ hnd s (plS s) (sts (pts s)) (n + 1) = hnd s (plS s) (sts (pts s)) n :=
  ⟨by rw [fsI, if_neg h], by rw [hnd, if_neg h]⟩
theorem fs_new {s : ByteArray} {n : Nat} (h : n ≠ 0 ∧ (sts (pts s)).getD n false = true) : fsI (plS s) (sts (pts s)) (n + 1) = (steps s n).2 ∧ hnd s (plS s) (sts (pts s)) (n + 1) = hnd s (plS s) (sts (pts s)) n ++ [s.extract (fsI (plS s) (sts (pts s)) n) (steps s n).2] :=
  ⟨by rw [fsI, if_pos h]; rfl, by rw [hnd, if_pos h]; rfl⟩
theorem hnd_pre (s : ByteArray) (pl : Nat → Nat) (B : List Bool) (k m : Nat) : hnd s pl B k <+: hnd s pl B (k + m) := by
  induction m with
  | zero => exact List.prefix_refl _
  | succ m ih =>
    rw [← Nat.add_assoc, hnd]
    split
    · exact ih.trans (List.prefix_append _ _)
    · exact ih
theorem hnd_chA {s : ByteArray} {k : Nat} (hs : 0 < s.size) (hk : k ≤ (pts s).length) : hnd s (plS s) (sts (pts s)) k <+: chA s := by
  unfold chA
  rw [if_neg (by omega)]
  obtain ⟨m, hm⟩ := Nat.le.dest hk
  have := hnd_pre s (plS s) (sts (pts s)) k m
  rw [hm] at this
  exact this.trans (List.prefix_append _ _)
theorem grown_below {w w' : World} (hb : Below w.heap.size w w') : w.grownBy w' none := ⟨hb.os, hb.tape, hb.output, hb.size, fun k hk _ => hb.block k hk⟩
theorem grown_iter (w : World) (s : ByteArray) (p : Nat) : w.grownBy (w.iter s p) none := World.grownBy_alloc w _ none
theorem as_new (W : World) (bt : Nat) (s : ByteArray) (ht : TabAt W) (htl : 2 < W.heap.size) (hbt : W.cell? ⟨bt, 0, none⟩ = some (.string s)) (hbl : bt < W.heap.size) :
    As W.heap.size bt s (((W.alloc (.cells ruleC 77)).alloc (.cells #[.int .i64 (-1), .int .i64 (-1), .int .i64 (-1), .int .i64 0, .bool false] 53)).iter s 0) 0 0 := by
  have hb : Below W.heap.size W (((W.alloc (.cells ruleC 77)).alloc (.cells #[.int .i64 (-1), .int .i64 (-1), .int .i64 (-1), .int .i64 0, .bool false] 53)).iter s 0) := below3 _ _ _ _
  refine ⟨ht.below hb, htl, (hb.cell (p := ⟨bt, 0, none⟩) hbl).trans hbt, hbl, (rul_new W).below (bel2 _ _ _), ?_, ?_⟩
  · have e : (W.alloc (.cells ruleC 77)).heap.size = W.heap.size + 1 := by simp
    rw [← e]
    show (((W.alloc (.cells ruleC 77)).alloc _).alloc _).heap[_]? = _
    rw [Below.heap_alloc _ _ _ (by simp)]
    exact heap_alloc_last _ _
  · have e : ((W.alloc (.cells ruleC 77)).alloc (.cells #[.int .i64 (-1), .int .i64 (-1), .int .i64 (-1), .int .i64 0, .bool false] 53)).heap.size = W.heap.size + 2 := by simp
    rw [← e]
    exact heap_alloc_last _ _
set_option maxRecDepth 100000 in
set_option maxHeartbeats 4000000 in
theorem along_in (n' l bt : Nat) (s : ByteArray) (hs : s.size ≤ 65536) (W : World) (ht : TabAt W) (htl : 2 < W.heap.size) (hbt : W.cell? ⟨bt, 0, none⟩ = some (.string s)) (hbl : bt < W.heap.size) (J Jx : List ByteArray → World → Prop)
    (hA : ∀ pre Wa Wb row, J pre Wa → Wa.grownBy Wb row → (∀ r, row = some r → r = W.heap.size + 1 ∨ r = W.heap.size + 2) → J pre Wb)
    (hY : ∀ pre x Wa, J pre Wa → pre.length < 65537 → W.heap.size + 2 < Wa.heap.size → YieldAt Fence.wide (n' - 1) Tryd.prog l #[.string x] Wa fun e Wb => (e = .returned (.bool true) ∧ J (pre ++ [x]) Wb ∧ Ka W.heap.size bt Wa Wb) ∨ (e = .returned (.bool false) ∧ Jx (pre ++ [x]) Wb))
    (h0 : J [] W) :
    CallsIn Fence.wide n' Tryd.prog 26 #[.func (.yield l) #[] #[], .pointer (some ⟨bt, 0, none⟩)] W fun e W' => (∃ v, e = .returned v) ∧ (J (chA s) W' ∨ (∃ pre, pre <+: chA s ∧ Jx pre W')) := by
  have CR := (callsIn_wide (n := n' - 1)).2 (rules_any W)
  refine callsIn_of_wp Tryd.func26 rfl trivial ?_ rfl
  simp only [Tryd.ntmps26, List.size_toArray, List.length_cons, List.length_nil, Nat.reduceAdd, Nat.reduceSub, Array.replicate_succ, Array.replicate_zero, List.push_toArray, List.append_toArray, List.nil_append, List.cons_append]
  gi_wp2_with (first | (refine ⟨trivial, (fun h => (by cases h)), ?_⟩; gi_at_call 27; refine CR.mono ?_; clear CR; rintro e W1 ⟨rfl, rfl⟩))
  gi_loopw [4] (fun fv wr => ∃ (n f : Nat) (L : List Int) (pos : Nat), fv = .int .i64 (f : Int) ∧ Hid (fsI (plS s) (sts (pts s)) n = f) ∧ Hid (steps s n = (L, pos)) ∧ pos ≤ s.size ∧ L.length = n ∧ n ≤ pos ∧ (0 < s.size → f < s.size) ∧ Hid (As W.heap.size bt s wr n pos) ∧ Hid (J (hnd s (plS s) (sts (pts s)) n) wr)) (fun _ wr => s.size - wr.iterPos (W.heap.size + 2))
  case atStart =>
    refine ⟨0, 0, [], 0, rfl, hide rfl, hide rfl, by omega, rfl, by omega, (fun h => h), ?_, ?_⟩
    · exact hide (as_new W bt s ht htl hbt hbl)
    · exact hide (hA _ _ _ none h0 (((World.grownBy_alloc W _ none).trans (World.grownBy_alloc _ _ none)).trans (grown_iter _ _ _)) (fun r e => by cases e))
  case round =>
    obtain ⟨n, f, L, pos, rfl, HF, HS, hpos, hL, hnp, hfs, HA, HJ⟩ := hrel
    have HM := hide (iterPos_of (unhide HA).it)
    have hfp : f ≤ pos := by have := fsI_le s (sts (pts s)) n; rw [unhide HF, unhide HS] at this; exact this
    by_cases hlt : pos < s.size
    · have hbd := dN_bd s pos hlt
      have d1 := hbd.1
      have d2 := hbd.2.1
      have d3 := hbd.2.2
      have hnx : ∀ ty, (Instr.next (.pointer (some ⟨W.heap.size + 2, 0, none⟩)) true ty).run Tryd.prog wr = .ok (.tuple #[.bool true, .int .i64 pos, .int .i32 (dP s pos)]) (wr.iterAt (W.heap.size + 2) s (pos + dN s pos)) := fun ty => Lib.run_next_any_at wr _ s pos ty (unhide HA).it hlt
      obtain ⟨A2', g2⟩ := (unhide HA).step (pos + dN s pos)
      have A2 := hide A2'
      have J2 := hide (hA _ _ _ _ (unhide HJ) g2 (fun r e => by injection e with e; exact .inr e.symm))
      generalize wr.iterAt (W.heap.size + 2) s (pos + dN s pos) = w2 at *
      clear A2' g2 hbd
      have hv : nth (pts s) n = (dP s pos : Int) := by have := pts_at (unhide HS) hlt; rw [hL] at this; exact this
      have hw : wrap64 (dP s pos : Int) = (dP s pos : Int) := by unfold wrap64; omega
      have hf := plb_f (pts s) n
      have hf2 := plb_f (pts s) (n + 1)
      have hln := lt_pts (unhide HS) hlt
      rw [hL] at hln
      have HPre : Hid (hnd s (plS s) (sts (pts s)) (n + 1) <+: chA s) := hide (hnd_chA (by omega) (by omega))
      have HB : Hid ((sts (pts s)).getD n false = (n == 0 || decI (plb (pts s) (n + 1)))) := hide (by rw [sts_at _ _ hln]; rfl)
      have HS2 : Hid (∃ L', steps s (n + 1) = (L', pos + dN s pos) ∧ L'.length = n + 1) := hide ⟨_, pts_step (unhide HS) hlt, by simp [hL]⟩
      have HSP : Hid ((steps s n).2 = pos) := hide (by rw [unhide HS])
      have HHL : Hid ((hnd s (plS s) (sts (pts s)) n).length < 65537) := hide (by have := hnd_len s (plS s) (sts (pts s)) n; omega)
      have CM := hide ((callsIn_wide (n := n' - 1)).2 (moved_any (plb (pts s) n) (nth (pts s) n) w2 (unhide A2).tab (by omega)))
      rw [plb_mov, ← plb_succ, hv] at CM
      obtain ⟨c0, c1, c2, c3, c4⟩ := (unhide A2).cells
      have hz2 := (unhide A2).size
      have HP := hide (fun Wx (h : As W.heap.size bt s Wx n (pos + dN s pos)) => h.put (n + 1))
      have HD := hide (fun Wx (h : As W.heap.size bt s Wx (n + 1) (pos + dN s pos)) => (callsIn_wide (n := n' - 1)).2 (decide_any (plb (pts s) (n + 1)) W.heap.size Wx h.tab h.rul (by omega)))
      generalize decI (plb (pts s) (n + 1)) = D at *
      obtain ⟨⟨x0, x1, x2, x3, x4⟩, hx⟩ : ∃ x, plb (pts s) n = x := ⟨_, rfl⟩
      obtain ⟨⟨y0, y1, y2, y3, y4⟩, hy⟩ : ∃ x, plb (pts s) (n + 1) = x := ⟨_, rfl⟩
      have HX := hide hy
      rw [hx] at c0 c1 c2 c3 c4 CM
      rw [hy] at CM HP HD
      unfold plV at CM HP HD
      simp only at c0 c1 c2 c3 c4 CM HP HD
      clear hx hy hf hf2 hv hln
      by_cases hn0 : n = 0
      · have hp0' : ((pos : Int) == 0) = true := by have := unhide HSP; rw [hn0] at this; simp; exact_mod_cast this.symm
        obtain ⟨e1, e2⟩ := fs_same (s := s) (n := n) (fun h => h.1 hn0)
        have HF2 := hide (e1.trans (unhide HF))
        have HH2 := hide e2
        clear hn0 e1 e2
        gi_wp2_with (first
          | (refine ⟨trivial, (fun h => (by cases h)), ?_⟩; gi_at_call 28; refine (unhide CM).mono ?_; rintro e w3 ⟨rfl, hb3⟩; have A3 := hide ((unhide A2).below hb3); have J3 := hide (hA _ _ _ none (unhide J2) (grown_below hb3) (fun r e => by cases e)); clear hb3; obtain ⟨w4, hst, hs4, hg4⟩ := (unhide HP) w3 (unhide A3); have A4 := hide hs4; have J4 := hide (hA _ _ _ _ (unhide J3) hg4 (fun r e => by injection e with e; exact .inl e.symm)); clear hs4 hg4; have hz4 := (unhide A4).size)
          | (refine wpListIn_storeG rfl rfl 53 (.tmp 5) (.tmp 19) rfl w4 hst ?_)
          | (refine ⟨trivial, ?_⟩))
        go_roundw
        case rel =>
          obtain ⟨L', hL1, hL2⟩ := unhide HS2
          exact ⟨n + 1, f, L', _, rfl, HF2, hide hL1, by omega, hL2, by omega, hfs, A4, hide (by rw [unhide HH2]; exact unhide J4)⟩
        case measure =>
          have := iterPos_of (unhide A4).it
          have := unhide HM
          omega
      · have hp0' : ((pos : Int) == 0) = false := by simp; omega
        cases D
        · obtain ⟨e1, e2⟩ := fs_same (s := s) (n := n) (fun h => by have := h.2; rw [unhide HB] at this; simp [hn0] at this)
          have HF2 := hide (e1.trans (unhide HF))
          have HH2 := hide e2
          clear hn0 e1 e2 HB
          gi_wp2_with (first
            | (refine ⟨trivial, (fun h => (by cases h)), ?_⟩; gi_at_call 28; refine (unhide CM).mono ?_; rintro e w3 ⟨rfl, hb3⟩; have A3 := hide ((unhide A2).below hb3); have J3 := hide (hA _ _ _ none (unhide J2) (grown_below hb3) (fun r e => by cases e)); clear hb3; obtain ⟨w4, hst, hs4, hg4⟩ := (unhide HP) w3 (unhide A3); have A4 := hide hs4; have J4 := hide (hA _ _ _ _ (unhide J3) hg4 (fun r e => by injection e with e; exact .inl e.symm)); clear hs4 hg4; have hz4 := (unhide A4).size; obtain ⟨q0, q1, q2, q3, q4⟩ := (unhide A4).cells; rw [unhide HX] at q0 q1 q2 q3 q4; simp only at q0 q1 q2 q3 q4)
            | (refine wpListIn_storeG rfl rfl 53 (.tmp 5) (.tmp 19) rfl w4 hst ?_)
            | (refine ⟨trivial, (fun h => (by cases h)), ?_⟩; gi_at_call 29; refine ((unhide HD) _ (unhide A4)).mono ?_; rintro e w5 ⟨rfl, hb5⟩; have A5 := hide ((unhide A4).below hb5); have J5 := hide (hA _ _ _ none (unhide J4) (grown_below hb5) (fun r e => by cases e)); clear hb5; have hz5 := (unhide A5).size))
          go_roundw
          case rel =>
            obtain ⟨L', hL1, hL2⟩ := unhide HS2
            exact ⟨n + 1, f, L', _, rfl, HF2, hide hL1, by omega, hL2, by omega, hfs, A5, hide (by rw [unhide HH2]; exact unhide J5)⟩
          case measure =>
            have := iterPos_of (unhide A5).it
            have := unhide HM
            omega
        · obtain ⟨e1, e2⟩ := fs_new (s := s) (n := n) ⟨hn0, by rw [unhide HB]; simp⟩
          rw [unhide HSP] at e1 e2
          rw [unhide HF] at e2
          have HF2 := hide e1
          have HH2 := hide e2
          clear hn0 e1 e2 HB
          have hfp' : (f : Int) ≤ (pos : Int) := by omega
          have hps' : (pos : Int) ≤ (s.size : Int) := by omega
          gi_wp2_with (first
            | (refine ⟨trivial, (fun h => (by cases h)), ?_⟩; gi_at_call 28; refine (unhide CM).mono ?_; rintro e w3 ⟨rfl, hb3⟩; have A3 := hide ((unhide A2).below hb3); have J3 := hide (hA _ _ _ none (unhide J2) (grown_below hb3) (fun r e => by cases e)); clear hb3; obtain ⟨w4, hst, hs4, hg4⟩ := (unhide HP) w3 (unhide A3); have A4 := hide hs4; have J4 := hide (hA _ _ _ _ (unhide J3) hg4 (fun r e => by injection e with e; exact .inl e.symm)); clear hs4 hg4; have hz4 := (unhide A4).size; obtain ⟨q0, q1, q2, q3, q4⟩ := (unhide A4).cells; rw [unhide HX] at q0 q1 q2 q3 q4; simp only at q0 q1 q2 q3 q4)
            | (refine wpListIn_storeG rfl rfl 53 (.tmp 5) (.tmp 19) rfl w4 hst ?_)
            | (refine ⟨trivial, (fun h => (by cases h)), ?_⟩; gi_at_call 29; refine ((unhide HD) _ (unhide A4)).mono ?_; rintro e w5 ⟨rfl, hb5⟩; have A5 := hide ((unhide A4).below hb5); have J5 := hide (hA _ _ _ none (unhide J4) (grown_below hb5) (fun r e => by cases e)); clear hb5; have hz5 := (unhide A5).size; have ctx := (unhide A5).txt; obtain ⟨fn, tmps, assign, body, hy, hR⟩ := hY _ (s.extract f pos) w5 (unhide J5) (unhide HHL) hz5))
          refine ⟨(fun h => (by cases h)), ?_⟩
          refine hR.mono ?_
          rintro e w6 (⟨rfl, hJ6, hk6⟩ | ⟨rfl, hJx6⟩)
          · have A6 := hide ((unhide A5).keep hk6)
            have J6 := hide hJ6
            clear hk6 hJ6
            gi_wp2
            go_roundw
            case rel =>
              obtain ⟨L', hL1, hL2⟩ := unhide HS2
              exact ⟨n + 1, pos, L', _, rfl, HF2, hide hL1, by omega, hL2, by omega, (fun _ => hlt), A6, hide (by rw [unhide HH2]; exact unhide J6)⟩
            case measure =>
              have := iterPos_of (unhide A6).it
              have := unhide HM
              omega
          · gi_wp2
            refine bodyPost_ret (results_none rfl _ _ _) rfl ?_
            exact ⟨⟨_, rfl⟩, .inr ⟨_, by rw [← unhide HH2]; exact unhide HPre, hJx6⟩⟩
    · have hnx : ∀ ty, (Instr.next (.pointer (some ⟨W.heap.size + 2, 0, none⟩)) true ty).run Tryd.prog wr = .ok (.tuple #[.bool false]) wr := fun ty => Lib.run_next_end_at wr _ s pos ty (unhide HA).it hlt
      have ctx := (unhide HA).txt
      have hz := (unhide HA).size
      have hall : (steps s n).2 = s.size := by rw [unhide HS]; show pos = s.size; omega
      have hpl : (pts s).length = n := by
        have := steps_pts s n (by omega)
        rw [← this, unhide HS]; exact hL
      by_cases hf : f < s.size
      · have HH : Hid (chA s = hnd s (plS s) (sts (pts s)) n ++ [s.extract f s.size]) := hide (by unfold chA; rw [if_neg (by omega), hpl, unhide HF])
        have HHL : Hid ((hnd s (plS s) (sts (pts s)) n).length < 65537) := hide (by have := hnd_len s (plS s) (sts (pts s)) n; omega)
        obtain ⟨fn, tmps, assign, body, hy, hR⟩ := hY _ (s.extract f s.size) wr (unhide HJ) (unhide HHL) hz
        clear hall hpl
        gi_wp2
        refine ⟨(fun h => (by cases h)), ?_⟩
        refine hR.mono ?_
        rintro e w6 (⟨rfl, hJ6, hk6⟩ | ⟨rfl, hJx6⟩)
        · have J6 := hide hJ6
          clear hk6 hJ6
          gi_wp2
          go_end0
          exact ⟨⟨_, rfl⟩, .inl (by rw [unhide HH]; exact unhide J6)⟩
        · have JX := hide hJx6
          clear hJx6
          gi_wp2
          go_end0
          exact ⟨⟨_, rfl⟩, .inr ⟨_, by rw [← unhide HH]; exact List.prefix_refl _, unhide JX⟩⟩
      · have hs0 : s.size = 0 := by
          rcases Nat.eq_zero_or_pos s.size with h | h
          · exact h
          · exact absurd (hfs h) hf
        have HH : Hid (chA s = hnd s (plS s) (sts (pts s)) n) := hide (by
          obtain rfl : n = 0 := by omega
          unfold chA
          rw [if_pos hs0]
          rfl)
        have hge : ¬ (f : Int) < (s.size : Int) := by omega
        clear hs0 hall hpl hfs
        gi_wp2
        go_end0
        exact ⟨⟨_, rfl⟩, .inl (by rw [unhide HH]; exact unhide HJ)⟩
end Chr
end Go.Proofs.YtigobciichnccaaDoor
