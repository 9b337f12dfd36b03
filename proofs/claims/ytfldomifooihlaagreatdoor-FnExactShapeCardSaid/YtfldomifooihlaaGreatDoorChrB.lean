/- Of each point whether a character starts with it, as the program tells it: the walk. -/
import Derived.Test.YtfldomifooihlaaGreatDoorChrA
import Derived.Laws.MakeOwn
namespace Go.Proofs.YtfldomifooihlaaGreatDoor
namespace Chr
open Go.RowKit
theorem info4 : (Tryz.prog.info? 4).map (fun i => (i.zero, i.size, i.bytes)) = some (some (.bool false), 1, 1) := by kernel_rfl
theorem makeB (n : Nat) (hn : n ≤ 65536) (W : World) : (Instr.makeSlice 129 (.int .i64 (n : Int)) (.int .i64 (n : Int))).run Tryz.prog W = .ok (.slice (some ⟨W.heap.size, 0, none⟩) n n) (W.alloc (.cells (List.replicate n (Value.bool false)).toArray 4)) := by
  obtain ⟨i0, hi, hz0, hz1, hz2⟩ := info_parts info4
  have := run_makeSlice (P := Tryz.prog) W 129 4 i0 (.bool false) Tryz.underlying129 hi hz0 .i64 .i64 (n : Int) (n : Int) (by omega) (Int.le_refl _) (by rw [hz1]; omega) (by rw [hz2]; omega) (by omega)
  have e : madeCells #[Value.bool false] n = (List.replicate n (Value.bool false)).toArray := by
    apply Array.toList_inj.1
    rw [toList_madeCells_one]
  rw [hz1] at this
  simp only [Int.toNat_natCast, Nat.mul_one] at this
  rw [← e]
  exact this
theorem first_st (w : World) (L : List Int) : CSt w (((w.alloc (.cells ruleC 166)).alloc (.cells (List.replicate L.length (Value.bool false)).toArray 4)).alloc (.cells #[.int .i64 (-1), .int .i64 (-1), .int .i64 (-1), .int .i64 0, .bool false] 157)) L 0 0 := by
  refine ⟨below3 _ _ _ _, ((rul_new w).below (bel2 _ _ _)), ?_, ?_⟩
  · have e : (w.alloc (.cells ruleC 166)).heap.size = w.heap.size + 1 := by simp
    rw [stL_zero, ← e, Below.heap_alloc _ _ _ (by simp)]
    exact heap_alloc_last _ _
  · have e : ((w.alloc (.cells ruleC 166)).alloc (.cells (List.replicate L.length (Value.bool false)).toArray 4)).heap.size = w.heap.size + 2 := by simp
    rw [← e]
    exact heap_alloc_last _ _
set_option maxRecDepth 100000 in
set_option maxHeartbeats 4000000 in
theorem charStarts_any (v : Value) (L : List Int) (w : World) (hv : IntsAt w v L) (hL : L.length ≤ 65536) (ht : TabAt w) : Calls Tryz.prog 86 #[v] w fun e w' =>
    ∃ c, e = .returned (.slice (some ⟨w.heap.size + 1, 0, none⟩) L.length c) ∧ w'.heap[w.heap.size + 1]? = some (.cells ((sts L).map Value.bool).toArray 4 (0, 0)) ∧ Below w.heap.size w w' := by
  obtain ⟨a, cap, rfl, hc⟩ := hv
  obtain ⟨i0, hi, hz0, hz1, hz2⟩ := info_parts info4
  have HT := hide ht
  clear ht
  have hmk := makeB L.length hL (w.alloc (.cells ruleC 166))
  have hsz : (w.alloc (.cells ruleC 166)).heap.size = w.heap.size + 1 := by simp
  rw [hsz] at hmk
  clear hsz
  have S0 := hide (first_st w L)
  have HC := hide hc
  clear hc
  go_enter Tryz.func86, Tryz.ntmps86
  go_wp2_with (first | (go_at_call 112; refine (rules_any _).mono ?_; rintro e w' ⟨rfl, rfl⟩))
  go_loopw [15] (fun x wr => ∃ i : Nat, x = .int .i64 i ∧ i ≤ L.length ∧ Hid (CSt w wr L i i)) (fun x _ => L.length - (intOf x).toNat)
  case atStart => exact ⟨0, rfl, by omega, S0⟩
  case round =>
    obtain ⟨i, rfl, hiL, HS⟩ := hrel
    clear S0 hmk
    by_cases hlt : i < L.length
    · have hb : ∃ b off, a = some ⟨b, off, none⟩ ∧ b < w.heap.size ∧ ∀ i, i < L.length → w.cell? ⟨b, off + i, none⟩ = some (.int .i64 (nth L i)) := by
        rcases unhide HC with h | h
        · rw [h] at hlt; simp at hlt
        · exact h
      obtain ⟨b, off, rfl, hbw, hcs⟩ := hb
      have hsz := (unhide HS).size
      have hpc := ((unhide HS).bel.cell (p := ⟨b, off + i, none⟩) hbw).trans (hcs i hlt)
      clear hcs HC
      obtain ⟨c0, c1, c2, c3, c4⟩ := (unhide HS).cells
      have CM := hide (fun W h => moved_any (plb L i) (nth L i) W h (by have := plb_f L i; omega))
      have CD := hide (fun W h h2 => decide_any (plc L i) w.heap.size W h h2 (by have := plc_f L i; omega))
      rw [plb_mov, ← plb_succ] at CM
      rw [← plb_succ] at CD
      have HT2 := hide ((unhide HT).below (unhide HS).bel)
      have HB : Hid (stb L i = (i == 0 || decI (plb L (i + 1)))) := hide rfl
      have HP := hide (fun W (h : CSt w W L i i) => h.put (i + 1))
      generalize decI (plb L (i + 1)) = D at *
      obtain ⟨⟨l, r, bb, f, d⟩, hx⟩ : ∃ x, plb L i = x := ⟨_, rfl⟩
      obtain ⟨⟨l2, r2, bb2, f2, d2⟩, hx2⟩ : ∃ x, plb L (i + 1) = x := ⟨_, rfl⟩
      have HX := hide hx2
      rw [hx] at c0 c1 c2 c3 c4 CM
      rw [hx2] at CM CD HP
      unfold plV at CM CD HP
      simp only at c0 c1 c2 c3 c4 CM CD HP
      clear hx hx2
      by_cases h0 : i = 0
      · have h0' : ((i : Int) == 0) = true := by simp [h0]
        have HB' : Hid (true = stb L i) := hide (by rw [unhide HB, h0]; rfl)
        clear HB CD h0
        go_wp2_with (first
          | (go_at_call 113; refine ((unhide CM) _ (unhide HT2)).mono ?_; rintro e w2 ⟨rfl, hb2⟩; have S2 := hide ((unhide HS).below hb2); clear hb2; obtain ⟨w3, hst, hs3⟩ := (unhide HP) w2 (unhide S2); have S3 := hide hs3; clear hs3; have hz3 := (unhide S3).size; obtain ⟨d0, d1⟩ := (unhide S3).room i hlt)
          | (refine wpList_storeG rfl rfl 157 (.tmp 5) (.tmp 22) rfl w3 hst ?_))
        go_roundw
        case rel => exact ⟨i + 1, by go_num, by omega, hide ((unhide S3).start true (unhide HB'))⟩
        case measure => simp [intOf]; omega
      · have h0' : ((i : Int) == 0) = false := by simp; omega
        have HB' : Hid (D = stb L i) := hide (by rw [unhide HB]; simp [h0])
        clear HB h0
        go_wp2_with (first
          | (go_at_call 113; refine ((unhide CM) _ (unhide HT2)).mono ?_; rintro e w2 ⟨rfl, hb2⟩; have S2 := hide ((unhide HS).below hb2); clear hb2; obtain ⟨w3, hst, hs3⟩ := (unhide HP) w2 (unhide S2); have S3 := hide hs3; clear hs3; have hz3 := (unhide S3).size; obtain ⟨e0, e1, e2, e3, e4⟩ := (unhide S3).cells; rw [unhide HX] at e0 e1 e2 e3 e4; simp only at e0 e1 e2 e3 e4)
          | (refine wpList_storeG rfl rfl 157 (.tmp 5) (.tmp 22) rfl w3 hst ?_)
          | (go_at_call 114; refine ((unhide CD) _ ((unhide HT).below (unhide S3).bel) (unhide S3).rul).mono ?_; rintro e w4 ⟨rfl, hb4⟩; have S4 := hide ((unhide S3).below hb4); clear hb4; have hz4 := (unhide S4).size; obtain ⟨d0, d1⟩ := (unhide S4).room i hlt))
        go_roundw
        case rel => exact ⟨i + 1, by go_num, by omega, hide ((unhide S4).start D (unhide HB'))⟩
        case measure => simp [intOf]; omega
    · obtain rfl : i = L.length := by omega
      go_wp2
      go_ret
      exact ⟨_, rfl, by rw [← stL_all]; exact (unhide HS).st, (unhide HS).bel⟩
end Chr
end Go.Proofs.YtfldomifooihlaaGreatDoor
