/- DecodeShift of the specification. -/
import Derived.Test.YtohpifhpfijmcaaDoorHshQ
import Derived.WalkMore
namespace Go.Proofs.YtohpifhpfijmcaaDoor
open Go.RowKit
set_option maxHeartbeats 8000000 in
set_option maxRecDepth 100000 in
theorem sDecShift (s : ByteArray) (w : World) (hs : s.size ≤ 65536) :
    Calls Tryd.prog 19 #[.string s] w fun e w' => e = .returned (legV (hans s)) ∧ Below w.heap.size w w' := by
  obtain ⟨i0, hi, hy0, hy1, hy2⟩ := info_parts info2
  obtain ⟨wR, hwR⟩ : ∃ wR, w.alloc (.cells #[.int .i64 0, .int .i64 0, .string (strOfNums [])] 25) = wR := ⟨_, rfl⟩
  have hRs : wR.heap.size = w.heap.size + 1 := by rw [← hwR]; simp
  have hb0 : Below w.heap.size w wR := by rw [← hwR]; exact (Below.refl _ _).alloc (Nat.le_refl _) _
  have hR0 : wR.heap[w.heap.size]? = some (.cells #[.int .i64 0, .int .i64 0, .string (strOfNums [])] 25) := by rw [← hwR]; exact heap_alloc_new _ _
  have HO0 : Hid ((wR.alloc (.cells #[] 2)).ownsRow (w.heap.size + 1) 2 1 (.slice (some ⟨w.heap.size + 1, 0, none⟩) 0 0) ([] : List Int).length (([] : List Int).map (Value.int .i64))) := hide (by rw [← hRs]; exact World.ownsRow_lit wR #[] 0 (Nat.le_refl _) (by unfold maxLen; omega) rfl)
  have HB0 : Hid (Below (w.heap.size + 1) wR (wR.alloc (.cells #[] 2))) := hide (by rw [← hRs]; exact (Below.refl _ _).alloc (Nat.le_refl _) _)
  have HBW := hide hb0
  have HR0 := hide hR0
  have HRS := hide hRs
  subst hwR
  clear hb0 hR0 hRs
  go_enter Tryd.func19, Tryd.ntmps19
  go_wp2
  go_loopw [3, 4, 5] (fun v f i wr => ∃ (nn i' : Nat) (l : List Int) (f' : Int), i = .int .i64 i' ∧ f = .int .i64 f' ∧ Hid (hst s nn = ⟨l, f', i'⟩ ∧ nn ≤ i' ∧ wr.ownsRow (w.heap.size + 1) 2 1 v l.length (l.map (Value.int .i64)) ∧ Below (w.heap.size + 1) (w.alloc (.cells #[.int .i64 0, .int .i64 0, .string (strOfNums [])] 25)) wr)) (fun _ _ i _ => s.size - (intOf i).toNat)
  case atStart => exact ⟨0, 0, [], 0, rfl, rfl, hide ⟨rfl, Nat.le_refl _, unhide HO0, unhide HB0⟩⟩
  case round =>
    obtain ⟨nn, i, l, st, rfl, rfl, HD⟩ := hrel
    clear HO0 HB0
    obtain ⟨hd, hnn, hown, hbl⟩ := unhide HD
    have hbd := hst_bd s nn
    rw [hd] at hbd
    have hf1 : 0 ≤ st := hbd.1
    have hf2 : st ≤ 4 := hbd.2.1
    have hi2 : i ≤ s.size := hbd.2.2.1
    have hl2 : l.length ≤ i := hbd.2.2.2
    have htl := textL_le l
    have hRs := unhide HRS
    have hcl : wr.heap[w.heap.size]? = some (.cells #[.int .i64 0, .int .i64 0, .string (strOfNums [])] 25) := (hbl.block _ (by omega)).trans (unhide HR0)
    have hws : w.heap.size + 1 ≤ wr.heap.size := by have := hbl.size; omega
    have HOW := hide hown
    have HBL := hide hbl
    have HCL := hide hcl
    have HD0 := hide hd
    clear hbd hd hown hbl hcl hRs HD
    by_cases hlt : i < s.size
    · have hpb := pc_bd (s := s) (i := i) (st := st) hf1 hf2 hlt
      have CP := hide (fun W => piece_any s i st hf1 hf2 hlt hs W)
      obtain ⟨⟨p, st', m⟩, hpc⟩ : ∃ y, pc s i st = y := ⟨_, rfl⟩
      rw [hpc] at hpb CP
      have hp1 : -1 ≤ p := hpb.2.2.2.1
      have hp2 : p ≤ 26623 := hpb.2.2.2.2
      have him : i + m ≤ s.size := hpb.2.2.1
      have HPC := hide hpc
      clear hpb hpc
      go_wp2_with fail
      refine ((unhide CP) _).mono ?_
      rintro e w2 ⟨rfl, hb2⟩
      have HOW2 := hide (ownsRow_below (unhide HOW) hb2)
      have HBL2 := hide ((unhide HBL).trans (hb2.mono hws))
      have hcl2 := (hb2.block _ (by omega)).trans (unhide HCL)
      have hws2 : w.heap.size + 1 ≤ w2.heap.size := by have := hb2.size; omega
      have HCL2 := hide hcl2
      clear hb2 HOW HBL HCL hcl2 CP
      unfold pcV
      by_cases hm : m = 0
      · subst hm
        have HA : Hid (hans s = (3, (i : Int), [])) := hide (hans_bad (unhide HD0) (by omega) hlt (by rw [unhide HPC]))
        have hcl := unhide HCL2
        obtain ⟨c0, c1, c2, z0, z1, z2⟩ := store3 hcl
        obtain ⟨p0, p1, p2⟩ := leg_cells hcl (.int .i64 3) (.int .i64 i) (.string { data := #[] })
        have HB3 := hide ((unhide HBW).trans ((unhide HBL2).mono (Nat.le_succ _)))
        clear hcl
        go_wp2
        try simp only [Exit.inBlock, Exit.then]
        refine bodyPost_ret (by simp [results, Tryd.results19, go_sem, p0, p1, p2]; try rfl) rfl ?_
        exact ⟨by rw [unhide HA]; rfl, below_set3 (unhide HB3) _ _ _⟩
      have qm : ((m : Int) == 0) = false := by rw [beq_eq_false_iff_ne]; omega
      have HS := hide (hst_succ (unhide HD0) hlt (unhide HPC) hm)
      by_cases hp : 0 ≤ p
      · have HS2 : Hid (hst s (nn + 1) = ⟨l ++ [p], st', i + m⟩) := hide (by rw [unhide HS, if_pos hp])
        clear HS
        go_wp2_with (at_builtin; refine wpList_append_own _ rfl _ _ 40 rfl (w.heap.size + 1) 2 i0 (.int .i64 0) 1 8 Tryd.underlying40 hi hy0 hy1 hy2 rfl (by decide) _ _ _ rfl (owned_alloc (unhide HOW2) _) ⟨w2.heap.size, 0, none⟩ 1 1 [.int .i64 p] rfl rfl ?c1 ?c2 ?c3 ?c4 ?c5 ?_)
        case c1 => exact cell_one_new _ _ _
        case c2 => intro u hu; simp at hu; subst hu; rfl
        case c3 => unfold maxLen; omega
        case c4 => omega
        case c5 => simp; omega
        intro v' w3 hown' hgrow _
        have R := row_step (unhide HBL2) (Below.refl _ _) hws2 (unhide HOW2) hown' hgrow
        have HD3 : Hid (hst s (nn + 1) = ⟨l ++ [p], st', i + m⟩ ∧ nn + 1 ≤ i + m ∧ w3.ownsRow (w.heap.size + 1) 2 1 v' (l ++ [p]).length ((l ++ [p]).map (Value.int .i64)) ∧ Below (w.heap.size + 1) (w.alloc (.cells #[.int .i64 0, .int .i64 0, .string (strOfNums [])] 25)) w3) := hide ⟨unhide HS2, by omega, R.1, R.2⟩
        clear hown' hgrow R
        go_wp2
        go_roundw
        case rel =>
          have RR : ∃ (nn i' : Nat) (l : List Int) (f' : Int), Value.int .i64 ((i : Int) + (m : Int)) = .int .i64 i' ∧ Value.int .i64 st' = .int .i64 f' ∧ Hid (hst s nn = ⟨l, f', i'⟩ ∧ nn ≤ i' ∧ w3.ownsRow (w.heap.size + 1) 2 1 v' l.length (l.map (Value.int .i64)) ∧ Below (w.heap.size + 1) (w.alloc (.cells #[.int .i64 0, .int .i64 0, .string (strOfNums [])] 25)) w3) :=
            ⟨nn + 1, i + m, l ++ [p], st', by go_num, rfl, HD3⟩
          first | exact RR | ((repeat apply Exists.intro); exact ⟨RR, rfl⟩)
        case measure => simp [intOf] <;> omega
      · have HS2 : Hid (hst s (nn + 1) = ⟨l, st', i + m⟩) := hide (by rw [unhide HS, if_neg hp])
        have hpn : p < 0 := by omega
        clear HS
        have RR0 : ∀ v, w2.ownsRow (w.heap.size + 1) 2 1 v l.length (l.map (Value.int .i64)) → ∃ (nn i' : Nat) (l : List Int) (f' : Int), Value.int .i64 ((i : Int) + (m : Int)) = .int .i64 i' ∧ Value.int .i64 st' = .int .i64 f' ∧ Hid (hst s nn = ⟨l, f', i'⟩ ∧ nn ≤ i' ∧ w2.ownsRow (w.heap.size + 1) 2 1 v l.length (l.map (Value.int .i64)) ∧ Below (w.heap.size + 1) (w.alloc (.cells #[.int .i64 0, .int .i64 0, .string (strOfNums [])] 25)) w2) :=
          fun v ho => ⟨nn + 1, i + m, l, st', by go_num, rfl, hide ⟨unhide HS2, by omega, ho, unhide HBL2⟩⟩
        have RH := hide RR0
        clear RR0
        go_wp2
        go_roundw
        case rel => first | exact (unhide RH) _ (unhide HOW2) | ((repeat apply Exists.intro); exact ⟨(unhide RH) _ (unhide HOW2), rfl⟩)
        case measure => simp [intOf] <;> omega
    · have hie : i = s.size := by omega
      have hd := unhide HD0
      by_cases h0 : st = 0
      · subst h0
        have HA : Hid (hans s = legA (textL l)) := hide (hans_text hd (by omega) hlt)
        clear hd
        go_wp2_with fail
        refine (l01Text _ l _ (IntsAt.owned (unhide HOW)) (by omega)).mono ?_
        rintro e w3 ⟨rfl, hb3⟩
        have hcl : w3.heap[w.heap.size]? = some (.cells #[.int .i64 0, .int .i64 0, .string (strOfNums [])] 25) := (hb3.block _ (by omega)).trans (unhide HCL)
        have HB3 := hide ((unhide HBW).trans (((unhide HBL).trans (hb3.mono hws)).mono (Nat.le_succ _)))
        have hsz := strOfNums_size (textL l)
        obtain ⟨c0, c1, c2, z0, z1, z2⟩ := store3 hcl
        by_cases hbig : 65536 < (textL l).length
        · have HA2 : Hid (hans s = (2, 0, [])) := hide (by rw [unhide HA]; unfold legA; rw [if_pos hbig])
          clear HA
          have HA := HA2
          obtain ⟨p0, p1, p2⟩ := leg_cells hcl (.int .i64 2) (.int .i64 0) (.string { data := #[] })
          clear hb3 hcl
          go_wp2
          try simp only [Exit.inBlock, Exit.then]
          refine bodyPost_ret (by simp [results, Tryd.results19, go_sem, p0, p1, p2]; try rfl) rfl ?_
          exact ⟨by rw [unhide HA]; rfl, below_set3 (unhide HB3) _ _ _⟩
        · have HA2 : Hid (hans s = (0, 0, textL l)) := hide (by rw [unhide HA]; unfold legA; rw [if_neg hbig])
          clear HA
          have HA := HA2
          obtain ⟨p0, p1, p2⟩ := leg_cells hcl (.int .i64 0) (.int .i64 0) (.string (strOfNums (textL l)))
          clear hb3 hcl
          go_wp2
          try simp only [Exit.inBlock, Exit.then]
          refine bodyPost_ret (by simp [results, Tryd.results19, go_sem, p0, p1, p2]; try rfl) rfl ?_
          exact ⟨by rw [unhide HA]; rfl, below_set3 (unhide HB3) _ _ _⟩
      · have HA : Hid (hans s = (6, (s.size : Int), [])) := hide (hans_state hd (by omega) hlt h0)
        have hq : (st != 0) = true := by simpa using h0
        have hcl := unhide HCL
        obtain ⟨c0, c1, c2, z0, z1, z2⟩ := store3 hcl
        obtain ⟨p0, p1, p2⟩ := leg_cells hcl (.int .i64 6) (.int .i64 s.size) (.string { data := #[] })
        have HB3 := hide ((unhide HBW).trans ((unhide HBL).mono (Nat.le_succ _)))
        clear hd hcl h0 hie
        go_wp2
        try simp only [Exit.inBlock, Exit.then]
        refine bodyPost_ret (by simp [results, Tryd.results19, go_sem, p0, p1, p2]; try rfl) rfl ?_
        exact ⟨by rw [unhide HA]; rfl, below_set3 (unhide HB3) _ _ _⟩
end Go.Proofs.YtohpifhpfijmcaaDoor
