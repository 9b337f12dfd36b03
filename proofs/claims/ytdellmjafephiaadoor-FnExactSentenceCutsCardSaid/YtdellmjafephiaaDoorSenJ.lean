/- Of each point whether a sentence starts with it, as the program tells it. -/
import Derived.Test.YtdellmjafephiaaDoorSenI
import Derived.Test.YtdellmjafephiaaDoorChrL
import Derived.Test.YtdellmjafephiaaDoorChsI
namespace Go.Proofs.YtdellmjafephiaaDoor
namespace Sen
open Go.RowKit
def slL (L : List Int) (i : Nat) : List Value := (List.range L.length).map (fun j => Value.bool (decide (j < i) && senB L j))
theorem slL_zero (L : List Int) : slL L 0 = List.replicate L.length (.bool false) := by
  unfold slL
  apply List.ext_getElem
  · simp
  · intro k h1 h2; simp
theorem slL_set (L : List Int) (i : Nat) : (slL L i).set i (.bool (senB L i)) = slL L (i + 1) := by
  apply List.ext_getElem
  · simp [slL]
  · intro k h1 h2
    simp only [slL, List.getElem_set, List.getElem_map, List.getElem_range]
    by_cases e : i = k
    · subst e; simp
    · rw [if_neg e]
      congr 2
      rw [Bool.eq_iff_iff]; simp; omega
theorem slL_all (L : List Int) : slL L L.length = (senL L).map Value.bool := by
  apply List.ext_getElem
  · simp [slL, senL]
  · intro k h1 h2
    have : k < L.length := by simpa [slL] using h1
    simp [slL, senL, this]
/-- What the walk through the points has: the starts so far, the close. -/
structure SSt (w wr : World) (L : List Int) (i j : Nat) : Prop where
  bel : Below w.heap.size w wr
  st : wr.heap[w.heap.size]? = some (.cells (slL L i).toArray 4 (0, 0))
  sv : wr.heap[w.heap.size + 1]? = some (.cells #[.int .i64 ((sst L j).1 : Int), .bool (sst L j).2] 105 (0, 0))
theorem SSt.size {w wr : World} {L : List Int} {i j : Nat} (h : SSt w wr L i j) : w.heap.size + 1 < wr.heap.size := (Array.getElem?_eq_some_iff.1 h.sv).1
theorem SSt.below {w wr w2 : World} {L : List Int} {i j : Nat} (h : SSt w wr L i j) (hb : Below wr.heap.size wr w2) : SSt w w2 L i j := by
  have hs := h.size
  exact ⟨h.bel.trans (hb.mono (by omega)), by rw [hb.block _ (by omega)]; exact h.st, by rw [hb.block _ (by omega)]; exact h.sv⟩
theorem SSt.cells {w wr : World} {L : List Int} {i j : Nat} (h : SSt w wr L i j) : wr.cell? ⟨w.heap.size + 1, 0, none⟩ = some (.int .i64 ((sst L j).1 : Int)) ∧ wr.cell? ⟨w.heap.size + 1, 1, none⟩ = some (.bool (sst L j).2) := by
  constructor <;> simp [World.cell?, h.sv]
theorem SSt.put2 {w wr : World} {L : List Int} {i j : Nat} (h : SSt w wr L i j) (k : Nat) (n2 : Nat) (d2 : Bool) (e : sst L k = (n2, d2)) :
    SSt w ((wr.setCell ⟨w.heap.size + 1, 0, none⟩ (.int .i64 (n2 : Int))).setCell ⟨w.heap.size + 1, 1, none⟩ (.bool d2)) L i k := by
  have h1 := heap_setCell_same wr (w.heap.size + 1) 0 _ 105 (.int .i64 (n2 : Int)) h.sv
  have h2 := heap_setCell_same (wr.setCell ⟨w.heap.size + 1, 0, none⟩ (.int .i64 (n2 : Int))) (w.heap.size + 1) 1 _ 105 (.bool d2) h1
  refine ⟨(h.bel.setCell (p := ⟨w.heap.size + 1, 0, none⟩) (by simp) _).setCell (p := ⟨w.heap.size + 1, 1, none⟩) (by simp) _, ?_, ?_⟩
  · rw [heap_setCell_other _ _ _ _ (by simp), heap_setCell_other _ _ _ _ (by simp)]; exact h.st
  · rw [h2, e]; simp
theorem SSt.froz {w wr : World} {L : List Int} {i j : Nat} (h : SSt w wr L i j) : wr.frozen? ⟨w.heap.size + 1, 0, none⟩ = false ∧ wr.frozen? ⟨w.heap.size + 1, 1, none⟩ = false := by
  constructor <;> simp [World.frozen?, h.sv]
theorem SSt.start {w wr : World} {L : List Int} {i j : Nat} (h : SSt w wr L i j) (b : Bool) (hb : b = senB L i) : SSt w (wr.setCell ⟨w.heap.size, i, none⟩ (.bool b)) L (i + 1) j := by
  subst hb
  have hst := heap_setCell_same wr w.heap.size i _ 4 (.bool (senB L i)) h.st
  refine ⟨h.bel.setCell (p := ⟨w.heap.size, i, none⟩) (by simp) _, ?_, ?_⟩
  · rw [hst]
    congr 2
    rw [← slL_set]
    simp
  · rw [heap_setCell_other _ _ _ _ (by simp)]; exact h.sv
theorem SSt.room {w wr : World} {L : List Int} {i j : Nat} (h : SSt w wr L i j) (k : Nat) (hk : k < L.length) : wr.cell? ⟨w.heap.size, k, none⟩ = some (.bool (decide (k < i) && senB L k)) ∧ wr.frozen? ⟨w.heap.size, k, none⟩ = false := by
  constructor
  · simp [World.cell?, h.st, slL, hk]
  · simp [World.frozen?, h.st]
theorem SSt.first (w : World) (L : List Int) : SSt w ((w.alloc (.cells (List.replicate L.length (Value.bool false)).toArray 4)).alloc (.cells #[.int .i64 0, .bool false] 105)) L 0 0 := by
  refine ⟨be2 _ _ _, ?_, ?_⟩
  · rw [slL_zero, Below.heap_alloc _ _ _ (by simp)]
    exact heap_alloc_last _ _
  · have e : (w.alloc (.cells (List.replicate L.length (Value.bool false)).toArray 4)).heap.size = w.heap.size + 1 := by simp
    rw [← e]
    exact heap_alloc_last _ _
theorem sts_char (L : List Int) (m : Nat) (h : m + 1 < L.length) : (Chr.sts L).getD (m + 1) false = Chr.charS L (m + 1) := by
  rw [Chr.sts_eq, Chr.bsS_at L (m + 1) h]
  simp
theorem senB_succ (L : List Int) (m : Nat) : senB L (m + 1) = (Chr.charS L (m + 1) && (lov (at0 L m) (at0 L (m + 1)) || cah (sst L (m + 1)) (at0 L (m + 1)))) := by
  unfold senB
  simp
set_option maxRecDepth 100000 in
set_option maxHeartbeats 4000000 in
theorem starts_i (v : Value) (L : List Int) (w : World) (hv : IntsAt w v L) (hL : L.length ≤ 65536) (ht : TabAt w) : Calls Tryd.prog 66 #[v] w fun e w' =>
    ∃ g c, e = .returned (.slice (some ⟨g, 0, none⟩) L.length c) ∧ w'.heap[g]? = some (.cells ((senL L).map Value.bool).toArray 4 (0, 0)) ∧ Below w.heap.size w w' := by
  have HV := hide hv
  have HT := hide ht
  have CH := hide (fun W h h2 => Chr.charStarts_any v L W h hL h2)
  obtain ⟨a, cap, rfl, hrt⟩ := hv
  clear ht hrt
  go_enter Tryd.func66, Tryd.ntmps66
  go_upto_region 2 with (go_at_call 49; refine ((unhide CH) _ (unhide HV) (unhide HT)).mono ?_; rintro e w2 ⟨c2, rfl, hh2, hb2⟩; have B2 := hide hb2; have H2 := hide (Chr.bools_of hh2); have g2 := Nat.lt_of_lt_of_le (Nat.lt_succ_self w.heap.size) (Nat.le_of_lt (Chr.bools_of hh2).1); clear hb2 hh2)
  have HV2 := hide ((unhide HV).below (unhide B2))
  have HT2 := hide ((unhide HT).below (unhide B2))
  have gz := (unhide H2).1
  have hmk := Chr.makeB L.length hL w2
  have S0 := hide (SSt.first w2 L)
  generalize w.heap.size + 1 = gc at *
  go_wp2
  go_loopw [5, 17] (fun y x wr => ∃ i : Nat, x = .int .i64 (i : Int) ∧ y = .int .i64 (if i = 0 then -1 else at0 L (i - 1)) ∧ i ≤ L.length ∧ Hid (SSt w2 wr L i i)) (fun _ x _ => L.length - (intOf x).toNat)
  case atStart => exact ⟨0, rfl, rfl, by omega, S0⟩
  case round =>
    obtain ⟨i, rfl, rfl, hiL, HS⟩ := hrel
    clear S0 hmk
    by_cases hlt : i < L.length
    · obtain ⟨b, off, cp, he, hbw, hcs⟩ := ints_at (unhide HV2) (by omega)
      cases he
      have hsz := (unhide HS).size
      have hpc := ((unhide HS).bel.cell (p := ⟨b, off + i, none⟩) hbw).trans (hcs i hlt)
      have hch := ((unhide HS).bel.cell (p := ⟨gc, i, none⟩) gz).trans ((unhide H2).2 i (by rw [Chr.sts_len]; exact hlt))
      obtain ⟨c0, c1⟩ := (unhide HS).cells
      have HT3 := hide ((unhide HT2).below (unhide HS).bel)
      have hgz : gc < wr.heap.size := Nat.lt_of_lt_of_le gz (unhide HS).bel.size
      have HST : Hid (sst L (i + 1) = stp (sst L i) (nth L i)) := hide rfl
      have hs3 := sst_le L i
      clear hcs
      obtain ⟨⟨n, d⟩, hx⟩ : ∃ x, sst L i = x := ⟨_, rfl⟩
      rw [hx] at c0 c1 HST hs3
      simp only at c0 c1 hs3
      have HX := hide hx
      clear hx
      cases i with
      | zero =>
        have HB : Hid (true = senB L 0) := hide rfl
        obtain ⟨p, hp⟩ : ∃ p, nth L 0 = p := ⟨_, rfl⟩
        rw [hp] at hpc HST
        have HP : Hid (p = if 0 + 1 = 0 then -1 else at0 L (0 + 1 - 1)) := hide hp.symm
        clear hp
        simp only [Nat.add_zero] at hpc hch
        have CM := hide (fun W h => moved_i n d p W h hs3)
        rw [← unhide HST] at CM
        obtain ⟨⟨n2, d2⟩, hx2⟩ : ∃ x, sst L (0 + 1) = x := ⟨_, rfl⟩
        rw [hx2] at CM
        unfold clV at CM
        simp only at CM
        have HX2 := hide hx2
        clear hx2
        have S1 : Hid (SSt w2 (wr.setCell ⟨w2.heap.size, 0, none⟩ (.bool true)) L (0 + 1) 0) := hide ((unhide HS).start true (unhide HB))
        obtain ⟨e0, e1⟩ := (unhide S1).cells
        rw [unhide HX] at e0 e1
        simp only at e0 e1
        obtain ⟨d0, d1⟩ := (unhide HS).room 0 hlt
        go_wp2_with (first | (go_at_call 103; refine ((unhide CM) _ ((unhide HT2).below (unhide S1).bel)).mono ?_; rintro e w4 ⟨rfl, hb4⟩; have S4 := hide ((unhide S1).below hb4); clear hb4; have S5 := hide ((unhide S4).put2 _ n2 d2 (unhide HX2)); obtain ⟨f0, f1⟩ := (unhide S4).cells; obtain ⟨y0, y1⟩ := (unhide S4).froz; have z4 := (unhide S4).size))
        go_roundw
        case rel => exact ⟨0 + 1, by go_num, by rw [← unhide HP], by omega, S5⟩
        case measure => simp [intOf]; omega
      | succ m =>
        rw [sts_char L m hlt] at hch
        have HB := hide (senB_succ L m)
        rw [unhide HX] at HB
        have hne : ((m + 1 : Nat) : Int) = (m : Int) + 1 := by omega
        have h0' : (((m + 1 : Nat) : Int) == 0) = false := by rw [beq_eq_false_iff_ne]; omega
        have h0'' : ((m : Int) + 1 == 0) = false := by rw [beq_eq_false_iff_ne]; omega
        obtain ⟨l, hl⟩ : ∃ l : Int, (if m + 1 = 0 then -1 else at0 L (m + 1 - 1)) = l := ⟨_, rfl⟩
        rw [show at0 L m = l from by rw [← hl]; rfl] at HB
        rw [hl]
        clear hl hne
        obtain ⟨p, hp⟩ : ∃ p, nth L (m + 1) = p := ⟨_, rfl⟩
        rw [show at0 L (m + 1) = p from hp] at HB
        rw [hp] at hpc HST
        have HP : Hid (p = if m + 1 + 1 = 0 then -1 else at0 L (m + 1 + 1 - 1)) := hide hp.symm
        clear hp
        have CM := hide (fun W h => moved_i n d p W h hs3)
        rw [← unhide HST] at CM
        obtain ⟨⟨n2, d2⟩, hx2⟩ : ∃ x, sst L (m + 1 + 1) = x := ⟨_, rfl⟩
        rw [hx2] at CM
        unfold clV at CM
        simp only at CM
        have HX2 := hide hx2
        clear hx2
        have CL := hide (fun W => over_i l p W)
        have CU := hide (fun W h => cuts_i n d p W h)
        generalize lov l p = lo at *
        generalize cah (n, d) p = ca at *
        cases hch2 : Chr.charS L (m + 1)
        · rw [hch2] at hch HB
          have HB2 : Hid (false = senB L (m + 1)) := hide (by rw [unhide HB]; rfl)
          have S1 : Hid (SSt w2 (wr.setCell ⟨w2.heap.size, m + 1, none⟩ (.bool false)) L (m + 1 + 1) (m + 1)) := hide ((unhide HS).start false (unhide HB2))
          obtain ⟨e0, e1⟩ := (unhide S1).cells
          rw [unhide HX] at e0 e1
          simp only at e0 e1
          obtain ⟨d0, d1⟩ := (unhide HS).room (m + 1) hlt
          go_wp2_with (first | (go_at_call 103; refine ((unhide CM) _ ((unhide HT2).below (unhide S1).bel)).mono ?_; rintro e w4 ⟨rfl, hb4⟩; have S4 := hide ((unhide S1).below hb4); clear hb4; have S5 := hide ((unhide S4).put2 _ n2 d2 (unhide HX2)); obtain ⟨f0, f1⟩ := (unhide S4).cells; obtain ⟨y0, y1⟩ := (unhide S4).froz; have z4 := (unhide S4).size))
          go_roundw
          case rel => exact ⟨m + 1 + 1, by go_num, by rw [← unhide HP], by omega, S5⟩
          case measure => simp [intOf]; omega
        · rw [hch2] at hch HB
          cases hlo : lo
          · rw [hlo] at CL HB
            have HB2 : Hid (ca = senB L (m + 1)) := hide (by rw [unhide HB]; rfl)
            go_wp2_with (first | (go_at_call 101; refine ((unhide CL) _).mono ?_; rintro e w9 ⟨rfl, hw9⟩; obtain rfl := hw9.symm; clear hw9) | (go_at_call 102; refine ((unhide CU) _ (unhide HT3)).mono ?_; rintro e w3 ⟨rfl, hb3⟩; have S3 := hide ((unhide HS).below hb3); clear hb3; have S1 : Hid (SSt w2 (w3.setCell ⟨w2.heap.size, m + 1, none⟩ (.bool ca)) L (m + 1 + 1) (m + 1)) := hide ((unhide S3).start ca (unhide HB2)); obtain ⟨e0, e1⟩ := (unhide S1).cells; rw [unhide HX] at e0 e1; simp only at e0 e1; obtain ⟨d0, d1⟩ := (unhide S3).room (m + 1) hlt; have z3 := (unhide S3).size) | (go_at_call 103; refine ((unhide CM) _ ((unhide HT2).below (unhide S1).bel)).mono ?_; rintro e w4 ⟨rfl, hb4⟩; have S4 := hide ((unhide S1).below hb4); clear hb4; have S5 := hide ((unhide S4).put2 _ n2 d2 (unhide HX2)); obtain ⟨f0, f1⟩ := (unhide S4).cells; obtain ⟨y0, y1⟩ := (unhide S4).froz; have z4 := (unhide S4).size))
            go_roundw
            case rel => exact ⟨m + 1 + 1, by go_num, by rw [← unhide HP], by omega, S5⟩
            case measure => simp [intOf]; omega
          · rw [hlo] at CL HB
            have HB2 : Hid (true = senB L (m + 1)) := hide (by rw [unhide HB]; rfl)
            have S1 : Hid (SSt w2 (wr.setCell ⟨w2.heap.size, m + 1, none⟩ (.bool true)) L (m + 1 + 1) (m + 1)) := hide ((unhide HS).start true (unhide HB2))
            obtain ⟨e0, e1⟩ := (unhide S1).cells
            rw [unhide HX] at e0 e1
            simp only at e0 e1
            obtain ⟨d0, d1⟩ := (unhide HS).room (m + 1) hlt
            go_wp2_with (first | (go_at_call 101; refine ((unhide CL) _).mono ?_; rintro e w9 ⟨rfl, hw9⟩; obtain rfl := hw9.symm; clear hw9) | (go_at_call 103; refine ((unhide CM) _ ((unhide HT2).below (unhide S1).bel)).mono ?_; rintro e w4 ⟨rfl, hb4⟩; have S4 := hide ((unhide S1).below hb4); clear hb4; have S5 := hide ((unhide S4).put2 _ n2 d2 (unhide HX2)); obtain ⟨f0, f1⟩ := (unhide S4).cells; obtain ⟨y0, y1⟩ := (unhide S4).froz; have z4 := (unhide S4).size))
            go_roundw
            case rel => exact ⟨m + 1 + 1, by go_num, by rw [← unhide HP], by omega, S5⟩
            case measure => simp [intOf]; omega
    · obtain rfl : i = L.length := by omega
      generalize (if L.length = 0 then (-1 : Int) else at0 L (L.length - 1)) = lf
      go_wp2
      go_ret
      have X1 : wr.heap[w2.heap.size]? = some (.cells ((senL L).map Value.bool).toArray 4 (0, 0)) := by rw [← slL_all]; exact (unhide HS).st
      have X2 : Below w.heap.size w wr := (unhide B2).trans ((unhide HS).bel.mono (unhide B2).size)
      first | exact ⟨_, ⟨_, rfl⟩, X1, X2⟩ | exact ⟨_, _, rfl, X1, X2⟩
/-- What SentenceCuts tells of a text. -/
def senOut (s : ByteArray) : List Int := if 65536 < s.size then [] else Chr.cutsL s (senL (pts s))
theorem senOut_le (s : ByteArray) : (senOut s).length ≤ 65537 := by
  unfold senOut Chr.cutsL
  split
  · simp
  · split
    · simp
    · have h1 := Chr.ctk_len s (senL (pts s)) (senL (pts s)).length
      have h2 := pts_le s
      rw [senL_len] at h1 ⊢
      simp
      omega
set_option maxRecDepth 100000 in
set_option maxHeartbeats 1000000 in
theorem implSen (s : ByteArray) (w : World) (ht : TabAt w) (hs : s.size ≤ 1048576) : Calls Tryd.prog 36 #[.string s] w fun e w' =>
    ∃ v, e = .returned v ∧ w'.ownsRow w.heap.size 2 1 v (senOut s).length ((senOut s).map (Value.int .i64)) ∧ Below w.heap.size w w' := by
  have HT := hide ht
  clear ht
  have CP := hide (fun W => implPointsOf s W hs)
  have CS := hide (fun v W h h2 => starts_i v (ptsOut s) W h (ptsOut_le s) h2)
  by_cases hb : 65536 < s.size
  · have e : ptsOut s = [] := by unfold ptsOut; rw [if_pos hb]
    have e2 : senOut s = [] := by unfold senOut; rw [if_pos hb]
    rw [e] at CP CS
    rw [e2]
    clear e e2
    go_enter Tryd.func36, Tryd.ntmps36
    go_wp2_with (first
      | (go_at_call 50; refine ((unhide CP) _).mono ?_; rintro e w1 ⟨v1, rfl, ho1, hb1⟩; have B1 := hide hb1; have O1 := hide ho1; clear ho1 hb1)
      | (go_at_call 66; refine ((unhide CS) _ _ (IntsAt.owned (unhide O1)) ((unhide HT).below (unhide B1))).mono ?_; rintro e w2 ⟨g, c, rfl, hh2, hb2⟩; have B2 := hide (jn (unhide B1) hb2); clear hb2 hh2)
      | (go_at_call 48; refine (Chr.cutsNil s _ _ _).mono ?_; rintro e w3 ⟨v3, rfl, ho3, hb3⟩; have O3 := hide (Chr.own_mono ho3 (unhide B2).size); have B3 := hide (jn (unhide B2) hb3); clear ho3 hb3))
    go_ret
    exact ⟨_, rfl, unhide O3, unhide B3⟩
  · have e : ptsOut s = pts s := by unfold ptsOut; rw [if_neg hb]
    have e2 : senOut s = Chr.cutsL s (senL (pts s)) := by unfold senOut; rw [if_neg hb]
    rw [e] at CP CS
    rw [e2]
    have CC := hide (fun g c W h => Chr.cutsAhead_any s g c (senL (pts s)) W (by omega) (senL_len _) h)
    rw [senL_len] at CC
    clear e e2
    go_enter Tryd.func36, Tryd.ntmps36
    go_wp2_with (first
      | (go_at_call 50; refine ((unhide CP) _).mono ?_; rintro e w1 ⟨v1, rfl, ho1, hb1⟩; have B1 := hide hb1; have O1 := hide ho1; clear ho1 hb1)
      | (go_at_call 66; refine ((unhide CS) _ _ (IntsAt.owned (unhide O1)) ((unhide HT).below (unhide B1))).mono ?_; rintro e w2 ⟨g, c, rfl, hh2, hb2⟩; have B2 := hide (jn (unhide B1) hb2); have H2 := hide (Chr.bools_of hh2); clear hb2 hh2)
      | (go_at_call 48; refine ((unhide CC) _ _ _ (unhide H2)).mono ?_; rintro e w3 ⟨v3, rfl, ho3, hb3⟩; have O3 := hide (Chr.own_mono ho3 (unhide B2).size); have B3 := hide (jn (unhide B2) hb3); clear ho3 hb3))
    go_ret
    exact ⟨_, rfl, unhide O3, unhide B3⟩
end Sen
end Go.Proofs.YtdellmjafephiaaDoor
