/- The glyphs in the order of the text, as the program tells them. -/
import Derived.Test.YtfldomifooihlaaGreatDoorGlyC
import Derived.Test.YtfldomifooihlaaGreatDoorShpI
import Derived.Test.YtfldomifooihlaaGreatDoorChrC
namespace Go.Proofs.YtfldomifooihlaaGreatDoor.Gly
open Go.RowKit Chr
set_option linter.unusedVariables false
theorem at_cell {w w' : World} {a : Option Addr} {c : Nat} {l : List Int} (h : IntsAt w (.slice a l.length c) l) (hb : Below w.heap.size w w') (k : Nat) (hk : k < l.length) : ∃ b off, a = some ⟨b, off, none⟩ ∧ w'.cell? ⟨b, off + k, none⟩ = some (.int .i64 (nth l k)) := by
  obtain ⟨a', c', e, h⟩ := h
  injection e with e1 e2 e3
  subst e1
  rcases h with rfl | ⟨b, off, rfl, hbs, hc⟩
  · simp at hk
  · exact ⟨b, off, rfl, (hb.cell (p := ⟨b, off + k, none⟩) hbs).trans (hc k hk)⟩
theorem at_cell' {w w' : World} {a : Option Addr} {n c : Nat} {l : List Int} (h : IntsAt w (.slice a n c) l) (hb : Below w.heap.size w w') (k : Nat) (hk : k < n) : ∃ b off, a = some ⟨b, off, none⟩ ∧ w'.cell? ⟨b, off + k, none⟩ = some (.int .i64 (nth l k)) := by
  obtain ⟨a', c', e, h⟩ := h
  injection e with e1 e2 e3
  subst e1 e2
  rcases h with rfl | ⟨b, off, rfl, hbs, hc⟩
  · simp at hk
  · exact ⟨b, off, rfl, (hb.cell (p := ⟨b, off + k, none⟩) hbs).trans (hc k hk)⟩
/-- The cluster of the last of the first k points. -/
def cls (s : ByteArray) (B : List Bool) : Nat → Int
  | 0 => 0
  | k + 1 => if B.getD k false = true then ((steps s k).2 : Int) else cls s B k
/-- The first k glyphs in the order of the text. -/
def gin (s : ByteArray) (L F : List Int) (B : List Bool) (k : Nat) : List (Int × Int × Int) := (List.range k).map fun i => (nth L i, nth F i, cls s B (i + 1))
theorem gin_len (s : ByteArray) (L F : List Int) (B : List Bool) (k : Nat) : (gin s L F B k).length = k := by simp [gin]
theorem gin_succ (s : ByteArray) (L F : List Int) (B : List Bool) (k : Nat) : gin s L F B (k + 1) = gin s L F B k ++ [(nth L k, nth F k, cls s B (k + 1))] := by simp [gin, List.range_succ]
/-- The glyphs of a text in its order. -/
def ginS (s : ByteArray) : List (Int × Int × Int) := gin s (ptsOut s) (Shp.frs (ptsOut s)) (sts (ptsOut s)) (ptsOut s).length
theorem ginS_len (s : ByteArray) : (ginS s).length = (ptsOut s).length := gin_len _ _ _ _ _
theorem ms_lt {S p d a b : Nat} (ha : a = p) (hb : b = p + d) (h1 : 0 < d) (h2 : p + d ≤ S) : S - b < S - a := by omega
theorem gr_iterAt {w : World} {base K pos : Nat} {v : Value} {G : List (Int × Int × Int)} {s : ByteArray} (h : GR w base v G) (hk : w.heap[K]? = some (.stringIter s pos)) (pos' : Nat) : GR (w.iterAt K s pos') base v G := by
  refine ⟨h.1, ?_⟩
  rcases h.2 with h' | ⟨g, cap, cur, hv, hg, hh, r⟩
  · exact .inl h'
  · refine .inr ⟨g, cap, cur, hv, hg, ?_, r⟩
    have hne : g ≠ K := by intro e; rw [e, hk] at hh; cases hh
    exact (Lib.iterAt_other w K g s pos' hne).trans hh
theorem gr_iter_grown {w w2 : World} {base K pos : Nat} {v : Value} {G : List (Int × Int × Int)} {s : ByteArray} (ho : GR w base v G) (hk : w.heap[K]? = some (.stringIter s pos)) (hg : w.grownBy w2 v.ownBlock) : w2.heap[K]? = some (.stringIter s pos) := by
  have hlt : K < w.heap.size := (Array.getElem?_eq_some_iff.1 hk).1
  have hne : some K ≠ v.ownBlock := by
    intro e
    rcases ho.2 with ⟨rfl, _⟩ | ⟨g, cap, cur, rfl, hg, hh, r⟩
    · cases e
    · simp only [Value.ownBlock, Option.some.injEq] at e
      rw [← e, hk] at hh; cases hh
  exact (hg.block K hlt hne).trans hk
set_option maxHeartbeats 600000 in
set_option maxRecDepth 100000 in
theorem inOrder (s : ByteArray) (hs : s.size ≤ 1048576) : InOrder s (ginS s) := by
  intro w ht
  have HT := hide ht
  have CP := hide (implPointsOf s w hs)
  have hlo := ptsOut_le s
  by_cases h0 : (ptsOut s).length = 0
  · have e0 : ginS s = [] := List.eq_nil_of_length_eq_zero (by rw [ginS_len]; exact h0)
    have E0 := hide e0
    have H0 := hide h0
    clear ht e0 h0
    generalize ptsOut s = L at *
    go_enter Tryz.func56, Tryz.ntmps56
    go_wp2_with fail
    refine (unhide CP).mono ?_
    rintro e w1 ⟨v, rfl, ho, hb⟩
    have HB := hide hb
    obtain ⟨a, cap, rfl, _⟩ := IntsAt.owned ho
    have hz : ((L.length : Int) == 0) = true := by have := unhide H0; simp [this]
    clear ho hb CP
    go_wp2
    go_ret
    exact ⟨_, rfl, by rw [unhide E0]; exact GR.nil _ _, unhide HB⟩
  have hs6 : s.size ≤ 65536 := by
    by_cases e : 65536 < s.size
    · exfalso
      apply h0
      unfold ptsOut
      rw [if_pos e]
      rfl
    · omega
  have ep : ptsOut s = pts s := by unfold ptsOut; rw [if_neg (by omega)]
  have HG0 : Hid (∀ L, L = ptsOut s → ginS s = gin s L (Shp.frs L) (sts L) L.length) := hide (fun L e => by subst e; rfl)
  have HLT : Hid (∀ n L' pos, steps s n = (L', pos) → pos < s.size → L'.length < (ptsOut s).length) := hide (fun n L' pos e hp => by rw [ep]; exact lt_pts e hp)
  have HEND : Hid (∀ n L' pos, steps s n = (L', pos) → ¬ pos < s.size → L' = ptsOut s) := hide (fun n L' pos e hp => by
    rw [ep]
    have := steps_pts s n (by rw [e]; show s.size ≤ pos; omega)
    rw [e] at this
    exact this)
  obtain ⟨L, hL⟩ : ∃ L, L = ptsOut s := ⟨_, rfl⟩
  have EG := hide ((unhide HG0) L hL)
  rw [← hL] at CP hlo h0 HLT HEND
  have hsl : (sts L).length = L.length := by simp [sts]
  clear ht ep HG0 hL
  have hz : ((L.length : Int) == 0) = false := by
    have : (L.length : Int) ≠ 0 := by omega
    simpa using this
  obtain ⟨i0, hi, hz0, hz1, hz2⟩ := info_parts infoG
  go_enter Tryz.func56, Tryz.ntmps56
  go_wp2_with fail
  refine (unhide CP).mono ?_
  rintro e w1 ⟨v, rfl, ho, hb⟩
  have B1 := hide hb
  have I1 := hide (IntsAt.owned ho)
  obtain ⟨la, lc, rfl, _⟩ := IntsAt.owned ho
  clear ho hb CP
  go_wp2_with fail
  refine (Shp.forms_any _ L w1 (unhide I1) ((unhide HT).below (unhide B1)) (by omega)).mono ?_
  rintro e w2 ⟨fv, rfl, ho, hb⟩
  have hfl := Shp.frs_len L
  have B2 := hide ((unhide B1).trans (hb.mono (unhide B1).size))
  have I2 := hide ((unhide I1).below hb)
  have F2 := hide (IntsAt.owned ho)
  clear ho hb B1 I1
  go_wp2_with fail
  refine (charStarts_any _ L w2 (unhide I2) (by omega) ((unhide HT).below (unhide B2))).mono ?_
  rintro e w3 ⟨bc, rfl, hh, hb⟩
  have S3 := hide (bools_of hh)
  have B3 := hide ((unhide B2).trans (hb.mono (unhide B2).size))
  have I3 := hide ((unhide I2).below hb)
  have F3 := hide ((unhide F2).below hb)
  have hsb := (bools_of hh).1
  obtain ⟨fa, fc, rfl, _⟩ := unhide F3
  rw [hfl] at F3 ⊢
  clear hh hb B2 I2 F2 HT
  generalize w2.heap.size + 1 = sb at *
  generalize Shp.frs L = F at *
  generalize sts L = SB at *
  go_wp2_with (at_make; refine wpList_make_own _ rfl _ _ 28 rfl w3.heap.size 52 i0 (.agg #[.int .i64 0, .int .i64 0, .int .i64 0, .int .i64 0, .int .i64 0]) 5 Tryz.underlying28 hi hz0 hz1 .i64 .i64 _ L.length rfl rfl rfl ?b2 ?b3 ?b4 ?_)
  case b2 => rw [hz2]; omega
  case b3 => unfold maxLen; omega
  case b4 => omega
  intro w4 hown hgrow
  have hw4 := (made_below hgrow).size
  have hgs : w3.heap.size < w4.heap.size := (World.ownsRow.lt hown _ rfl).2
  have HO0 : Hid (GR (w4.iter s 0) w3.heap.size (.slice (some ⟨w3.heap.size, 0, none⟩) 0 L.length) (gin s L F SB 0)) := hide (GR.below (G := []) hown ((Below.refl _ _).alloc (Nat.le_refl _) _))
  have HB0 : Hid (Below w3.heap.size w3 (w4.iter s 0)) := hide ((made_below hgrow).alloc hw4 _)
  have HI0 : Hid ((w4.iter s 0).heap[w4.heap.size]? = some (.stringIter s 0)) := hide (World.iter_heap w4 s 0)
  clear hown hgrow
  go_wp2
  go_loopw [6, 7] (fun gv cv wr => ∃ (n : Nat) (L' : List Int) (pos : Nat), Hid (steps s n = (L', pos)) ∧ pos ≤ s.size ∧ L'.length = n ∧ n ≤ pos ∧ cv = .int .i64 (cls s SB n) ∧ Hid (wr.heap[w4.heap.size]? = some (.stringIter s pos)) ∧ Hid (GR wr w3.heap.size gv (gin s L F SB n)) ∧ Hid (Below w3.heap.size w3 wr)) (fun _ _ wr => s.size - wr.iterPos w4.heap.size)
  case atStart => exact ⟨0, [], 0, hide rfl, by omega, rfl, by omega, rfl, HI0, HO0, HB0⟩
  case round =>
    obtain ⟨n, L', pos, HS, hpos, hLn, hnp, rfl, HI, HO, HB⟩ := hrel
    clear HO0 HB0 HI0
    have HM := hide (iterPos_of (unhide HI))
    obtain ⟨ga, gc, rfl, _⟩ := (unhide HO).form
    have gl := gin_len s L F SB n
    rw [gl] at HO ⊢
    by_cases hlt : pos < s.size
    · have hbd := dN_bd s pos hlt
      have d1 := hbd.1
      have d2 := hbd.2.1
      have hBs := (unhide HB).size
      have HS' := hide (pts_step (unhide HS) hlt)
      have hnL : n < L.length := by rw [← hLn]; exact (unhide HLT) n L' pos (unhide HS) hlt
      have hnx : ∀ ty, (Instr.next (.pointer (some ⟨w4.heap.size, 0, none⟩)) true ty).run Tryz.prog wr = .ok (.tuple #[.bool true, .int .i64 pos, .int .i32 (dP s pos)]) (wr.iterAt w4.heap.size s (pos + dN s pos)) := fun ty => Lib.run_next_any_at wr _ s pos ty (unhide HI) hlt
      obtain ⟨w2, hw2⟩ : ∃ w2, wr.iterAt w4.heap.size s (pos + dN s pos) = w2 := ⟨_, rfl⟩
      rw [hw2] at hnx
      have HI2 : Hid (w2.heap[w4.heap.size]? = some (.stringIter s (pos + dN s pos))) := hide (by rw [← hw2]; exact Lib.iterAt_heap wr _ s pos _ (unhide HI))
      have HO2 : Hid (GR w2 w3.heap.size (.slice ga n gc) (gin s L F SB n)) := hide (by rw [← hw2]; exact gr_iterAt (unhide HO) (unhide HI) _)
      have HB2 : Hid (Below w3.heap.size wr w2) := hide (by rw [← hw2]; exact Lib.below_iterAt (Below.refl _ _) (by omega) _ _)
      have hs2 : wr.heap.size ≤ w2.heap.size := (unhide HB2).size
      have HB3 := hide ((unhide HB).trans (unhide HB2))
      have hcell := ((unhide HB3).cell (p := ⟨sb, n, none⟩) hsb).trans ((unhide S3).2 n (by omega))
      have cL := at_cell (unhide I3) (unhide HB3) n hnL
      have cF := at_cell' (unhide F3) (unhide HB3) n hnL
      obtain ⟨lb, lo, rfl, cL⟩ := cL
      obtain ⟨fb, fo, rfl, cF⟩ := cF
      have hnl' : (n : Int) < (L.length : Int) := by omega
      have hpn : (steps s n).2 = pos := by rw [unhide HS]
      have hwp : wrap64 (pos : Int) = (pos : Int) := by unfold wrap64; omega
      have HC := hide (gin_succ s L F SB n)
      clear hbd hw2 gl
      cases hbn : SB.getD n false
      · have HCL : Hid (cls s SB (n + 1) = cls s SB n) := hide (by rw [cls, hbn]; rfl)
        rw [hbn] at hcell
        rw [unhide HCL] at HC
        clear hbn
        generalize nth L n = p at *
        generalize nth F n = f at *
        generalize cls s SB n = cc at *
        have HA : Hid ((((w2.drewN 1).alloc (.cells #[.int .i64 p, .int .i64 f, .int .i64 cc, .int .i64 0, .int .i64 0] 52))).ownsRow w3.heap.size 52 5 (.slice ga n gc) n ((flt (gin s L F SB n)).map (Value.int .i64))) := hide (by have := (unhide HO2).below (drewA_bel w2 (.cells #[.int .i64 p, .int .i64 f, .int .i64 cc, .int .i64 0, .int .i64 0] 52)); unfold GR at this; rw [gin_len] at this; exact this)
        have IA := hide (((drewA_bel w2 (.cells #[.int .i64 p, .int .i64 f, .int .i64 cc, .int .i64 0, .int .i64 0] 52)).block w4.heap.size (Array.getElem?_eq_some_iff.1 (unhide HI2)).1).trans (unhide HI2))
        go_upto_region 13 with fail
        clear hnx
        go_region_law (refine step_appG rfl (.tmp 34) (.tmp 45) 28 rfl w3.heap.size 52 i0 (.agg #[.int .i64 0, .int .i64 0, .int .i64 0, .int .i64 0, .int .i64 0]) 5 40 Tryz.underlying28 hi hz0 hz1 hz2 rfl (by decide) (.slice ga n gc) n ((flt (gin s L F SB n)).map (Value.int .i64)) (by simp [Act.eval]) (unhide HA) ⟨w2.heap.size, 0, none⟩ 1 1 ((cel (p, f, cc)).map (Value.int .i64)) (by simp [Act.eval]) rfl (cells_new (w2.drewN 1) _ _) (one_cells _) (by unfold maxLen; omega) (by omega) (by simp; omega) ?_; intro v' w6 hown' hgrow hblk; have G6 := hide (GR.app (G := gin s L F SB n) (H := [(p, f, cc)]) (by rw [flt_one]; exact hown') (by rw [gin_len]; rfl)); obtain ⟨va, vc, ev, _⟩ := (unhide G6).form; generalize (gin s L F SB n ++ [(p, f, cc)]).length = n' at ev; subst ev; clear hown' hblk)
        all_goals
          rw [← unhide HC] at G6
          have HA' : GR ((w2.drewN 1).alloc (.cells #[.int .i64 p, .int .i64 f, .int .i64 cc, .int .i64 0, .int .i64 0] 52)) w3.heap.size (.slice ga n gc) (gin s L F SB n) := by unfold GR; rw [gin_len]; exact unhide HA
          have HI6 := hide (gr_iter_grown HA' (unhide IA) hgrow)
          have HB6 : Hid (Below w3.heap.size w3 w6) := hide (((unhide HB3).trans ((drewA_bel w2 (.cells #[.int .i64 p, .int .i64 f, .int .i64 cc, .int .i64 0, .int .i64 0] 52)).mono (by omega))).grown hgrow (by simp; omega) (fun k hk => (World.ownsRow.lt HA' k hk).1))
          have HM6 := hide (iterPos_of (unhide HI6))
          clear hgrow HA'
          go_simp
          go_roundw
          case rel =>
            refine ⟨_, _, _, _, _, _, _, _, _, _, _, _, _, _, _, _, _, _, _, _, _, _, _, _, _, _, _, ?_, rfl⟩
            exact ⟨n + 1, L' ++ [(dP s pos : Int)], pos + dN s pos, HS', d2, (by rw [List.length_append, hLn]; rfl), Nat.add_le_add hnp d1, congrArg (Value.int .i64) (unhide HCL).symm, HI6, G6, HB6⟩
          case measure => exact ms_lt (unhide HM) (unhide HM6) d1 d2
      · have HCL : Hid (cls s SB (n + 1) = (pos : Int)) := hide (by rw [cls, hbn, hpn]; rfl)
        rw [hbn] at hcell
        rw [unhide HCL] at HC
        clear hbn
        generalize nth L n = p at *
        generalize nth F n = f at *
        have HA : Hid ((((w2.drewN 1).alloc (.cells #[.int .i64 p, .int .i64 f, .int .i64 (pos : Int), .int .i64 0, .int .i64 0] 52))).ownsRow w3.heap.size 52 5 (.slice ga n gc) n ((flt (gin s L F SB n)).map (Value.int .i64))) := hide (by have := (unhide HO2).below (drewA_bel w2 (.cells #[.int .i64 p, .int .i64 f, .int .i64 (pos : Int), .int .i64 0, .int .i64 0] 52)); unfold GR at this; rw [gin_len] at this; exact this)
        have IA := hide (((drewA_bel w2 (.cells #[.int .i64 p, .int .i64 f, .int .i64 (pos : Int), .int .i64 0, .int .i64 0] 52)).block w4.heap.size (Array.getElem?_eq_some_iff.1 (unhide HI2)).1).trans (unhide HI2))
        go_upto_region 13 with fail
        clear hnx
        go_region_law (refine step_appG rfl (.tmp 34) (.tmp 45) 28 rfl w3.heap.size 52 i0 (.agg #[.int .i64 0, .int .i64 0, .int .i64 0, .int .i64 0, .int .i64 0]) 5 40 Tryz.underlying28 hi hz0 hz1 hz2 rfl (by decide) (.slice ga n gc) n ((flt (gin s L F SB n)).map (Value.int .i64)) (by simp [Act.eval]) (unhide HA) ⟨w2.heap.size, 0, none⟩ 1 1 ((cel (p, f, (pos : Int))).map (Value.int .i64)) (by simp [Act.eval]) rfl (cells_new (w2.drewN 1) _ _) (one_cells _) (by unfold maxLen; omega) (by omega) (by simp; omega) ?_; intro v' w6 hown' hgrow hblk; have G6 := hide (GR.app (G := gin s L F SB n) (H := [(p, f, (pos : Int))]) (by rw [flt_one]; exact hown') (by rw [gin_len]; rfl)); obtain ⟨va, vc, ev, _⟩ := (unhide G6).form; generalize (gin s L F SB n ++ [(p, f, (pos : Int))]).length = n' at ev; subst ev; clear hown' hblk)
        all_goals
          rw [← unhide HC] at G6
          have HA' : GR ((w2.drewN 1).alloc (.cells #[.int .i64 p, .int .i64 f, .int .i64 (pos : Int), .int .i64 0, .int .i64 0] 52)) w3.heap.size (.slice ga n gc) (gin s L F SB n) := by unfold GR; rw [gin_len]; exact unhide HA
          have HI6 := hide (gr_iter_grown HA' (unhide IA) hgrow)
          have HB6 : Hid (Below w3.heap.size w3 w6) := hide (((unhide HB3).trans ((drewA_bel w2 (.cells #[.int .i64 p, .int .i64 f, .int .i64 (pos : Int), .int .i64 0, .int .i64 0] 52)).mono (by omega))).grown hgrow (by simp; omega) (fun k hk => (World.ownsRow.lt HA' k hk).1))
          have HM6 := hide (iterPos_of (unhide HI6))
          clear hgrow HA'
          go_simp
          go_roundw
          case rel =>
            refine ⟨_, _, _, _, _, _, _, _, _, _, _, _, _, _, _, _, _, _, _, _, _, _, _, _, _, _, _, ?_, rfl⟩
            exact ⟨n + 1, L' ++ [(dP s pos : Int)], pos + dN s pos, HS', d2, (by rw [List.length_append, hLn]; rfl), Nat.add_le_add hnp d1, congrArg (Value.int .i64) (unhide HCL).symm, HI6, G6, HB6⟩
          case measure => exact ms_lt (unhide HM) (unhide HM6) d1 d2
    · have hnx : ∀ ty, (Instr.next (.pointer (some ⟨w4.heap.size, 0, none⟩)) true ty).run Tryz.prog wr = .ok (.tuple #[.bool false]) wr := fun ty => Lib.run_next_end_at wr _ s pos ty (unhide HI) hlt
      have e := (unhide HEND) n L' pos (unhide HS) hlt
      have HN : Hid (n = L.length) := hide (by rw [← hLn, e])
      clear e gl
      go_wp2
      go_ret
      refine ⟨_, rfl, ?_, (unhide B3).trans ((unhide HB).mono (unhide B3).size)⟩
      rw [unhide EG, ← unhide HN]
      have l := unhide HO
      refine ⟨l.1, ?_⟩
      rcases l.2 with h' | ⟨g, cap, cur, hv, hg, r⟩
      · exact .inl h'
      · exact .inr ⟨g, cap, cur, hv, by have := (unhide B3).size; omega, r⟩
end Go.Proofs.YtfldomifooihlaaGreatDoor.Gly
