/- Several texts in one. -/
import Derived.Test.YtfldomifooihlaaGreatDoorHR2
import Derived.OwnWalk
/- A rule done on a row of glyphs: the program's replaced. -/
namespace Go.Proofs.YtfldomifooihlaaGreatDoor.Rul
open Go.RowKit
set_option linter.unusedVariables false
def lenV : Value → Nat
  | .slice _ n _ => n
  | _ => 0
set_option maxRecDepth 100000 in
set_option maxHeartbeats 8000000 in
theorem replaced_plain (ai ap : Option Addr) (ci cp : Nat) (I P : List Int) (b off n c : Nat) (G : List Gl) (w0 : World)
    (hI : IntsAt w0 (.slice ai I.length ci) I) (hP : IntsAt w0 (.slice ap P.length cp) P)
    (hG : GA w0 (.slice (some ⟨b, off, none⟩) n c) G) (hn : n = G.length) (hnc : n ≤ c) (l0 : 0 < I.length) (lI : I.length ≤ 8) (lP : P.length ≤ 8) (lG : G.length ≤ 100000) :
    Calls Tryz.prog 54 #[.iface 126 (.agg #[.slice ai I.length ci, .slice ap P.length cp]), .slice (some ⟨b, off, none⟩) n c] w0 fun e w' => ∃ va m vc, e = .returned (.slice va m vc) ∧ GD w0 w' va m vc (rul [] I [] P G) := by
  obtain ⟨i0, hi, hz0, hz1, hz2⟩ := info_parts infoG
  have M1 := fun W => meth_takenP (.slice ai I.length ci) (.slice ap P.length cp) W
  have M2 := fun W => meth_putP (.slice ai I.length ci) (.slice ap P.length cp) W
  have CT := hide (fun W => taken_any ai ap I.length P.length ci cp W)
  have CP := hide (fun W => put_any ai ap I.length P.length ci cp W)
  have HI := hide hI
  have HP := hide hP
  have HG0 := hide hG
  have HIT := hide (fun k => itr_le (A := []) (B := []) l0 lP G k)
  have HEnd := hide (fun k i D h hh => rul_is (A := []) (B := []) (P := P) l0 (G := G) (k := k) (i := i) (D := D) h hh)
  have HFit := hide (fun k i D h hh hf => itr_fit (A := []) (I := I) (B := []) (P := P) (G := G) (k := k) (i := i) (D := D) h hh hf)
  have HNot := hide (fun k i D h hh hf => itr_not (A := []) (I := I) (B := []) (P := P) (G := G) (k := k) (i := i) (D := D) h hh hf)
  have HN := hide hn
  have l0' : (0 : Int) ≤ (I.length : Int) := by omega
  have hnb : n ≤ 100000 := by omega
  clear hI hP hG hn
  go_enter Tryz.func54, Tryz.ntmps54
  go_wp2_with (at_make; refine wpList_make_own _ rfl _ _ 28 rfl w0.heap.size 52 i0 (.agg #[.int .i64 0, .int .i64 0, .int .i64 0, .int .i64 0, .int .i64 0]) 5 Tryz.underlying28 hi hz0 hz1 .i64 .i64 _ n rfl rfl rfl ?b2 ?b3 ?b4 ?_)
  case b2 => rw [hz2]; omega
  case b3 => unfold maxLen; omega
  case b4 => omega
  intro w1 hown hgrow
  have HD1 : Hid (GD w0 w1 (some ⟨w0.heap.size, 0, none⟩) 0 n []) := hide ⟨rfl, ⟨_, rfl⟩, hown, made_below hgrow⟩
  clear hown hgrow
  go_wp2
  go_loopw [1, 5] (fun gv dv wr => ∃ (k i rb roff r rc : Nat) (D : List Gl) (va : Option Addr) (m vc : Nat), gv = .slice (some ⟨rb, roff, none⟩) r rc ∧ dv = .slice va m vc ∧ i ≤ G.length ∧ r ≤ rc ∧ Hid (itr [] I [] P G k = (i, D)) ∧ Hid (r = G.length - i) ∧ Hid (GA w0 (.slice (some ⟨rb, roff, none⟩) r rc) (G.drop i)) ∧ Hid (GD w0 wr va m vc D)) (fun gv _ _ => lenV gv)
  case atStart => exact ⟨0, 0, b, off, n, c, [], _, 0, n, rfl, rfl, Nat.zero_le _, hnc, hide rfl, hide (by rw [unhide HN]; rfl), hide (by rw [List.drop_zero]; exact unhide HG0), HD1⟩
  case round =>
    obtain ⟨k, i, rb, roff, r, rc, D, va, m, vc, rfl, rfl, hiG, hrc, HK, HR, HGA, HD⟩ := hrel
    clear HD1
    have hr0 := unhide HR
    by_cases hlt : 0 < r
    · have hlt' : (0 : Int) < (r : Int) := by omega
      have hiL : i < G.length := by omega
      obtain ⟨hDi, hDl⟩ : i ≤ G.length ∧ D.length ≤ 8 * i := by
        have := (unhide HIT) k
        rw [unhide HK] at this
        exact this
      have hml : m = D.length := (unhide HD).len
      have hm : m ≤ 1048576 := by omega
      have hD6 : D.length ≤ 1048576 := by omega
      obtain ⟨a9, c9, e9, hf9⟩ := (unhide HGA).form
      injection e9 with e91 e92 e93
      obtain ⟨b9, o9, e94, hb9, hF9⟩ := hf9 0 (by omega)
      rw [← e91] at e94
      injection e94 with e95
      injection e95 with e96 e97
      subst e96 e97
      simp only [gat_drop, Nat.zero_mul, Nat.add_zero] at hF9
      obtain ⟨x0, x1, x2, x3, x4⟩ := hF9.below (unhide HD).bel hb9
      clear e91 e92 e93 hf9 hF9
      have hrl : (G.drop i).length ≤ 1048576 := by rw [List.length_drop]; omega
      have hrl2 : r = (G.drop i).length := by rw [List.length_drop]; omega
      have B1 := hide ((unhide HD).bel.alloc (unhide HD).bel.size (.cells #[.int .i64 (gat G i).1, .int .i64 (gat G i).2.1, .int .i64 (gat G i).2.2.1, .int .i64 (gat G i).2.2.2.1, .int .i64 (gat G i).2.2.2.2] 52))
      have HD2 := hide ((unhide HD).below ((Below.refl wr.heap.size wr).alloc (Nat.le_refl _) (.cells #[.int .i64 (gat G i).1, .int .i64 (gat G i).2.1, .int .i64 (gat G i).2.2.1, .int .i64 (gat G i).2.2.2.1, .int .i64 (gat G i).2.2.2.2] 52)))
      have hq := heap_new wr (.cells #[.int .i64 (gat G i).1, .int .i64 (gat G i).2.1, .int .i64 (gat G i).2.2.1, .int .i64 (gat G i).2.2.2.1, .int .i64 (gat G i).2.2.2.2] 52)
      have hq1 : wr.heap.size < (wr.alloc (.cells #[.int .i64 (gat G i).1, .int .i64 (gat G i).2.1, .int .i64 (gat G i).2.2.1, .int .i64 (gat G i).2.2.2.1, .int .i64 (gat G i).2.2.2.2] 52)).heap.size := by simp
      have hwr := (unhide HD).bel.size
      have hob : Hid (∀ j, (Value.slice va m vc).ownBlock = some j → j < wr.heap.size) := hide (fun j hj => ((unhide HD).ow j hj).2)
      have CF := hide (fits_plain ai ap P.length ci cp I (.slice va m vc) rb roff r rc (G.drop i) _ ((unhide HI).below (unhide B1)) ((unhide HGA).below (unhide B1)) lI hrl)
      rw [atq_drop G i I hiG, ← fit_plain (D := D)] at CF
      cases hz : fit [] I [] G i D
      · rw [hz] at CF
        have HK2 := hide ((unhide HNot) k i D (unhide HK) hiL hz)
        by_cases hcap : rc = 1
        · have er : r = 1 := by omega
          have HGA2 : Hid (GA w0 (.slice (some ⟨rb, roff, none⟩) 0 0) (G.drop (i + 1))) := hide (by rw [List.drop_eq_nil_of_le (by omega)]; exact GA.empty _ _ _)
          have HR2 : Hid (0 = G.length - (i + 1)) := hide (by omega)
          clear hz hml hrl2 hr0 hDl hDi HR HGA
          subst hcap
          subst er
          go_wp2_with fail
          generalize wr.alloc (.cells #[.int .i64 (gat G i).1, .int .i64 (gat G i).2.1, .int .i64 (gat G i).2.2.1, .int .i64 (gat G i).2.2.2.1, .int .i64 (gat G i).2.2.2.2] 52) = wa at *
          refine (unhide CF).mono ?_
          rintro e w2 ⟨rfl, hb2⟩
          have HD3 := hide ((unhide HD2).below hb2)
          have hq2 := (hb2.block wr.heap.size hq1).trans hq
          have hq3 := Nat.lt_of_lt_of_le hq1 hb2.size
          obtain ⟨y0, y1, y2, y3, y4⟩ := five_cells hq2
          clear hb2 CF HD2 B1 hq hq1 x0 x1 x2 x3 x4 HD
          go_wp2_with (at_builtin; go_loud (refine wpList_appG _ rfl _ _ 28 rfl w0.heap.size 52 i0 (.agg #[.int .i64 0, .int .i64 0, .int .i64 0, .int .i64 0, .int .i64 0]) 5 40 Tryz.underlying28 hi hz0 hz1 hz2 rfl (by decide) _ _ _ rfl (World.ownsRow.alloc (unhide HD3).row _) ⟨w2.heap.size, 0, none⟩ 1 1 (cv (gat G i)) rfl rfl (five_new w2 (gat G i)) (five_one _) (by unfold maxLen; omega) (by omega) (by have := (unhide HD3).bel.size; simp; omega) ?_))
          intro v' w3 hown' hgrow hblk
          obtain ⟨va3, vc3, rfl, HG3⟩ := (unhide HD3).app (g := gat G i) hown' hgrow
          have HG4 := hide HG3
          clear HG3 hown' hgrow hblk HD3
          go_wp2
          go_roundw
          case rel => exact ⟨k + 1, i + 1, rb, roff, 0, 0, D ++ [gat G i], va3, m + 1, vc3, rfl, rfl, by omega, Nat.le_refl _, HK2, HR2, HGA2, HG4⟩
          case measure => simp [lenV]
        · have hcap' : ¬ (rc : Int) = 1 := by omega
          have hr1 : (1 : Int) ≤ (r : Int) := by omega
          have hrc' : (r : Int) ≤ (rc : Int) := by omega
          have HGA2 : Hid (GA w0 (.slice (some ⟨rb, roff + 1 * 5, none⟩) (r - 1) (rc - 1)) (G.drop (i + 1))) := hide (by have := (unhide HGA).cut (k := 1) (c' := rc - 1) (by omega); rw [List.drop_drop] at this; exact this)
          have HR2 : Hid (r - 1 = G.length - (i + 1)) := hide (by omega)
          clear hz hml hrl2 hr0 hDl hDi HR HGA
          go_wp2_with fail
          generalize wr.alloc (.cells #[.int .i64 (gat G i).1, .int .i64 (gat G i).2.1, .int .i64 (gat G i).2.2.1, .int .i64 (gat G i).2.2.2.1, .int .i64 (gat G i).2.2.2.2] 52) = wa at *
          refine (unhide CF).mono ?_
          rintro e w2 ⟨rfl, hb2⟩
          have HD3 := hide ((unhide HD2).below hb2)
          have hq2 := (hb2.block wr.heap.size hq1).trans hq
          have hq3 := Nat.lt_of_lt_of_le hq1 hb2.size
          obtain ⟨y0, y1, y2, y3, y4⟩ := five_cells hq2
          clear hb2 CF HD2 B1 hq hq1 x0 x1 x2 x3 x4 HD
          go_wp2_with (at_builtin; go_loud (refine wpList_appG _ rfl _ _ 28 rfl w0.heap.size 52 i0 (.agg #[.int .i64 0, .int .i64 0, .int .i64 0, .int .i64 0, .int .i64 0]) 5 40 Tryz.underlying28 hi hz0 hz1 hz2 rfl (by decide) _ _ _ rfl (World.ownsRow.alloc (unhide HD3).row _) ⟨w2.heap.size, 0, none⟩ 1 1 (cv (gat G i)) rfl rfl (five_new w2 (gat G i)) (five_one _) (by unfold maxLen; omega) (by omega) (by have := (unhide HD3).bel.size; simp; omega) ?_))
          intro v' w3 hown' hgrow hblk
          obtain ⟨va3, vc3, rfl, HG3⟩ := (unhide HD3).app (g := gat G i) hown' hgrow
          have HG4 := hide HG3
          clear HG3 hown' hgrow hblk HD3
          go_wp2
          go_roundw
          case rel => exact ⟨k + 1, i + 1, rb, roff + 1 * 5, r - 1, rc - 1, D ++ [gat G i], va3, m + 1, vc3, rfl, rfl, by omega, by omega, HK2, HR2, HGA2, HG4⟩
          case measure => simp [lenV]; omega
      · rw [hz] at CF
        have hle := fit_le hz
        have HK2 := hide ((unhide HFit) k i D (unhide HK) hiL hz)
        have hr1 : (I.length : Int) ≤ (r : Int) := by omega
        have hrc' : (r : Int) ≤ (rc : Int) := by omega
        by_cases hcap : rc = I.length
        · have er : r = I.length := by omega
          have HGA2 : Hid (GA w0 (.slice (some ⟨rb, roff, none⟩) 0 0) (G.drop (i + I.length))) := hide (by rw [List.drop_eq_nil_of_le (by omega)]; exact GA.empty _ _ _)
          have HR2 : Hid (0 = G.length - (i + I.length)) := hide (by omega)
          clear hz hml hrl2 hr0 hDl hDi HR HGA
          subst hcap
          subst er
          go_wp2_with fail
          generalize wr.alloc (.cells #[.int .i64 (gat G i).1, .int .i64 (gat G i).2.1, .int .i64 (gat G i).2.2.1, .int .i64 (gat G i).2.2.2.1, .int .i64 (gat G i).2.2.2.2] 52) = wa at *
          refine (unhide CF).mono ?_
          rintro e w2 ⟨rfl, hb2⟩
          have HD3 := hide ((unhide HD2).below hb2)
          have hq2 := (hb2.block wr.heap.size hq1).trans hq
          have hq3 := Nat.lt_of_lt_of_le hq1 hb2.size
          obtain ⟨y0, y1, y2, y3, y4⟩ := five_cells hq2
          clear hb2 CF HD2 B1 hq hq1 x0 x1 x2 x3 x4 HD
          go_upto_region 5 with fail
          go_region_with (first
            | (go_at_call 149; refine ((unhide CP) _).mono ?_; rintro e w4 ⟨rfl, hb4⟩; have HD4 := hide ((unhide HD3).below ((drew_bel w2).trans hb4)); have k4 := (((drew_bel w2).trans hb4).block wr.heap.size hq3).trans hq2; obtain ⟨z0, z1, z2, z3, z4⟩ := five_cells k4; clear hb4 k4)
            | (go_at_call 83; refine (appendPut_any w0 _ _ m vc D _ P _ _ _ _ _ (unhide HD4) (unhide HP) hm lP).mono ?_; rintro e w5 ⟨va5, vc5, rfl, hD5⟩; have HD5 := hide hD5; clear hD5))
          all_goals
            go_wp2_with fail
            refine ((unhide CT) _).mono ?_
            rintro e w6 ⟨rfl, hb6⟩
            have HD6 := hide ((unhide HD5).below hb6)
            clear hb6 HD5
            go_wp2
            go_roundw
            case rel => exact ⟨k + 1, i + I.length, rb, roff, 0, 0, D ++ P.map (mkg (gat G i)), va5, m + P.length, vc5, rfl, rfl, hle, Nat.le_refl _, HK2, HR2, HGA2, HD6⟩
            case measure => simp [lenV]; omega
        · have hcap' : ¬ (rc : Int) = (I.length : Int) := by omega
          have HGA2 : Hid (GA w0 (.slice (some ⟨rb, roff + I.length * 5, none⟩) (r - I.length) (rc - I.length)) (G.drop (i + I.length))) := hide (by have := (unhide HGA).cut (k := I.length) (c' := rc - I.length) (by omega); rw [List.drop_drop] at this; exact this)
          have HR2 : Hid (r - I.length = G.length - (i + I.length)) := hide (by omega)
          clear hz hml hrl2 hr0 hDl hDi HR HGA
          go_wp2_with fail
          generalize wr.alloc (.cells #[.int .i64 (gat G i).1, .int .i64 (gat G i).2.1, .int .i64 (gat G i).2.2.1, .int .i64 (gat G i).2.2.2.1, .int .i64 (gat G i).2.2.2.2] 52) = wa at *
          refine (unhide CF).mono ?_
          rintro e w2 ⟨rfl, hb2⟩
          have HD3 := hide ((unhide HD2).below hb2)
          have hq2 := (hb2.block wr.heap.size hq1).trans hq
          have hq3 := Nat.lt_of_lt_of_le hq1 hb2.size
          obtain ⟨y0, y1, y2, y3, y4⟩ := five_cells hq2
          clear hb2 CF HD2 B1 hq hq1 x0 x1 x2 x3 x4 HD
          go_upto_region 5 with fail
          go_region_with (first
            | (go_at_call 149; refine ((unhide CP) _).mono ?_; rintro e w4 ⟨rfl, hb4⟩; have HD4 := hide ((unhide HD3).below ((drew_bel w2).trans hb4)); have k4 := (((drew_bel w2).trans hb4).block wr.heap.size hq3).trans hq2; obtain ⟨z0, z1, z2, z3, z4⟩ := five_cells k4; clear hb4 k4)
            | (go_at_call 83; refine (appendPut_any w0 _ _ m vc D _ P _ _ _ _ _ (unhide HD4) (unhide HP) hm lP).mono ?_; rintro e w5 ⟨va5, vc5, rfl, hD5⟩; have HD5 := hide hD5; clear hD5))
          all_goals
            go_wp2_with fail
            refine ((unhide CT) _).mono ?_
            rintro e w6 ⟨rfl, hb6⟩
            have HD6 := hide ((unhide HD5).below hb6)
            clear hb6 HD5
            go_wp2
            go_roundw
            case rel => exact ⟨k + 1, i + I.length, rb, roff + I.length * 5, r - I.length, rc - I.length, D ++ P.map (mkg (gat G i)), va5, m + P.length, vc5, rfl, rfl, hle, by omega, HK2, HR2, HGA2, HD6⟩
            case measure => simp [lenV]; omega
    · have hlt' : ¬ (0 : Int) < (r : Int) := by omega
      have HE := hide ((unhide HEnd) k i D (unhide HK) (by omega))
      clear hr0
      go_wp2
      go_ret
      exact ⟨_, _, _, rfl, by rw [unhide HE]; exact unhide HD⟩
set_option maxRecDepth 100000 in
set_option maxHeartbeats 8000000 in
theorem replaced_ctx (ai ap aa ab : Option Addr) (ci cp ca cb : Nat) (A B I P : List Int) (b off n c : Nat) (G : List Gl) (w0 : World)
    (hI : IntsAt w0 (.slice ai I.length ci) I) (hP : IntsAt w0 (.slice ap P.length cp) P) (hA : IntsAt w0 (.slice aa A.length ca) A) (hB : IntsAt w0 (.slice ab B.length cb) B)
    (hG : GA w0 (.slice (some ⟨b, off, none⟩) n c) G) (hn : n = G.length) (hnc : n ≤ c) (l0 : 0 < I.length) (lI : I.length ≤ 8) (lP : P.length ≤ 8) (lA : A.length ≤ 4) (lB : B.length ≤ 4) (lG : G.length ≤ 100000) :
    Calls Tryz.prog 54 #[.iface 128 (.agg #[.slice ai I.length ci, .slice ap P.length cp, .slice aa A.length ca, .slice ab B.length cb]), .slice (some ⟨b, off, none⟩) n c] w0 fun e w' => ∃ va m vc, e = .returned (.slice va m vc) ∧ GD w0 w' va m vc (rul A I B P G) := by
  obtain ⟨i0, hi, hz0, hz1, hz2⟩ := info_parts infoG
  have M1 := fun W => meth_taken (.slice ai I.length ci) (.slice ap P.length cp) (.slice aa A.length ca) (.slice ab B.length cb) W
  have M2 := fun W => meth_put (.slice ai I.length ci) (.slice ap P.length cp) (.slice aa A.length ca) (.slice ab B.length cb) W
  have CT := hide (fun W => taken_any ai ap I.length P.length ci cp W)
  have CP := hide (fun W => put_any ai ap I.length P.length ci cp W)
  have HI := hide hI
  have HP := hide hP
  have HA := hide hA
  have HB := hide hB
  have HG0 := hide hG
  have HIT := hide (fun k => itr_le (A := A) (B := B) l0 lP G k)
  have HEnd := hide (fun k i D h hh => rul_is (A := A) (B := B) (P := P) l0 (G := G) (k := k) (i := i) (D := D) h hh)
  have HFit := hide (fun k i D h hh hf => itr_fit (A := A) (I := I) (B := B) (P := P) (G := G) (k := k) (i := i) (D := D) h hh hf)
  have HNot := hide (fun k i D h hh hf => itr_not (A := A) (I := I) (B := B) (P := P) (G := G) (k := k) (i := i) (D := D) h hh hf)
  have HN := hide hn
  have l0' : (0 : Int) ≤ (I.length : Int) := by omega
  have hnb : n ≤ 100000 := by omega
  clear hI hP hG hn hA hB
  go_enter Tryz.func54, Tryz.ntmps54
  go_wp2_with (at_make; refine wpList_make_own _ rfl _ _ 28 rfl w0.heap.size 52 i0 (.agg #[.int .i64 0, .int .i64 0, .int .i64 0, .int .i64 0, .int .i64 0]) 5 Tryz.underlying28 hi hz0 hz1 .i64 .i64 _ n rfl rfl rfl ?b2 ?b3 ?b4 ?_)
  case b2 => rw [hz2]; omega
  case b3 => unfold maxLen; omega
  case b4 => omega
  intro w1 hown hgrow
  have HD1 : Hid (GD w0 w1 (some ⟨w0.heap.size, 0, none⟩) 0 n []) := hide ⟨rfl, ⟨_, rfl⟩, hown, made_below hgrow⟩
  clear hown hgrow
  go_wp2
  go_loopw [1, 5] (fun gv dv wr => ∃ (k i rb roff r rc : Nat) (D : List Gl) (va : Option Addr) (m vc : Nat), gv = .slice (some ⟨rb, roff, none⟩) r rc ∧ dv = .slice va m vc ∧ i ≤ G.length ∧ r ≤ rc ∧ Hid (itr A I B P G k = (i, D)) ∧ Hid (r = G.length - i) ∧ Hid (GA w0 (.slice (some ⟨rb, roff, none⟩) r rc) (G.drop i)) ∧ Hid (GD w0 wr va m vc D)) (fun gv _ _ => lenV gv)
  case atStart => exact ⟨0, 0, b, off, n, c, [], _, 0, n, rfl, rfl, Nat.zero_le _, hnc, hide rfl, hide (by rw [unhide HN]; rfl), hide (by rw [List.drop_zero]; exact unhide HG0), HD1⟩
  case round =>
    obtain ⟨k, i, rb, roff, r, rc, D, va, m, vc, rfl, rfl, hiG, hrc, HK, HR, HGA, HD⟩ := hrel
    clear HD1
    have hr0 := unhide HR
    by_cases hlt : 0 < r
    · have hlt' : (0 : Int) < (r : Int) := by omega
      have hiL : i < G.length := by omega
      obtain ⟨hDi, hDl⟩ : i ≤ G.length ∧ D.length ≤ 8 * i := by
        have := (unhide HIT) k
        rw [unhide HK] at this
        exact this
      have hml : m = D.length := (unhide HD).len
      have hm : m ≤ 1048576 := by omega
      have hD6 : D.length ≤ 1048576 := by omega
      obtain ⟨a9, c9, e9, hf9⟩ := (unhide HGA).form
      injection e9 with e91 e92 e93
      obtain ⟨b9, o9, e94, hb9, hF9⟩ := hf9 0 (by omega)
      rw [← e91] at e94
      injection e94 with e95
      injection e95 with e96 e97
      subst e96 e97
      simp only [gat_drop, Nat.zero_mul, Nat.add_zero] at hF9
      obtain ⟨x0, x1, x2, x3, x4⟩ := hF9.below (unhide HD).bel hb9
      clear e91 e92 e93 hf9 hF9
      have hrl : (G.drop i).length ≤ 1048576 := by rw [List.length_drop]; omega
      have hrl2 : r = (G.drop i).length := by rw [List.length_drop]; omega
      have B1 := hide ((unhide HD).bel.alloc (unhide HD).bel.size (.cells #[.int .i64 (gat G i).1, .int .i64 (gat G i).2.1, .int .i64 (gat G i).2.2.1, .int .i64 (gat G i).2.2.2.1, .int .i64 (gat G i).2.2.2.2] 52))
      have HD2 := hide ((unhide HD).below ((Below.refl wr.heap.size wr).alloc (Nat.le_refl _) (.cells #[.int .i64 (gat G i).1, .int .i64 (gat G i).2.1, .int .i64 (gat G i).2.2.1, .int .i64 (gat G i).2.2.2.1, .int .i64 (gat G i).2.2.2.2] 52)))
      have hq := heap_new wr (.cells #[.int .i64 (gat G i).1, .int .i64 (gat G i).2.1, .int .i64 (gat G i).2.2.1, .int .i64 (gat G i).2.2.2.1, .int .i64 (gat G i).2.2.2.2] 52)
      have hq1 : wr.heap.size < (wr.alloc (.cells #[.int .i64 (gat G i).1, .int .i64 (gat G i).2.1, .int .i64 (gat G i).2.2.1, .int .i64 (gat G i).2.2.2.1, .int .i64 (gat G i).2.2.2.2] 52)).heap.size := by simp
      have hwr := (unhide HD).bel.size
      have hob : Hid (∀ j, (Value.slice va m vc).ownBlock = some j → j < wr.heap.size) := hide (fun j hj => ((unhide HD).ow j hj).2)
      obtain ⟨dg, rfl⟩ := (unhide HD).som
      have CF := hide (fits_ctx ai ap aa ab P.length ci cp ca cb A I B dg 0 m vc rb roff r rc D (G.drop i) _ ((unhide HI).below (unhide B1)) ((unhide HA).below (unhide B1)) ((unhide HB).below (unhide B1)) (unhide HD2).gr.ga hml (unhide HD).cap ((unhide HGA).below (unhide B1)) hrl2 hrc lI lA lB hrl hD6)
      rw [fit_eq hiG] at CF
      cases hz : fit A I B G i D
      · rw [hz] at CF
        have HK2 := hide ((unhide HNot) k i D (unhide HK) hiL hz)
        by_cases hcap : rc = 1
        · have er : r = 1 := by omega
          have HGA2 : Hid (GA w0 (.slice (some ⟨rb, roff, none⟩) 0 0) (G.drop (i + 1))) := hide (by rw [List.drop_eq_nil_of_le (by omega)]; exact GA.empty _ _ _)
          have HR2 : Hid (0 = G.length - (i + 1)) := hide (by omega)
          clear hz hml hrl2 hr0 hDl hDi HR HGA
          subst hcap
          subst er
          go_wp2_with fail
          generalize wr.alloc (.cells #[.int .i64 (gat G i).1, .int .i64 (gat G i).2.1, .int .i64 (gat G i).2.2.1, .int .i64 (gat G i).2.2.2.1, .int .i64 (gat G i).2.2.2.2] 52) = wa at *
          refine (unhide CF).mono ?_
          rintro e w2 ⟨rfl, hb2⟩
          have HD3 := hide ((unhide HD2).below hb2)
          have hq2 := (hb2.block wr.heap.size hq1).trans hq
          have hq3 := Nat.lt_of_lt_of_le hq1 hb2.size
          obtain ⟨y0, y1, y2, y3, y4⟩ := five_cells hq2
          clear hb2 CF HD2 B1 hq hq1 x0 x1 x2 x3 x4 HD
          go_wp2_with (at_builtin; go_loud (refine wpList_appG _ rfl _ _ 28 rfl w0.heap.size 52 i0 (.agg #[.int .i64 0, .int .i64 0, .int .i64 0, .int .i64 0, .int .i64 0]) 5 40 Tryz.underlying28 hi hz0 hz1 hz2 rfl (by decide) _ _ _ rfl (World.ownsRow.alloc (unhide HD3).row _) ⟨w2.heap.size, 0, none⟩ 1 1 (cv (gat G i)) rfl rfl (five_new w2 (gat G i)) (five_one _) (by unfold maxLen; omega) (by omega) (by have := (unhide HD3).bel.size; simp; omega) ?_))
          intro v' w3 hown' hgrow hblk
          obtain ⟨va3, vc3, rfl, HG3⟩ := (unhide HD3).app (g := gat G i) hown' hgrow
          have HG4 := hide HG3
          clear HG3 hown' hgrow hblk HD3
          go_wp2
          go_roundw
          case rel => exact ⟨k + 1, i + 1, rb, roff, 0, 0, D ++ [gat G i], va3, m + 1, vc3, rfl, rfl, by omega, Nat.le_refl _, HK2, HR2, HGA2, HG4⟩
          case measure => simp [lenV]
        · have hcap' : ¬ (rc : Int) = 1 := by omega
          have hr1 : (1 : Int) ≤ (r : Int) := by omega
          have hrc' : (r : Int) ≤ (rc : Int) := by omega
          have HGA2 : Hid (GA w0 (.slice (some ⟨rb, roff + 1 * 5, none⟩) (r - 1) (rc - 1)) (G.drop (i + 1))) := hide (by have := (unhide HGA).cut (k := 1) (c' := rc - 1) (by omega); rw [List.drop_drop] at this; exact this)
          have HR2 : Hid (r - 1 = G.length - (i + 1)) := hide (by omega)
          clear hz hml hrl2 hr0 hDl hDi HR HGA
          go_wp2_with fail
          generalize wr.alloc (.cells #[.int .i64 (gat G i).1, .int .i64 (gat G i).2.1, .int .i64 (gat G i).2.2.1, .int .i64 (gat G i).2.2.2.1, .int .i64 (gat G i).2.2.2.2] 52) = wa at *
          refine (unhide CF).mono ?_
          rintro e w2 ⟨rfl, hb2⟩
          have HD3 := hide ((unhide HD2).below hb2)
          have hq2 := (hb2.block wr.heap.size hq1).trans hq
          have hq3 := Nat.lt_of_lt_of_le hq1 hb2.size
          obtain ⟨y0, y1, y2, y3, y4⟩ := five_cells hq2
          clear hb2 CF HD2 B1 hq hq1 x0 x1 x2 x3 x4 HD
          go_wp2_with (at_builtin; go_loud (refine wpList_appG _ rfl _ _ 28 rfl w0.heap.size 52 i0 (.agg #[.int .i64 0, .int .i64 0, .int .i64 0, .int .i64 0, .int .i64 0]) 5 40 Tryz.underlying28 hi hz0 hz1 hz2 rfl (by decide) _ _ _ rfl (World.ownsRow.alloc (unhide HD3).row _) ⟨w2.heap.size, 0, none⟩ 1 1 (cv (gat G i)) rfl rfl (five_new w2 (gat G i)) (five_one _) (by unfold maxLen; omega) (by omega) (by have := (unhide HD3).bel.size; simp; omega) ?_))
          intro v' w3 hown' hgrow hblk
          obtain ⟨va3, vc3, rfl, HG3⟩ := (unhide HD3).app (g := gat G i) hown' hgrow
          have HG4 := hide HG3
          clear HG3 hown' hgrow hblk HD3
          go_wp2
          go_roundw
          case rel => exact ⟨k + 1, i + 1, rb, roff + 1 * 5, r - 1, rc - 1, D ++ [gat G i], va3, m + 1, vc3, rfl, rfl, by omega, by omega, HK2, HR2, HGA2, HG4⟩
          case measure => simp [lenV]; omega
      · rw [hz] at CF
        have hle := fit_le hz
        have HK2 := hide ((unhide HFit) k i D (unhide HK) hiL hz)
        have hr1 : (I.length : Int) ≤ (r : Int) := by omega
        have hrc' : (r : Int) ≤ (rc : Int) := by omega
        by_cases hcap : rc = I.length
        · have er : r = I.length := by omega
          have HGA2 : Hid (GA w0 (.slice (some ⟨rb, roff, none⟩) 0 0) (G.drop (i + I.length))) := hide (by rw [List.drop_eq_nil_of_le (by omega)]; exact GA.empty _ _ _)
          have HR2 : Hid (0 = G.length - (i + I.length)) := hide (by omega)
          clear hz hml hrl2 hr0 hDl hDi HR HGA
          subst hcap
          subst er
          go_wp2_with fail
          generalize wr.alloc (.cells #[.int .i64 (gat G i).1, .int .i64 (gat G i).2.1, .int .i64 (gat G i).2.2.1, .int .i64 (gat G i).2.2.2.1, .int .i64 (gat G i).2.2.2.2] 52) = wa at *
          refine (unhide CF).mono ?_
          rintro e w2 ⟨rfl, hb2⟩
          have HD3 := hide ((unhide HD2).below hb2)
          have hq2 := (hb2.block wr.heap.size hq1).trans hq
          have hq3 := Nat.lt_of_lt_of_le hq1 hb2.size
          obtain ⟨y0, y1, y2, y3, y4⟩ := five_cells hq2
          clear hb2 CF HD2 B1 hq hq1 x0 x1 x2 x3 x4 HD
          go_upto_region 5 with fail
          go_region_with (first
            | (go_at_call 149; refine ((unhide CP) _).mono ?_; rintro e w4 ⟨rfl, hb4⟩; have HD4 := hide ((unhide HD3).below ((drew_bel w2).trans hb4)); have k4 := (((drew_bel w2).trans hb4).block wr.heap.size hq3).trans hq2; obtain ⟨z0, z1, z2, z3, z4⟩ := five_cells k4; clear hb4 k4)
            | (go_at_call 83; refine (appendPut_any w0 _ _ m vc D _ P _ _ _ _ _ (unhide HD4) (unhide HP) hm lP).mono ?_; rintro e w5 ⟨va5, vc5, rfl, hD5⟩; have HD5 := hide hD5; clear hD5))
          all_goals
            go_wp2_with fail
            refine ((unhide CT) _).mono ?_
            rintro e w6 ⟨rfl, hb6⟩
            have HD6 := hide ((unhide HD5).below hb6)
            clear hb6 HD5
            go_wp2
            go_roundw
            case rel => exact ⟨k + 1, i + I.length, rb, roff, 0, 0, D ++ P.map (mkg (gat G i)), va5, m + P.length, vc5, rfl, rfl, hle, Nat.le_refl _, HK2, HR2, HGA2, HD6⟩
            case measure => simp [lenV]; omega
        · have hcap' : ¬ (rc : Int) = (I.length : Int) := by omega
          have HGA2 : Hid (GA w0 (.slice (some ⟨rb, roff + I.length * 5, none⟩) (r - I.length) (rc - I.length)) (G.drop (i + I.length))) := hide (by have := (unhide HGA).cut (k := I.length) (c' := rc - I.length) (by omega); rw [List.drop_drop] at this; exact this)
          have HR2 : Hid (r - I.length = G.length - (i + I.length)) := hide (by omega)
          clear hz hml hrl2 hr0 hDl hDi HR HGA
          go_wp2_with fail
          generalize wr.alloc (.cells #[.int .i64 (gat G i).1, .int .i64 (gat G i).2.1, .int .i64 (gat G i).2.2.1, .int .i64 (gat G i).2.2.2.1, .int .i64 (gat G i).2.2.2.2] 52) = wa at *
          refine (unhide CF).mono ?_
          rintro e w2 ⟨rfl, hb2⟩
          have HD3 := hide ((unhide HD2).below hb2)
          have hq2 := (hb2.block wr.heap.size hq1).trans hq
          have hq3 := Nat.lt_of_lt_of_le hq1 hb2.size
          obtain ⟨y0, y1, y2, y3, y4⟩ := five_cells hq2
          clear hb2 CF HD2 B1 hq hq1 x0 x1 x2 x3 x4 HD
          go_upto_region 5 with fail
          go_region_with (first
            | (go_at_call 149; refine ((unhide CP) _).mono ?_; rintro e w4 ⟨rfl, hb4⟩; have HD4 := hide ((unhide HD3).below ((drew_bel w2).trans hb4)); have k4 := (((drew_bel w2).trans hb4).block wr.heap.size hq3).trans hq2; obtain ⟨z0, z1, z2, z3, z4⟩ := five_cells k4; clear hb4 k4)
            | (go_at_call 83; refine (appendPut_any w0 _ _ m vc D _ P _ _ _ _ _ (unhide HD4) (unhide HP) hm lP).mono ?_; rintro e w5 ⟨va5, vc5, rfl, hD5⟩; have HD5 := hide hD5; clear hD5))
          all_goals
            go_wp2_with fail
            refine ((unhide CT) _).mono ?_
            rintro e w6 ⟨rfl, hb6⟩
            have HD6 := hide ((unhide HD5).below hb6)
            clear hb6 HD5
            go_wp2
            go_roundw
            case rel => exact ⟨k + 1, i + I.length, rb, roff + I.length * 5, r - I.length, rc - I.length, D ++ P.map (mkg (gat G i)), va5, m + P.length, vc5, rfl, rfl, hle, by omega, HK2, HR2, HGA2, HD6⟩
            case measure => simp [lenV]; omega
    · have hlt' : ¬ (0 : Int) < (r : Int) := by omega
      have HE := hide ((unhide HEnd) k i D (unhide HK) (by omega))
      clear hr0
      go_wp2
      go_ret
      exact ⟨_, _, _, rfl, by rw [unhide HE]; exact unhide HD⟩
end Go.Proofs.YtfldomifooihlaaGreatDoor.Rul
/- The program's ApplyRules. -/
namespace Go.Proofs.YtfldomifooihlaaGreatDoor.Rul
open Go.RowKit
set_option linter.unusedVariables false
set_option maxRecDepth 100000 in
set_option maxHeartbeats 4000000 in
theorem work_plain (a0 a1 a2 a3 : Option Addr) (n1 n3 c0 c1 c2 c3 : Nat) (w : World) :
    Calls Tryz.prog 55 #[.agg #[.slice a0 0 c0, .slice a1 n1 c1, .slice a2 0 c2, .slice a3 n3 c3]] w fun e w' => e = .returned (.iface 126 (.agg #[.slice a1 n1 c1, .slice a3 n3 c3])) ∧ Below w.heap.size w w' := by
  go_enter Tryz.func55, Tryz.ntmps55
  go_wp2
  go_ret
  exact ⟨rfl, ((Below.refl _ _).alloc (Nat.le_refl _) _).alloc (by simp) _⟩
set_option maxRecDepth 100000 in
set_option maxHeartbeats 4000000 in
theorem work_ctx (a0 a1 a2 a3 : Option Addr) (n0 n1 n2 n3 c0 c1 c2 c3 : Nat) (w : World) (h : 0 < n0 ∨ 0 < n2) (l0 : n0 ≤ 4) (l2 : n2 ≤ 4) :
    Calls Tryz.prog 55 #[.agg #[.slice a0 n0 c0, .slice a1 n1 c1, .slice a2 n2 c2, .slice a3 n3 c3]] w fun e w' => e = .returned (.iface 128 (.agg #[.slice a1 n1 c1, .slice a3 n3 c3, .slice a0 n0 c0, .slice a2 n2 c2])) ∧ Below w.heap.size w w' := by
  by_cases t : 0 < n0
  · have t1 : ((n0 : Int) == 0) = false := by simp; omega
    clear h
    go_enter Tryz.func55, Tryz.ntmps55
    go_wp2
    go_ret
    exact ⟨rfl, ((Below.refl _ _).alloc (Nat.le_refl _) _).alloc (by simp) _⟩
  · obtain rfl : n0 = 0 := by omega
    have t1 : ((n2 : Int) == 0) = false := by simp; omega
    clear h
    go_enter Tryz.func55, Tryz.ntmps55
    go_wp2
    go_ret
    exact ⟨rfl, ((Below.refl _ _).alloc (Nat.le_refl _) _).alloc (by simp) _⟩
/-- A row of glyphs that is not nil, of one's own since w0 or older. -/
def GV (w : World) (v : Value) (G : List Gl) : Prop := ∃ b off c, v = .slice (some ⟨b, off, none⟩) G.length c ∧ G.length ≤ c ∧ GA w v G
theorem GV.below {w w' : World} {v : Value} {G : List Gl} (h : GV w v G) (hb : Below w.heap.size w w') : GV w' v G := by
  obtain ⟨b, off, c, rfl, h1, h2⟩ := h
  exact ⟨b, off, c, rfl, h1, h2.below hb⟩
theorem GD.gv {w0 w : World} {va : Option Addr} {m vc : Nat} {D : List Gl} (h : GD w0 w va m vc D) : GV w (.slice va m vc) D := by
  obtain ⟨g, rfl⟩ := h.som
  have e := h.len
  have c := h.cap
  have r := h.gr.ga
  subst e
  exact ⟨g, 0, vc, rfl, c, r⟩
theorem replaced_any (u0 u1 u2 u3 : Value) (A I B P : List Int) (v : Value) (G : List Gl) (w : World) (h0 : IntsAt w u0 A) (h1 : IntsAt w u1 I) (h2 : IntsAt w u2 B) (h3 : IntsAt w u3 P) (hG : GV w v G) (ok : ok1 A I B P = true) (lG : G.length ≤ 100000) :
    ∃ rv, (∀ W, Calls Tryz.prog 55 #[.agg #[u0, u1, u2, u3]] W fun e w' => e = .returned rv ∧ Below W.heap.size W w') ∧ (∀ W, Below w.heap.size w W → Calls Tryz.prog 54 #[rv, v] W fun e w' => ∃ v', e = .returned v' ∧ (∃ va m vc, v' = .slice va m vc ∧ GD W w' va m vc (rul A I B P G))) := by
  obtain ⟨a0, c0, rfl⟩ := ints_form h0
  obtain ⟨a1, c1, rfl⟩ := ints_form h1
  obtain ⟨a2, c2, rfl⟩ := ints_form h2
  obtain ⟨a3, c3, rfl⟩ := ints_form h3
  obtain ⟨b, off, c, rfl, hc, hG⟩ := hG
  have ok' : 0 < I.length ∧ I.length ≤ 8 ∧ P.length ≤ 8 ∧ A.length ≤ 4 ∧ B.length ≤ 4 := by
    unfold ok1 okI at ok
    simp at ok
    omega
  obtain ⟨k0, k1, k2, k3, k4⟩ := ok'
  by_cases t : 0 < A.length ∨ 0 < B.length
  · refine ⟨_, fun W => work_ctx a0 a1 a2 a3 _ _ _ _ c0 c1 c2 c3 W t k3 k4, fun W hb => ?_⟩
    refine (replaced_ctx a1 a3 a0 a2 c1 c3 c0 c2 A B I P b off G.length c G W (h1.below hb) (h3.below hb) (h0.below hb) (h2.below hb) (hG.below hb) rfl hc k0 k1 k2 k3 k4 lG).mono ?_
    rintro e w' ⟨va, m, vc, rfl, h⟩
    exact ⟨_, rfl, va, m, vc, rfl, h⟩
  · have eA : A = [] := List.eq_nil_of_length_eq_zero (by omega)
    have eB : B = [] := List.eq_nil_of_length_eq_zero (by omega)
    subst eA eB
    refine ⟨_, fun W => work_plain a0 a1 a2 a3 _ _ c0 c1 c2 c3 W, fun W hb => ?_⟩
    refine (replaced_plain a1 a3 c1 c3 I P b off G.length c G W (h1.below hb) (h3.below hb) (hG.below hb) rfl hc k0 k1 k2 lG).mono ?_
    rintro e w' ⟨va, m, vc, rfl, h⟩
    exact ⟨_, rfl, va, m, vc, rfl, h⟩
/-- A row of glyphs that is not nil, all of whose memory is new since w0. -/
def GN (w0 w : World) (v : Value) (G : List Gl) : Prop := ∃ va m vc, v = .slice va m vc ∧ GD w0 w va m vc G
theorem GN.gv {w0 w : World} {v : Value} {G : List Gl} (h : GN w0 w v G) : GV w v G := by
  obtain ⟨va, m, vc, rfl, h⟩ := h
  exact h.gv
theorem GN.bel {w0 w : World} {v : Value} {G : List Gl} (h : GN w0 w v G) : Below w0.heap.size w0 w := by
  obtain ⟨va, m, vc, rfl, h⟩ := h
  exact h.bel
/-- New since a later world is new since an earlier one. -/
theorem GN.since {w0 w1 w : World} {v : Value} {G : List Gl} (h : GN w1 w v G) (hb : Below w0.heap.size w0 w1) : GN w0 w v G := by
  obtain ⟨va, m, vc, rfl, h⟩ := h
  have hs := hb.size
  refine ⟨va, m, vc, rfl, h.len, h.som, ?_, hb.trans (h.bel.mono hs)⟩
  refine ⟨h.row.1, ?_⟩
  rcases h.row.2 with h' | ⟨g, cap, cur, hv, hg, r⟩
  · exact .inl h'
  · exact .inr ⟨g, cap, cur, hv, by omega, r⟩
theorem GN.form {w0 w : World} {v : Value} {G : List Gl} (h : GN w0 w v G) : ∃ a c, v = .slice a G.length c := by
  obtain ⟨va, m, vc, rfl, h⟩ := h
  rw [h.len]
  exact ⟨_, _, rfl⟩
set_option maxRecDepth 100000 in
set_option maxHeartbeats 8000000 in
theorem ruledBy_any (v gv : Value) (n : Nat) (Q : List (List Int)) (G : List Gl) (w0 w : World) (hv : RuI w v n Q) (ok : okR n Q = true) (hG : GN w0 w gv G) (lG : G.length ≤ 1000) :
    Calls Tryz.prog 26 #[v, gv] w fun e w' => ∃ v', e = .returned v' ∧ GN w0 w' v' (alk Q G n) := by
  obtain ⟨hn, hk⟩ := okR_is ok
  obtain ⟨a, cap, rfl, hf⟩ := hv.form
  have HV := hide hf
  have HK := hide hk
  have HG := hide hG
  obtain ⟨ga, gc, rfl⟩ := hG.form
  have HS := hide (fun k hk h => alk_stop (Q := Q) (G := G) (k := k) (n := n) hk h)
  have HM := hide (fun k h => alk_more (Q := Q) (G := G) (k := k) h)
  clear hv hf hG ok hk
  go_enter Tryz.func26, Tryz.ntmps26
  go_wp2
  go_loopw [1, 9] (fun gv i wr => ∃ (k m : Nat) (ga : Option Addr) (gc : Nat), k ≤ n ∧ i = .int .i64 k ∧ gv = .slice ga m gc ∧ m ≤ 1000 ∧ Hid (m = (alk Q G k).length) ∧ Hid (GN w0 wr (.slice ga m gc) (alk Q G k)) ∧ Hid (Below w.heap.size w wr)) (fun _ i _ => n - (intOf i).toNat)
  case atStart => exact ⟨0, G.length, ga, gc, Nat.zero_le _, rfl, rfl, lG, hide rfl, HG, hide (Below.refl _ _)⟩
  case round =>
    obtain ⟨k, m, ga, gc, hkn, rfl, rfl, hm, HL, HG2, HB⟩ := hrel
    clear HG
    by_cases hlt : k < n
    · have hlt' : (k : Int) < (n : Int) := by omega
      obtain ⟨b, off, rfl, hbs, u0, u1, u2, u3, ⟨x0, x1, x2, x3⟩, i0, i1, i2, i3⟩ := (unhide HV) k hlt
      have d0 := ((unhide HB).cell (p := ⟨b, off + k * 4, none⟩) hbs).trans x0
      have d1 := ((unhide HB).cell (p := ⟨b, off + k * 4 + 1, none⟩) hbs).trans x1
      have d2 := ((unhide HB).cell (p := ⟨b, off + k * 4 + 2, none⟩) hbs).trans x2
      have d3 := ((unhide HB).cell (p := ⟨b, off + k * 4 + 3, none⟩) hbs).trans x3
      have hml := unhide HL
      obtain ⟨rv, C1, C2⟩ := replaced_any u0 u1 u2 u3 _ _ _ _ _ (alk Q G k) wr (i0.below (unhide HB)) (i1.below (unhide HB)) (i2.below (unhide HB)) (i3.below (unhide HB)) (unhide HG2).gv (okk_at hlt (unhide HK)) (by omega)
      have CW := hide C1
      have CR := hide C2
      have HE : Hid (rul (qn Q (k * 4)) (qn Q (k * 4 + 1)) (qn Q (k * 4 + 2)) (qn Q (k * 4 + 3)) (alk Q G k) = alk Q G (k + 1)) := hide ((unhide HM) k (by omega)).symm
      rw [unhide HE] at CR
      obtain ⟨a0, c0, rfl⟩ := ints_form i0
      obtain ⟨a1, c1, rfl⟩ := ints_form i1
      obtain ⟨a2, c2, rfl⟩ := ints_form i2
      obtain ⟨a3, c3, rfl⟩ := ints_form i3
      generalize (qn Q (k * 4)).length = m0 at *
      generalize (qn Q (k * 4 + 1)).length = m1 at *
      generalize (qn Q (k * 4 + 2)).length = m2 at *
      generalize (qn Q (k * 4 + 3)).length = m3 at *
      have hGN := unhide HG2
      have BA := hide ((Below.refl wr.heap.size wr).alloc (Nat.le_refl _) (.cells #[.slice a0 m0 c0, .slice a1 m1 c1, .slice a2 m2 c2, .slice a3 m3 c3] 77))
      have hB0 := hGN.bel
      have H0 := hide hB0
      clear x0 x1 x2 x3 i0 i1 i2 i3 C1 C2 HE hml HL hGN hB0
      go_wp2_with fail
      refine ((unhide CW) _).mono ?_
      rintro e w2 ⟨rfl, hb2⟩
      have B2 := hide ((unhide BA).trans (hb2.mono (unhide BA).size))
      clear hb2 CW
      go_wp2_with fail
      refine ((unhide CR) _ (unhide B2)).mono ?_
      rintro e w3 ⟨v3, rfl, hg3⟩
      have G3 : GN w2 w3 v3 (alk Q G (k + 1)) := hg3
      have HG4 := hide (G3.since ((unhide H0).trans ((unhide B2).mono (unhide H0).size)))
      have HB4 := hide ((unhide HB).trans (((unhide B2).trans (G3.bel.mono (unhide B2).size)).mono (unhide HB).size))
      obtain ⟨ga3, gc3, rfl⟩ := G3.form
      obtain ⟨m', hm'⟩ : ∃ m', m' = (alk Q G (k + 1)).length := ⟨_, rfl⟩
      rw [← hm'] at HG4 ⊢
      have HL4 := hide hm'
      have HM4 := hide (fun h => (unhide HS) (k + 1) (by omega) h)
      clear hg3 G3 CR B2 H0 BA HG2 HB
      by_cases ht : 1000 < m'
      · have ht' : (1000 : Int) < (m' : Int) := by omega
        have e := (unhide HM4) (by omega)
        have HE := hide e
        clear e hm' HL4 HM4
        go_wp2
        go_ret
        exact ⟨_, rfl, by rw [unhide HE]; exact unhide HG4⟩
      · have ht' : ¬ (1000 : Int) < (m' : Int) := by omega
        clear hm' HM4
        go_wp2
        go_roundw
        case rel => exact ⟨k + 1, m', ga3, gc3, by omega, by go_num, rfl, by omega, HL4, HG4, HB4⟩
        case measure => simp [intOf]; omega
    · obtain rfl : k = n := by omega
      go_wp2
      go_ret
      exact ⟨_, rfl, unhide HG2⟩
theorem apl_long {n : Nat} {Q : List (List Int)} {G : List Gl} (h : 1000 < G.length) : apl n Q G = [] := if_neg (fun e => by omega)
theorem apl_bad {n : Nat} {Q : List (List Int)} {G : List Gl} (h : okR n Q = false) : apl n Q G = [] := if_neg (fun e => by rw [h] at e; exact absurd e.2.1 (by simp))
theorem apl_many {n : Nat} {Q : List (List Int)} {G : List Gl} (h : 1000 < (alk Q G n).length) : apl n Q G = [] := if_neg (fun e => by omega)
theorem apl_all {n : Nat} {Q : List (List Int)} {G : List Gl} (h1 : G.length ≤ 1000) (h2 : okR n Q = true) (h3 : (alk Q G n).length ≤ 1000) : apl n Q G = alk Q G n := if_pos ⟨h1, h2, h3⟩
theorem apl_len {n : Nat} {Q : List (List Int)} {G : List Gl} : (apl n Q G).length ≤ 1000 := by
  unfold apl
  split
  · rename_i h; exact h.2.2
  · simp
end Go.Proofs.YtfldomifooihlaaGreatDoor.Rul
/- A row of glyphs copied by append; the program's ApplyRules. -/
namespace Go.Proofs.YtfldomifooihlaaGreatDoor.Rul
open Go.RowKit
set_option linter.unusedVariables false
/-- Behind an append to a row that is not nil there is one that is not nil. -/
theorem app_some {P : Program} (w : World) (t ty e : TypeId) (i : TypeInfo) (z : Value) (size bytes : Nat) (ht : P.underlying t = some (.slice e)) (hi : P.info? e = some i) (hz : i.zero = some z) (hsize : i.size = size) (hby : i.bytes = bytes) (hzs : z.cells.size = size) (hsz : 0 < size)
    (base g cap : Nat) (n : Nat) (xs : List Value) (hown : w.ownsRow base e size (.slice (some ⟨g, 0, none⟩) n cap) n xs) (a : Addr) (m c : Nat) (news : List Value) (hl : news.length = m * size) (hn : ∀ j u, news[j]? = some u → w.cell? (a.add j) = some u) (h1 : ∀ u ∈ news, u.oneCell' = true)
    (h63 : n + m ≤ maxLen) (hbytes : (n + m) * bytes ≤ 140737488355328) (hbase : base ≤ w.heap.size) :
    ∃ g' c' w', (Builtin.append_ #[t, t] ty #[.slice (some ⟨g, 0, none⟩) n cap, .slice (some a) m c]).run P w = .ok (.slice (some ⟨g', 0, none⟩) (n + m) c') w' ∧ w'.ownsRow base e size (.slice (some ⟨g', 0, none⟩) (n + m) c') (n + m) (xs ++ news) ∧ w.grownBy w' (some g) := by
  obtain ⟨v', w', hr, ho, hg, _⟩ := app_blockG (P := P) w t ty e i z size bytes ht hi hz hsize hby hzs hsz base (.slice (some ⟨g, 0, none⟩) n cap) n xs hown a m c news hl hn h1 h63 hbytes hbase
  rcases ho.2 with ⟨hv, h0⟩ | ⟨g', cap', cur, hv, _⟩
  · exfalso
    rcases hown.2 with ⟨hv2, _⟩ | ⟨g2, cap2, cur, hv2, hbg, hgg, hnc, hcm, hcs, htake⟩
    · cases hv2
    · injection hv2 with e1 e2 e3
      injection e1 with e1
      injection e1 with e1
      subst e1 e3
      have hr2 := run_append_room (P := P) w t ty e i ht hi g n cap cur hgg a m c news (by rw [hsize]; exact hl) hn h1 (by omega) (by rw [hsize, hl, ← Nat.add_mul, hcs]; exact Nat.mul_le_mul_right _ (by omega))
      have e : v' = .slice (some ⟨g, 0, none⟩) (n + m) cap := by have := hr.symm.trans hr2; injection this
      rw [hv] at e
      cases e
  · subst hv
    exact ⟨g', cap', w', hr, ho, hg⟩
theorem wpList_appS {P : Program} (w : World) {ops : Array Oper} {rest : List Oper} {o : Oper} {a : Act} {Q : Exit → Act → World → Prop} (hgd : o.guard = none) (s x : Operand) (t : TypeId)
    (ho : o.op = .call { callee := .builtin .append, args := #[s, x], argTypes := #[t, t] })
    (base : Nat) (e : TypeId) (i : TypeInfo) (z : Value) (size bytes : Nat) (ht : P.underlying t = some (.slice e)) (hi : P.info? e = some i) (hz : i.zero = some z) (hsize : i.size = size) (hby : i.bytes = bytes) (hzs : z.cells.size = size) (hsz : 0 < size)
    (g cap : Nat) (n : Nat) (xs : List Value) (hs : a.eval s = .slice (some ⟨g, 0, none⟩) n cap) (hown : w.ownsRow base e size (.slice (some ⟨g, 0, none⟩) n cap) n xs) (ad : Addr) (m c : Nat) (news : List Value) (hx : a.eval x = .slice (some ad) m c) (hl : news.length = m * size) (hn : ∀ j u, news[j]? = some u → w.cell? (ad.add j) = some u) (h1 : ∀ u ∈ news, u.oneCell' = true)
    (h63 : n + m ≤ maxLen) (hbytes : (n + m) * bytes ≤ 140737488355328) (hbase : base ≤ w.heap.size)
    (h : ∀ g' c' w', w'.ownsRow base e size (.slice (some ⟨g', 0, none⟩) (n + m) c') (n + m) (xs ++ news) → w.grownBy w' (some g) → wpList P ops Q rest (a.put o.dst (.slice (some ⟨g', 0, none⟩) (n + m) c')) w') : wpList P ops Q (o :: rest) a w := by
  refine wpList_plain hgd fun K hK => ?_
  obtain ⟨g', c', w', hr, h2, h3⟩ := app_some (P := P) w t o.type e i z size bytes ht hi hz hsize hby hzs hsz base g cap n xs hown ad m c news hl hn h1 h63 hbytes hbase
  unfold Oper.wp execOp
  simp only [ho, resolve, invoke, builtin, Sem.run_bind, Sem.run_pure, Result.andThen_ok, List.map_toArray, List.map_cons, List.map_nil, hs, hx, hr]
  exact hK _ _ (h g' c' w' h2 h3)
theorem ga_news {w : World} {b off n c : Nat} {G : List Gl} (h : GA w (.slice (some ⟨b, off, none⟩) n c) G) : ∀ j u, ((flt G).map (Value.int .i64))[j]? = some u → w.cell? ((⟨b, off, none⟩ : Addr).add j) = some u := by
  intro j u hj
  obtain ⟨a, cap, e, h⟩ := h
  injection e with e1 e2 e3
  rcases h with rfl | ⟨b', off', e4, hb, hc⟩
  · simp [flt] at hj
  · rw [← e1] at e4
    injection e4 with e5
    injection e5 with e6 e7
    subst e6 e7
    rw [List.getElem?_map] at hj
    have hl : j < (flt G).length := by
      by_cases hj2 : j < (flt G).length
      · exact hj2
      · rw [List.getElem?_eq_none (by omega)] at hj; cases hj
    have hl2 := hl
    rw [flt_len] at hl2
    have hn : (flt G)[j]? = some (nth (flt G) j) := by simp [nth, List.getD, hl]
    rw [hn] at hj
    simp at hj
    subst hj
    have := hc j hl2
    have ea : (⟨b, off, none⟩ : Addr).add j = ⟨b, off + j, none⟩ := by
      simp [Addr.add]
    rw [ea]
    exact this
theorem ints_one (L : List Int) : ∀ u ∈ L.map (Value.int .i64), u.oneCell' = true := by
  intro u hu
  obtain ⟨x, _, rfl⟩ := List.mem_map.1 hu
  rfl
/-- What a copy by append to an empty row gives. -/
theorem copy_gn {w w3 : World} {o : Obj} {g' c' n : Nat} {G : List Gl} (hn : n = G.length) (hown : w3.ownsRow w.heap.size 52 5 (.slice (some ⟨g', 0, none⟩) n c') n ((flt G).map (Value.int .i64))) (hgrow : (w.alloc o).grownBy w3 (some w.heap.size)) : GN w w3 (.slice (some ⟨g', 0, none⟩) n c') G := by
  refine ⟨_, _, _, rfl, hn, ⟨_, rfl⟩, hown, ?_⟩
  have b1 := (Below.refl w.heap.size w).alloc (Nat.le_refl _) o
  exact b1.trans ((Below.refl _ _).grown hgrow b1.size (fun k hk => by injection hk with e; omega))
theorem not_nil (x : Addr) (n c : Nat) (W : World) : (binOp BinOp.eql 28 (.slice (some x) n c) (.slice none 0 0)).run Tryz.prog W = .ok (.bool false) W := by kernel_rfl
end Go.Proofs.YtfldomifooihlaaGreatDoor.Rul
/- ApplyRules, as the specification tells it. -/
namespace Go.Proofs.YtfldomifooihlaaGreatDoor.Rul
open Go.RowKit
set_option linter.unusedVariables false
theorem drewN_bel (w : World) (n : Nat) : Below w.heap.size w (w.drewN n) := ⟨rfl, rfl, rfl, Nat.le_refl _, fun _ _ => rfl⟩
theorem fit_no {A I B : List Int} {G D : List Gl} {i : Nat} (h : atq G i I = false ∨ D.length < A.length ∨ atq D (D.length - A.length) A = false ∨ atq G (i + I.length) B = false) : fit A I B G i D = false := by
  unfold fit
  rcases h with h | h | h | h
  · rw [h]; rfl
  · rw [decide_eq_false (by omega)]; simp
  · rw [h]; simp
  · rw [h]; simp
theorem fit_yes {A I B : List Int} {G D : List Gl} {i : Nat} (h1 : atq G i I = true) (h2 : A.length ≤ D.length) (h3 : atq D (D.length - A.length) A = true) (h4 : atq G (i + I.length) B = true) : fit A I B G i D = true := by
  unfold fit
  rw [h1, decide_eq_true h2, h3, h4]; rfl
theorem cell_al {w : World} {a : Addr} {v : Value} (h : w.cell? a = some v) (o : Obj) : (w.alloc o).cell? a = some v := (World.cell?_of_block (Below.heap_alloc w o a.block (block_lt_of_cell h))).trans h
theorem lit_gd (w1 : World) : GD w1 (w1.alloc (.cells #[] 52)) (some ⟨w1.heap.size, 0, none⟩) 0 0 [] :=
  ⟨rfl, ⟨_, rfl⟩, World.ownsRow_lit w1 #[] 0 (Nat.le_refl _) (by unfold maxLen; omega) rfl, (Below.refl _ _).alloc (Nat.le_refl _) _⟩
set_option maxRecDepth 100000 in
set_option maxHeartbeats 8000000 in
theorem l10Rule_any (a0 a1 a2 a3 : Option Addr) (c0 c1 c2 c3 : Nat) (A I B P : List Int) (gv0 : Value) (G : List Gl) (w0 : World)
    (h0 : IntsAt w0 (.slice a0 A.length c0) A) (h1 : IntsAt w0 (.slice a1 I.length c1) I) (h2 : IntsAt w0 (.slice a2 B.length c2) B) (h3 : IntsAt w0 (.slice a3 P.length c3) P)
    (hG : GA w0 gv0 G) (ok : ok1 A I B P = true) (lG : G.length ≤ 100000) :
    Calls Tryz.prog 41 #[.agg #[.slice a0 A.length c0, .slice a1 I.length c1, .slice a2 B.length c2, .slice a3 P.length c3], gv0] w0 fun e w' => ∃ v', e = .returned (.tuple #[v', .bool (decide ((rul A I B P G).length ≤ 1000))]) ∧ GN w0 w' v' (rul A I B P G) := by
  obtain ⟨i0, hi, hz0, hz1, hz2⟩ := info_parts infoG
  have ok' : 0 < I.length ∧ I.length ≤ 8 ∧ P.length ≤ 8 ∧ A.length ≤ 4 ∧ B.length ≤ 4 := by
    unfold ok1 okI at ok
    simp at ok
    omega
  obtain ⟨l0, lI, lP, lA, lB⟩ := ok'
  obtain ⟨ob, hob⟩ : ∃ ob, ob = Obj.cells #[.slice a0 A.length c0, .slice a1 I.length c1, .slice a2 B.length c2, .slice a3 P.length c3] 77 := ⟨_, rfl⟩
  have bel := (Below.refl w0.heap.size w0).alloc (Nat.le_refl _) ob
  have H0 := hide (h0.below bel)
  have H1 := hide (h1.below bel)
  have H2 := hide (h2.below bel)
  have H3 := hide (ints_cells (h3.below bel)).2
  have HG := hide (hG.below bel)
  have HW := hide bel
  obtain ⟨⟨e0, e1, e2, e3⟩, _⟩ := four_cells (show (w0.alloc ob).heap[w0.heap.size]? = some (.cells #[.slice a0 A.length c0, .slice a1 I.length c1, .slice a2 B.length c2, .slice a3 P.length c3] 77 (0, 0)) by rw [hob]; exact heap_new w0 _)
  obtain ⟨ga, gc, rfl, hgf⟩ := hG.form
  have HGF : Hid (∀ k, k < G.length → ∃ b off, ga = some ⟨b, off, none⟩ ∧ b < (w0.alloc ob).heap.size ∧ Five (w0.alloc ob) b (off + k * 5) (gat G k)) := hide (fun k hk => by
    obtain ⟨b, off, e, hb, hF⟩ := hgf k hk
    exact ⟨b, off, e, Nat.lt_of_lt_of_le hb bel.size, hF.below bel hb⟩)
  have HIT := hide (fun k => itr_le (A := A) (B := B) l0 lP G k)
  have HEnd := hide (fun k i D h hh => rul_is (A := A) (B := B) (P := P) l0 (G := G) (k := k) (i := i) (D := D) h hh)
  have HFit := hide (fun k i D h hh hf => itr_fit (A := A) (I := I) (B := B) (P := P) (G := G) (k := k) (i := i) (D := D) h hh hf)
  have HNot := hide (fun k i D h hh hf => itr_not (A := A) (I := I) (B := B) (P := P) (G := G) (k := k) (i := i) (D := D) h hh hf)
  have HD1 := hide (lit_gd (w0.alloc ob))
  have hws : (w0.alloc ob).heap.size = w0.heap.size + 1 := by simp
  have HZ : Hid (GD (w0.alloc ob) ((w0.alloc ob).alloc (.cells #[] 52)) (some ⟨w0.heap.size + 1, 0, none⟩) 0 0 []) := hide (by have := unhide HD1; rw [hws] at this; exact this)
  have lG6 : G.length ≤ 1048576 := by omega
  have hqw : w0.heap.size < (w0.alloc ob).heap.size := by simp
  clear h0 h1 h2 h3 hG ok hgf bel HD1 hws
  generalize hq : w0.heap.size = q at e0 e1 e2 e3 hqw
  have HQ := hide hq
  obtain ⟨Z, hrul⟩ : ∃ Z, rul A I B P G = Z := ⟨_, rfl⟩
  rw [hrul]
  have HRUL := hide hrul
  clear hrul
  go_enter Tryz.func41, Tryz.ntmps41
  go_wp2
  rw [← hob]
  try rw [unhide HQ]
  have HZ2 : Hid (GD (w0.alloc ob) ((w0.alloc ob).alloc (.cells #[] 52)) (some ⟨q + 1, 0, none⟩) 0 0 []) := hide (by have := unhide HZ; rw [unhide HQ] at this; exact this)
  clear hq hob HZ
  generalize w0.alloc ob = wx at *
  go_loopw [6, 7] (fun dv iv wr => ∃ (k i : Nat) (D : List Gl) (va : Option Addr) (m vc : Nat), dv = .slice va m vc ∧ iv = .int .i64 i ∧ i ≤ G.length ∧ Hid (itr A I B P G k = (i, D)) ∧ Hid (GD wx wr va m vc D)) (fun _ iv _ => G.length - (intOf iv).toNat)
  case atStart => exact ⟨0, 0, [], _, 0, 0, rfl, rfl, Nat.zero_le _, hide rfl, HZ2⟩
  case round =>
    obtain ⟨k, i, D, va, m, vc, rfl, rfl, hiG, HK, HD⟩ := hrel
    clear HZ2
    by_cases hlt : i < G.length
    · have hlt' : (i : Int) < (G.length : Int) := by omega
      obtain ⟨hDi, hDl⟩ : i ≤ G.length ∧ D.length ≤ 8 * i := by
        have := (unhide HIT) k
        rw [unhide HK] at this
        exact this
      have hml : m = D.length := (unhide HD).len
      have lD : D.length ≤ 1048576 := by omega
      have hm : m ≤ 1048000 := by omega
      have hqr : q < wr.heap.size := Nat.lt_of_lt_of_le hqw (unhide HD).bel.size
      have d0 := ((unhide HD).bel.cell (p := ⟨q, 0, none⟩) hqw).trans e0
      have d1 := ((unhide HD).bel.cell (p := ⟨q, 1, none⟩) hqw).trans e1
      have d2 := ((unhide HD).bel.cell (p := ⟨q, 2, none⟩) hqw).trans e2
      obtain ⟨gb, goff, rfl, hbG, hF⟩ := (unhide HGF) i hlt
      have C1 := hide (l10At_any _ (.slice a1 I.length c1) G I i wr ((unhide HG).below (unhide HD).bel) ((unhide H1).below (unhide HD).bel) lG6 (by omega) (by omega))
      obtain ⟨gv0, hgv⟩ : ∃ gv0 : Value, gv0 = .slice (some ⟨gb, goff, none⟩) G.length gc := ⟨_, rfl⟩
      cases y1 : atq G i I
      · rw [y1] at C1
        have HK2 := hide ((unhide HNot) k i D (unhide HK) hlt (fit_no (.inl y1)))
        clear hml hDl hDi
        go_wp2_with fail
        refine (unhide C1).mono ?_
        rintro e w2 ⟨rfl, hb2⟩
        have HD2 := hide ((unhide HD).below hb2)
        have d20 := (hb2.cell (p := ⟨q, 0, none⟩) hqr).trans d0
        have d21 := (hb2.cell (p := ⟨q, 1, none⟩) hqr).trans d1
        have d22 := (hb2.cell (p := ⟨q, 2, none⟩) hqr).trans d2
        have hq2 := Nat.lt_of_lt_of_le hqr hb2.size
        clear hb2 C1
        have HD4 := HD2
        have bf := (unhide HD4).bel
        obtain ⟨g0, g1, g2, g3, g4⟩ := hF.below bf hbG
        go_wp2_with (at_builtin; go_loud (refine wpList_appG _ rfl _ _ 28 rfl wx.heap.size 52 i0 (.agg #[.int .i64 0, .int .i64 0, .int .i64 0, .int .i64 0, .int .i64 0]) 5 40 Tryz.underlying28 hi hz0 hz1 hz2 rfl (by decide) _ _ _ rfl (World.ownsRow.alloc (unhide HD4).row _) ⟨w2.heap.size, 0, none⟩ 1 1 (cv (gat G i)) rfl rfl (five_new w2 (gat G i)) (five_one _) (by unfold maxLen; omega) (by omega) (by have := bf.size; simp at this ⊢; omega) ?_))
        intro v' w5 hown' hgrow hblk
        obtain ⟨va5, vc5, rfl, HG5⟩ := (unhide HD4).app (g := gat G i) hown' hgrow
        have HG6 := hide HG5
        clear HG5 hown' hgrow hblk HD4
        go_wp2
        go_roundw
        case rel => exact ⟨k + 1, i + 1, D ++ [gat G i], va5, m + 1, vc5, rfl, by go_num, by omega, HK2, HG6⟩
        case measure => simp [intOf]; omega
      · rw [y1] at C1
        have hle := atq_le y1
        by_cases t : D.length < A.length
        · obtain ⟨z, hz⟩ : ∃ z : Int, (m : Int) - (A.length : Int) = z := ⟨_, rfl⟩
          have hz0' : z < 0 := by omega
          have hw : IntKind.i64.wrap z = z := wrap_inR _ (by omega) (by omega)
          have HK2 := hide ((unhide HNot) k i D (unhide HK) hlt (fit_no (.inr (.inl t))))
          clear hml hDl hDi
          go_wp2_with fail
          refine (unhide C1).mono ?_
          rintro e w2 ⟨rfl, hb2⟩
          have HD2 := hide ((unhide HD).below hb2)
          have d20 := (hb2.cell (p := ⟨q, 0, none⟩) hqr).trans d0
          have d21 := (hb2.cell (p := ⟨q, 1, none⟩) hqr).trans d1
          have d22 := (hb2.cell (p := ⟨q, 2, none⟩) hqr).trans d2
          have hq2 := Nat.lt_of_lt_of_le hqr hb2.size
          clear hb2 C1
          have C2 := hide (l10At_neg (.slice va m vc) (.slice a0 A.length c0) D A z w2 (unhide HD2).gr.ga ((unhide H0).below (unhide HD2).bel) hz0')
          go_wp2_with fail
          refine (unhide C2).mono ?_
          rintro e w3 ⟨rfl, e3⟩
          have f3 := e3.symm
          subst f3
          clear e3 C2
          have HD4 := HD2
          have bf := (unhide HD4).bel
          obtain ⟨g0, g1, g2, g3, g4⟩ := hF.below bf hbG
          go_wp2_with (at_builtin; go_loud (refine wpList_appG _ rfl _ _ 28 rfl wx.heap.size 52 i0 (.agg #[.int .i64 0, .int .i64 0, .int .i64 0, .int .i64 0, .int .i64 0]) 5 40 Tryz.underlying28 hi hz0 hz1 hz2 rfl (by decide) _ _ _ rfl (World.ownsRow.alloc (unhide HD4).row _) ⟨w2.heap.size, 0, none⟩ 1 1 (cv (gat G i)) rfl rfl (five_new w2 (gat G i)) (five_one _) (by unfold maxLen; omega) (by omega) (by have := bf.size; simp at this ⊢; omega) ?_))
          intro v' w5 hown' hgrow hblk
          obtain ⟨va5, vc5, rfl, HG5⟩ := (unhide HD4).app (g := gat G i) hown' hgrow
          have HG6 := hide HG5
          clear HG5 hown' hgrow hblk HD4
          go_wp2
          go_roundw
          case rel => exact ⟨k + 1, i + 1, D ++ [gat G i], va5, m + 1, vc5, rfl, by go_num, by omega, HK2, HG6⟩
          case measure => simp [intOf]; omega
        · obtain ⟨f, hf⟩ : ∃ f : Nat, f = D.length - A.length := ⟨_, rfl⟩
          have hfi : (m : Int) - (A.length : Int) = (f : Int) := by omega
          have hfw : IntKind.i64.wrap (f : Int) = (f : Int) := wrap_inR _ (by omega) (by omega)
          have hf6 : f ≤ 2097152 := by omega
          cases y2 : atq D f A
          · have y2' := y2
            rw [hf] at y2'
            have HK2 := hide ((unhide HNot) k i D (unhide HK) hlt (fit_no (.inr (.inr (.inl y2')))))
            clear hml hDl hDi
            clear hf y2'
            go_wp2_with fail
            refine (unhide C1).mono ?_
            rintro e w2 ⟨rfl, hb2⟩
            have HD2 := hide ((unhide HD).below hb2)
            have d20 := (hb2.cell (p := ⟨q, 0, none⟩) hqr).trans d0
            have d21 := (hb2.cell (p := ⟨q, 1, none⟩) hqr).trans d1
            have d22 := (hb2.cell (p := ⟨q, 2, none⟩) hqr).trans d2
            have hq2 := Nat.lt_of_lt_of_le hqr hb2.size
            clear hb2 C1
            have C2 := hide (l10At_any (.slice va m vc) (.slice a0 A.length c0) D A f w2 (unhide HD2).gr.ga ((unhide H0).below (unhide HD2).bel) lD (by omega) (by omega))
            rw [y2] at C2
            go_wp2_with fail
            refine (unhide C2).mono ?_
            rintro e w3 ⟨rfl, hb3⟩
            have HD3 := hide ((unhide HD2).below hb3)
            have d31 := (hb3.cell (p := ⟨q, 1, none⟩) hq2).trans d21
            have d32 := (hb3.cell (p := ⟨q, 2, none⟩) hq2).trans d22
            clear hb3 C2
            have HD4 := HD3
            have bf := (unhide HD4).bel
            obtain ⟨g0, g1, g2, g3, g4⟩ := hF.below bf hbG
            go_wp2_with (at_builtin; go_loud (refine wpList_appG _ rfl _ _ 28 rfl wx.heap.size 52 i0 (.agg #[.int .i64 0, .int .i64 0, .int .i64 0, .int .i64 0, .int .i64 0]) 5 40 Tryz.underlying28 hi hz0 hz1 hz2 rfl (by decide) _ _ _ rfl (World.ownsRow.alloc (unhide HD4).row _) ⟨w3.heap.size, 0, none⟩ 1 1 (cv (gat G i)) rfl rfl (five_new w3 (gat G i)) (five_one _) (by unfold maxLen; omega) (by omega) (by have := bf.size; simp at this ⊢; omega) ?_))
            intro v' w5 hown' hgrow hblk
            obtain ⟨va5, vc5, rfl, HG5⟩ := (unhide HD4).app (g := gat G i) hown' hgrow
            have HG6 := hide HG5
            clear HG5 hown' hgrow hblk HD4
            go_wp2
            go_roundw
            case rel => exact ⟨k + 1, i + 1, D ++ [gat G i], va5, m + 1, vc5, rfl, by go_num, by omega, HK2, HG6⟩
            case measure => simp [intOf]; omega
          · have y2' := y2
            rw [hf] at y2'
            obtain ⟨p, hp⟩ : ∃ p : Nat, p = i + I.length := ⟨_, rfl⟩
            have hpi : (i : Int) + (I.length : Int) = (p : Int) := by omega
            have hpw : IntKind.i64.wrap (p : Int) = (p : Int) := wrap_inR _ (by omega) (by omega)
            cases y3 : atq G p B
            · have y3' := y3
              rw [hp] at y3'
              have HK2 := hide ((unhide HNot) k i D (unhide HK) hlt (fit_no (.inr (.inr (.inr y3')))))
              clear hml hDl hDi
              have hp6 : p ≤ 2097152 := by omega
              clear hf y2' hp y3'
              go_wp2_with fail
              refine (unhide C1).mono ?_
              rintro e w2 ⟨rfl, hb2⟩
              have HD2 := hide ((unhide HD).below hb2)
              have d20 := (hb2.cell (p := ⟨q, 0, none⟩) hqr).trans d0
              have d21 := (hb2.cell (p := ⟨q, 1, none⟩) hqr).trans d1
              have d22 := (hb2.cell (p := ⟨q, 2, none⟩) hqr).trans d2
              have hq2 := Nat.lt_of_lt_of_le hqr hb2.size
              clear hb2 C1
              have C2 := hide (l10At_any (.slice va m vc) (.slice a0 A.length c0) D A f w2 (unhide HD2).gr.ga ((unhide H0).below (unhide HD2).bel) lD (by omega) (by omega))
              rw [y2] at C2
              go_wp2_with fail
              refine (unhide C2).mono ?_
              rintro e w3 ⟨rfl, hb3⟩
              have HD3 := hide ((unhide HD2).below hb3)
              have d31 := (hb3.cell (p := ⟨q, 1, none⟩) hq2).trans d21
              have d32 := (hb3.cell (p := ⟨q, 2, none⟩) hq2).trans d22
              clear hb3 C2
              have C3 := hide (l10At_any (.slice (some ⟨gb, goff, none⟩) G.length gc) (.slice a2 B.length c2) G B p w3 ((unhide HG).below (unhide HD3).bel) ((unhide H2).below (unhide HD3).bel) lG6 (by omega) (by omega))
              rw [y3] at C3
              go_wp2_with fail
              refine (unhide C3).mono ?_
              rintro e w4 ⟨rfl, hb4⟩
              have HD4 := hide ((unhide HD3).below hb4)
              clear hb4 C3
              have bf := (unhide HD4).bel
              obtain ⟨g0, g1, g2, g3, g4⟩ := hF.below bf hbG
              go_wp2_with (at_builtin; go_loud (refine wpList_appG _ rfl _ _ 28 rfl wx.heap.size 52 i0 (.agg #[.int .i64 0, .int .i64 0, .int .i64 0, .int .i64 0, .int .i64 0]) 5 40 Tryz.underlying28 hi hz0 hz1 hz2 rfl (by decide) _ _ _ rfl (World.ownsRow.alloc (unhide HD4).row _) ⟨w4.heap.size, 0, none⟩ 1 1 (cv (gat G i)) rfl rfl (five_new w4 (gat G i)) (five_one _) (by unfold maxLen; omega) (by omega) (by have := bf.size; simp at this ⊢; omega) ?_))
              intro v' w5 hown' hgrow hblk
              obtain ⟨va5, vc5, rfl, HG5⟩ := (unhide HD4).app (g := gat G i) hown' hgrow
              have HG6 := hide HG5
              clear HG5 hown' hgrow hblk HD4
              go_wp2
              go_roundw
              case rel => exact ⟨k + 1, i + 1, D ++ [gat G i], va5, m + 1, vc5, rfl, by go_num, by omega, HK2, HG6⟩
              case measure => simp [intOf]; omega
            · have y3' := y3
              rw [hp] at y3'
              have HK2 := hide ((unhide HFit) k i D (unhide HK) hlt (fit_yes y1 (by omega) y2' y3'))
              have hpG : p ≤ G.length := by omega
              have hpl : i < p := by omega
              rw [← hp] at HK2
              have hp6 : p ≤ 2097152 := by omega
              clear hml hDl hDi hf y2' hp y3'
              go_wp2_with fail
              refine (unhide C1).mono ?_
              rintro e w2 ⟨rfl, hb2⟩
              have HD2 := hide ((unhide HD).below hb2)
              have d20 := (hb2.cell (p := ⟨q, 0, none⟩) hqr).trans d0
              have d21 := (hb2.cell (p := ⟨q, 1, none⟩) hqr).trans d1
              have d22 := (hb2.cell (p := ⟨q, 2, none⟩) hqr).trans d2
              have hq2 := Nat.lt_of_lt_of_le hqr hb2.size
              clear hb2 C1
              have C2 := hide (l10At_any (.slice va m vc) (.slice a0 A.length c0) D A f w2 (unhide HD2).gr.ga ((unhide H0).below (unhide HD2).bel) lD (by omega) (by omega))
              rw [y2] at C2
              go_wp2_with fail
              refine (unhide C2).mono ?_
              rintro e w3 ⟨rfl, hb3⟩
              have HD3 := hide ((unhide HD2).below hb3)
              have d31 := (hb3.cell (p := ⟨q, 1, none⟩) hq2).trans d21
              have d32 := (hb3.cell (p := ⟨q, 2, none⟩) hq2).trans d22
              clear hb3 C2
              have C3 := hide (l10At_any (.slice (some ⟨gb, goff, none⟩) G.length gc) (.slice a2 B.length c2) G B p w3 ((unhide HG).below (unhide HD3).bel) ((unhide H2).below (unhide HD3).bel) lG6 (by omega) (by omega))
              rw [y3] at C3
              go_wp2_with fail
              refine (unhide C3).mono ?_
              rintro e w4 ⟨rfl, hb4⟩
              have HD4 := hide ((unhide HD3).below hb4)
              clear hb4 C3
              have HP0 : Hid (GD wx w4 va m vc (ptk D P (gat G i) 0)) := hide (by have := unhide HD4; unfold ptk; rw [List.take_zero, List.map_nil, List.append_nil]; exact this)
              clear HD4 HD d0 d1 d2 d20 d21 d22 d31 d32 hq2 hqr
              go_wp2
              go_loopw [6, 8] (fun dv jv wq => ∃ (j mk : Nat) (va' : Option Addr) (vc' : Nat), dv = .slice va' mk vc' ∧ jv = .int .i64 j ∧ j ≤ P.length ∧ mk ≤ 1048000 + j ∧ Hid (GD wx wq va' mk vc' (ptk D P (gat G i) j))) (fun _ jv _ => P.length - (intOf jv).toNat)
              case atStart => exact ⟨0, m, va, vc, rfl, rfl, Nat.zero_le _, by omega, HP0⟩
              case round =>
                obtain ⟨j, mk, va', vc', rfl, rfl, hjP, hmk, HE⟩ := hrel
                clear HP0
                have bq := (unhide HE).bel
                have s1 := (bq.cell (p := ⟨q, 1, none⟩) hqw).trans e1
                have s3 := (bq.cell (p := ⟨q, 3, none⟩) hqw).trans e3
                by_cases hj : j < P.length
                · have hj' : (j : Int) < (P.length : Int) := by omega
                  obtain ⟨pb, poff, rfl, hpb, hpc⟩ := (unhide H3) j hj
                  have s4 := (bq.cell (p := ⟨pb, poff + j, none⟩) hpb).trans hpc
                  obtain ⟨g0, g1, g2, g3, g4⟩ := hF.below bq hbG
                  have HT := hide (map_take hj (gat G i) D)
                  have hj0 : (0 : Int) ≤ (j : Int) := by omega
                  have hi0 : (0 : Int) ≤ (i : Int) := by omega
                  have hws := bq.size
                  have HEd := hide ((unhide HE).below (drewN_bel wr 1))
                  clear hpc
                  generalize nth P j = y at *
                  go_upto_region 10 with fail
                  have t1 := cell_al s1 (.cells #[.int .i64 y, .int .i64 (gat G i).2.1, .int .i64 (gat G i).2.2.1, .int .i64 0, .int .i64 0] 52)
                  have t3 := cell_al s3 (.cells #[.int .i64 y, .int .i64 (gat G i).2.1, .int .i64 (gat G i).2.2.1, .int .i64 0, .int .i64 0] 52)
                  go_region_law (refine step_append_own rfl (.tmp 61) (.tmp 78) 28 rfl wx.heap.size 52 i0 (.agg #[.int .i64 0, .int .i64 0, .int .i64 0, .int .i64 0, .int .i64 0]) 5 40 Tryz.underlying28 hi hz0 hz1 hz2 rfl (by decide) (.slice va' mk vc') mk ((flt (ptk D P (gat G i) j)).map (Value.int .i64)) (by simp [Act.eval]) (World.ownsRow.alloc (unhide HEd).row _) ⟨wr.heap.size, 0, none⟩ 1 1 (cv (mkg (gat G i) y)) (by simp [Act.eval]) rfl (five_new (wr.drewN 1) (mkg (gat G i) y)) (five_one _) (by unfold maxLen; omega) (by omega) (by have := (unhide HEd).bel.size; simp at this ⊢; omega) ?_; intro v' w5 hown' hgrow)
                  all_goals
                    obtain ⟨va5, vc5, rfl, HG5⟩ := (unhide HEd).app (g := mkg (gat G i) y) hown' hgrow
                    have HG6 : Hid (GD wx w5 va5 (mk + 1) vc5 (ptk D P (gat G i) (j + 1))) := hide (by rw [← unhide HT]; exact HG5)
                    clear HG5 hown' hgrow HE HEd
                    go_simp
                    go_wp2
                    go_roundw
                    case rel => exact ⟨j + 1, mk + 1, va5, vc5, rfl, by go_num, by omega, by omega, HG6⟩
                    case measure => simp [intOf]; omega
                · obtain rfl : j = P.length := by omega
                  have HG6 : Hid (GD wx wr va' mk vc' (D ++ P.map (mkg (gat G i)))) := hide (by have := unhide HE; unfold ptk at this; rw [List.take_length] at this; exact this)
                  clear HE
                  go_wp2
                  go_roundw
                  case rel => exact ⟨k + 1, p, D ++ P.map (mkg (gat G i)), va', mk, vc', rfl, by go_num, hpG, HK2, HG6⟩
                  case measure => simp [intOf]; omega
    · obtain rfl : i = G.length := by omega
      have HE := hide ((unhide HEnd) k G.length D (unhide HK) (by omega))
      have hml : m = Z.length := by rw [← unhide HRUL, unhide HE]; exact (unhide HD).len
      have HR : Hid (GN w0 wr (.slice va m vc) Z) := hide (by rw [← unhide HRUL, unhide HE]; exact GN.since ⟨_, _, _, rfl, unhide HD⟩ (unhide HW))
      have HL : Hid (decide (Z.length ≤ 1000) = decide ((m : Int) ≤ 1000)) := hide (decide_eq_decide.2 (by omega))
      clear hml HE
      go_wp2
      go_returns
      exact ⟨_, (by rw [unhide HL]; first | done | rfl), unhide HR⟩
end Go.Proofs.YtfldomifooihlaaGreatDoor.Rul
/- ApplyRules of the specification, whole. -/
namespace Go.Proofs.YtfldomifooihlaaGreatDoor.Rul
open Go.RowKit
set_option linter.unusedVariables false
theorem rule_at (u0 u1 u2 u3 : Value) (A I B P : List Int) (gv : Value) (G : List Gl) (w : World) (h0 : IntsAt w u0 A) (h1 : IntsAt w u1 I) (h2 : IntsAt w u2 B) (h3 : IntsAt w u3 P) (hG : GA w gv G) (ok : ok1 A I B P = true) (lG : G.length ≤ 100000) :
    Calls Tryz.prog 41 #[.agg #[u0, u1, u2, u3], gv] w fun e w' => ∃ v', e = .returned (.tuple #[v', .bool (decide ((rul A I B P G).length ≤ 1000))]) ∧ GN w w' v' (rul A I B P G) := by
  obtain ⟨a0, c0, rfl⟩ := ints_form h0
  obtain ⟨a1, c1, rfl⟩ := ints_form h1
  obtain ⟨a2, c2, rfl⟩ := ints_form h2
  obtain ⟨a3, c3, rfl⟩ := ints_form h3
  exact l10Rule_any a0 a1 a2 a3 c0 c1 c2 c3 A I B P gv G w h0 h1 h2 h3 hG ok lG
set_option maxRecDepth 100000 in
set_option maxHeartbeats 8000000 in
theorem l10Apply_any (v gv : Value) (n : Nat) (Q : List (List Int)) (G : List Gl) (w0 w : World) (hv : RuI w v n Q) (ok : okR n Q = true) (hG : GN w0 w gv G) (lG : G.length ≤ 1000) :
    Calls Tryz.prog 17 #[v, gv] w fun e w' => ∃ v', e = .returned (.tuple #[v', .bool (decide ((alk Q G n).length ≤ 1000))]) ∧ GN w0 w' v' (alk Q G n) := by
  obtain ⟨hn, hk⟩ := okR_is ok
  obtain ⟨a, cap, rfl, hf⟩ := hv.form
  have HV := hide hf
  have HK := hide hk
  have HG := hide hG
  obtain ⟨ga, gc, rfl⟩ := hG.form
  have HS := hide (fun k hk h => alk_stop (Q := Q) (G := G) (k := k) (n := n) hk h)
  have HM := hide (fun k h => alk_more (Q := Q) (G := G) (k := k) h)
  obtain ⟨Z, hZ⟩ : ∃ Z, alk Q G n = Z := ⟨_, rfl⟩
  rw [hZ]
  have HZ := hide hZ
  clear hv hf hG ok hk hZ
  go_enter Tryz.func17, Tryz.ntmps17
  go_wp2
  go_loopw [1, 6, 7] (fun gv kv i wr => ∃ (k m : Nat) (ga : Option Addr) (gc : Nat) (o : Bool), k ≤ n ∧ i = .int .i64 k ∧ kv = .bool o ∧ gv = .slice ga m gc ∧ Hid (o = decide (m ≤ 1000)) ∧ Hid (m = (alk Q G k).length) ∧ Hid (GN w0 wr (.slice ga m gc) (alk Q G k)) ∧ Hid (Below w.heap.size w wr)) (fun _ _ i _ => n - (intOf i).toNat)
  case atStart => exact ⟨0, G.length, ga, gc, true, Nat.zero_le _, rfl, rfl, rfl, hide (decide_eq_true lG).symm, hide rfl, HG, hide (Below.refl _ _)⟩
  case round =>
    obtain ⟨k, m, ga, gc, o, hkn, rfl, rfl, rfl, HO, HL, HG2, HB⟩ := hrel
    clear HG
    have ho := unhide HO
    have hml := unhide HL
    by_cases hlt : k < n
    · have hlt' : (k : Int) < (n : Int) := by omega
      by_cases ht : m ≤ 1000
      · obtain rfl : o = true := by rw [ho]; exact decide_eq_true ht
        obtain ⟨b, off, rfl, hbs, u0, u1, u2, u3, ⟨x0, x1, x2, x3⟩, i0, i1, i2, i3⟩ := (unhide HV) k hlt
        have d0 := ((unhide HB).cell (p := ⟨b, off + k * 4, none⟩) hbs).trans x0
        have d1 := ((unhide HB).cell (p := ⟨b, off + k * 4 + 1, none⟩) hbs).trans x1
        have d2 := ((unhide HB).cell (p := ⟨b, off + k * 4 + 2, none⟩) hbs).trans x2
        have d3 := ((unhide HB).cell (p := ⟨b, off + k * 4 + 3, none⟩) hbs).trans x3
        have CR := hide (rule_at u0 u1 u2 u3 _ _ _ _ (.slice ga m gc) (alk Q G k) wr (i0.below (unhide HB)) (i1.below (unhide HB)) (i2.below (unhide HB)) (i3.below (unhide HB)) (by obtain ⟨_, _, _, _, _, h⟩ := (unhide HG2).gv; exact h) (okk_at hlt (unhide HK)) (by omega))
        have HE : Hid (rul (qn Q (k * 4)) (qn Q (k * 4 + 1)) (qn Q (k * 4 + 2)) (qn Q (k * 4 + 3)) (alk Q G k) = alk Q G (k + 1)) := hide ((unhide HM) k (by omega)).symm
        rw [unhide HE] at CR
        obtain ⟨a0, c0, rfl⟩ := ints_form i0
        obtain ⟨a1, c1, rfl⟩ := ints_form i1
        obtain ⟨a2, c2, rfl⟩ := ints_form i2
        obtain ⟨a3, c3, rfl⟩ := ints_form i3
        have H0 := hide (unhide HG2).bel
        clear x0 x1 x2 x3 i0 i1 i2 i3 HE ho hml HO HL
        generalize (qn Q (k * 4)).length = m0 at *
        generalize (qn Q (k * 4 + 1)).length = m1 at *
        generalize (qn Q (k * 4 + 2)).length = m2 at *
        generalize (qn Q (k * 4 + 3)).length = m3 at *
        go_wp2_with fail
        refine (unhide CR).mono ?_
        rintro e w3 ⟨v3, rfl, G3⟩
        have HG4 := hide (G3.since (unhide H0))
        have HB4 := hide ((unhide HB).trans (G3.bel.mono (unhide HB).size))
        obtain ⟨ga3, gc3, rfl⟩ := G3.form
        obtain ⟨m', hm'⟩ : ∃ m', m' = (alk Q G (k + 1)).length := ⟨_, rfl⟩
        rw [← hm'] at HG4 ⊢
        obtain ⟨o', ho'⟩ : ∃ o', o' = decide (m' ≤ 1000) := ⟨_, rfl⟩
        rw [← ho']
        have HL4 := hide hm'
        have HO4 := hide ho'
        clear G3 CR H0 HG2 HB hm' ho'
        go_wp2
        go_roundw
        case rel => exact ⟨k + 1, m', ga3, gc3, o', by omega, by go_num, rfl, rfl, HO4, HL4, HG4, HB4⟩
        case measure => simp [intOf]; omega
      · obtain rfl : o = false := by rw [ho]; exact decide_eq_false ht
        have HE := hide ((unhide HS) k (by omega) (by omega))
        have HR : Hid (GN w0 wr (.slice ga m gc) Z) := hide (by rw [← unhide HZ, unhide HE]; exact unhide HG2)
        have HF : Hid (decide (Z.length ≤ 1000) = false) := hide (by rw [← unhide HZ, unhide HE]; exact decide_eq_false (by omega))
        clear ho hml HO HL HG2 HE
        go_wp2
        go_returns
        exact ⟨_, (by rw [unhide HF]; first | done | rfl), unhide HR⟩
    · obtain rfl : k = n := by omega
      have HR : Hid (GN w0 wr (.slice ga m gc) Z) := hide (by rw [← unhide HZ]; exact unhide HG2)
      have hlt' : ¬ (k : Int) < (k : Int) := by omega
      by_cases ht : m ≤ 1000
      · obtain rfl : o = true := by rw [ho]; exact decide_eq_true ht
        have ht' : (m : Int) ≤ 1000 := by omega
        have HF : Hid (decide (Z.length ≤ 1000) = true) := hide (by rw [← unhide HZ]; exact decide_eq_true (by omega))
        clear ho hml HO HL HG2
        go_wp2
        go_returns
        exact ⟨_, (by rw [unhide HF]; first | done | rfl), unhide HR⟩
      · obtain rfl : o = false := by rw [ho]; exact decide_eq_false ht
        have HF : Hid (decide (Z.length ≤ 1000) = false) := hide (by rw [← unhide HZ]; exact decide_eq_false (by omega))
        clear ho hml HO HL HG2
        go_wp2
        go_returns
        exact ⟨_, (by rw [unhide HF]; first | done | rfl), unhide HR⟩
theorem lit_gr (w0 w : World) (h : w0.heap.size ≤ w.heap.size) : GR (w.alloc (.cells #[] 52)) w0.heap.size (.slice (some ⟨w.heap.size, 0, none⟩) 0 0) [] := World.ownsRow_lit w #[] 0 h (by unfold maxLen; omega) rfl
end Go.Proofs.YtfldomifooihlaaGreatDoor.Rul
