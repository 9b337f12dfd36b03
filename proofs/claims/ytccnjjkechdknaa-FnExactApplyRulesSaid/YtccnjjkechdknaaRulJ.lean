/- A rule done on a row of glyphs: the program's replaced. -/
import Derived.Test.YtccnjjkechdknaaRulH
import Derived.OwnWalk
namespace Go.Proofs.Ytccnjjkechdknaa.Rul
open Go.RowKit
set_option linter.unusedVariables false
def lenV : Value → Nat
  | .slice _ n _ => n
  | _ => 0
set_option maxRecDepth 100000 in
set_option maxHeartbeats 8000000 in
theorem replaced_plain (ai ap : Option Addr) (ci cp : Nat) (I P : List Int) (b off n c : Nat) (G : List Gl) (w0 : World)
    (hI : IntsAt w0 (.slice ai I.length ci) I) (hP : IntsAt w0 (.slice ap P.length cp) P)
    (hG : GA w0 (.slice (some ⟨b, off, none⟩) n c) G) (hn : n = G.length) (hnc : n ≤ c) (l0 : 0 < I.length) (lI : I.length ≤ 8) (lP : P.length ≤ 8) (lG : G.length ≤ 100000) :
    Calls Try.prog 54 #[.iface 104 (.agg #[.slice ai I.length ci, .slice ap P.length cp]), .slice (some ⟨b, off, none⟩) n c] w0 fun e w' => ∃ va m vc, e = .returned (.slice va m vc) ∧ GD w0 w' va m vc (rul [] I [] P G) := by
  obtain ⟨i0, hi, hz0, hz1, hz2⟩ := info_parts infoG
  have M1 := fun W => meth_takenP (.slice ai I.length ci) (.slice ap P.length cp) W
  have M2 := fun W => meth_putP (.slice ai I.length ci) (.slice ap P.length cp) W
  have CT := hide (fun W => taken_any ai ap I.length P.length ci cp W)
  have CP := hide (fun W => put_any ai ap I.length P.length ci cp W)
  have HI := hide hI
  have HP := hide hP
  have HG0 := hide hG
  have HIT := hide (fun k => itr_le (A := []) (B := []) l0 lP G k)
  have HEnd := hide (fun k i D h hh => rul_is (A := []) (B := []) (P := P) l0 (G := G) (k := k) (i := i) (D := D) h hh)
  have HFit := hide (fun k i D h hh hf => itr_fit (A := []) (I := I) (B := []) (P := P) (G := G) (k := k) (i := i) (D := D) h hh hf)
  have HNot := hide (fun k i D h hh hf => itr_not (A := []) (I := I) (B := []) (P := P) (G := G) (k := k) (i := i) (D := D) h hh hf)
  have HN := hide hn
  have l0' : (0 : Int) ≤ (I.length : Int) := by omega
  have hnb : n ≤ 100000 := by omega
  clear hI hP hG hn
  go_enter Try.func54, Try.ntmps54
  go_wp2_with (at_make; refine wpList_make_own _ rfl _ _ 40 rfl w0.heap.size 71 i0 (.agg #[.int .i64 0, .int .i64 0, .int .i64 0, .int .i64 0, .int .i64 0]) 5 Try.underlying40 hi hz0 hz1 .i64 .i64 _ n rfl rfl rfl ?b2 ?b3 ?b4 ?_)
  case b2 => rw [hz2]; omega
  case b3 => unfold maxLen; omega
  case b4 => omega
  intro w1 hown hgrow
  have HD1 : Hid (GD w0 w1 (some ⟨w0.heap.size, 0, none⟩) 0 n []) := hide ⟨rfl, ⟨_, rfl⟩, hown, made_below hgrow⟩
  clear hown hgrow
  go_wp2
  go_loopw [1, 5] (fun gv dv wr => ∃ (k i rb roff r rc : Nat) (D : List Gl) (va : Option Addr) (m vc : Nat), gv = .slice (some ⟨rb, roff, none⟩) r rc ∧ dv = .slice va m vc ∧ i ≤ G.length ∧ r ≤ rc ∧ Hid (itr [] I [] P G k = (i, D)) ∧ Hid (r = G.length - i) ∧ Hid (GA w0 (.slice (some ⟨rb, roff, none⟩) r rc) (G.drop i)) ∧ Hid (GD w0 wr va m vc D)) (fun gv _ _ => lenV gv)
  case atStart => exact ⟨0, 0, b, off, n, c, [], _, 0, n, rfl, rfl, Nat.zero_le _, hnc, hide rfl, hide (by rw [unhide HN]; rfl), hide (by rw [List.drop_zero]; exact unhide HG0), HD1⟩
  case round =>
    obtain ⟨k, i, rb, roff, r, rc, D, va, m, vc, rfl, rfl, hiG, hrc, HK, HR, HGA, HD⟩ := hrel
    clear HD1
    have hr0 := unhide HR
    by_cases hlt : 0 < r
    · have hlt' : (0 : Int) < (r : Int) := by omega
      have hiL : i < G.length := by omega
      obtain ⟨hDi, hDl⟩ : i ≤ G.length ∧ D.length ≤ 8 * i := by
        have := (unhide HIT) k
        rw [unhide HK] at this
        exact this
      have hml : m = D.length := (unhide HD).len
      have hm : m ≤ 1048576 := by omega
      have hD6 : D.length ≤ 1048576 := by omega
      obtain ⟨a9, c9, e9, hf9⟩ := (unhide HGA).form
      injection e9 with e91 e92 e93
      obtain ⟨b9, o9, e94, hb9, hF9⟩ := hf9 0 (by omega)
      rw [← e91] at e94
      injection e94 with e95
      injection e95 with e96 e97
      subst e96 e97
      simp only [gat_drop, Nat.zero_mul, Nat.add_zero] at hF9
      obtain ⟨x0, x1, x2, x3, x4⟩ := hF9.below (unhide HD).bel hb9
      clear e91 e92 e93 hf9 hF9
      have hrl : (G.drop i).length ≤ 1048576 := by rw [List.length_drop]; omega
      have hrl2 : r = (G.drop i).length := by rw [List.length_drop]; omega
      have B1 := hide ((unhide HD).bel.alloc (unhide HD).bel.size (.cells #[.int .i64 (gat G i).1, .int .i64 (gat G i).2.1, .int .i64 (gat G i).2.2.1, .int .i64 (gat G i).2.2.2.1, .int .i64 (gat G i).2.2.2.2] 71))
      have HD2 := hide ((unhide HD).below ((Below.refl wr.heap.size wr).alloc (Nat.le_refl _) (.cells #[.int .i64 (gat G i).1, .int .i64 (gat G i).2.1, .int .i64 (gat G i).2.2.1, .int .i64 (gat G i).2.2.2.1, .int .i64 (gat G i).2.2.2.2] 71)))
      have hq := heap_new wr (.cells #[.int .i64 (gat G i).1, .int .i64 (gat G i).2.1, .int .i64 (gat G i).2.2.1, .int .i64 (gat G i).2.2.2.1, .int .i64 (gat G i).2.2.2.2] 71)
      have hq1 : wr.heap.size < (wr.alloc (.cells #[.int .i64 (gat G i).1, .int .i64 (gat G i).2.1, .int .i64 (gat G i).2.2.1, .int .i64 (gat G i).2.2.2.1, .int .i64 (gat G i).2.2.2.2] 71)).heap.size := by simp
      have hwr := (unhide HD).bel.size
      have hob : Hid (∀ j, (Value.slice va m vc).ownBlock = some j → j < wr.heap.size) := hide (fun j hj => ((unhide HD).ow j hj).2)
      have CF := hide (fits_plain ai ap P.length ci cp I (.slice va m vc) rb roff r rc (G.drop i) _ ((unhide HI).below (unhide B1)) ((unhide HGA).below (unhide B1)) lI hrl)
      rw [atq_drop G i I hiG, ← fit_plain (D := D)] at CF
      cases hz : fit [] I [] G i D
      · rw [hz] at CF
        have HK2 := hide ((unhide HNot) k i D (unhide HK) hiL hz)
        by_cases hcap : rc = 1
        · have er : r = 1 := by omega
          have HGA2 : Hid (GA w0 (.slice (some ⟨rb, roff, none⟩) 0 0) (G.drop (i + 1))) := hide (by rw [List.drop_eq_nil_of_le (by omega)]; exact GA.empty _ _ _)
          have HR2 : Hid (0 = G.length - (i + 1)) := hide (by omega)
          clear hz hml hrl2 hr0 hDl hDi HR HGA
          subst hcap
          subst er
          go_wp2_with fail
          generalize wr.alloc (.cells #[.int .i64 (gat G i).1, .int .i64 (gat G i).2.1, .int .i64 (gat G i).2.2.1, .int .i64 (gat G i).2.2.2.1, .int .i64 (gat G i).2.2.2.2] 71) = wa at *
          refine (unhide CF).mono ?_
          rintro e w2 ⟨rfl, hb2⟩
          have HD3 := hide ((unhide HD2).below hb2)
          have hq2 := (hb2.block wr.heap.size hq1).trans hq
          have hq3 := Nat.lt_of_lt_of_le hq1 hb2.size
          obtain ⟨y0, y1, y2, y3, y4⟩ := five_cells hq2
          clear hb2 CF HD2 B1 hq hq1 x0 x1 x2 x3 x4 HD
          go_wp2_with (at_builtin; go_loud (refine wpList_appG _ rfl _ _ 40 rfl w0.heap.size 71 i0 (.agg #[.int .i64 0, .int .i64 0, .int .i64 0, .int .i64 0, .int .i64 0]) 5 40 Try.underlying40 hi hz0 hz1 hz2 rfl (by decide) _ _ _ rfl (World.ownsRow.alloc (unhide HD3).row _) ⟨w2.heap.size, 0, none⟩ 1 1 (cv (gat G i)) rfl rfl (five_new w2 (gat G i)) (five_one _) (by unfold maxLen; omega) (by omega) (by have := (unhide HD3).bel.size; simp; omega) ?_))
          intro v' w3 hown' hgrow hblk
          obtain ⟨va3, vc3, rfl, HG3⟩ := (unhide HD3).app (g := gat G i) hown' hgrow
          have HG4 := hide HG3
          clear HG3 hown' hgrow hblk HD3
          go_wp2
          go_roundw
          case rel => exact ⟨k + 1, i + 1, rb, roff, 0, 0, D ++ [gat G i], va3, m + 1, vc3, rfl, rfl, by omega, Nat.le_refl _, HK2, HR2, HGA2, HG4⟩
          case measure => simp [lenV]
        · have hcap' : ¬ (rc : Int) = 1 := by omega
          have hr1 : (1 : Int) ≤ (r : Int) := by omega
          have hrc' : (r : Int) ≤ (rc : Int) := by omega
          have HGA2 : Hid (GA w0 (.slice (some ⟨rb, roff + 1 * 5, none⟩) (r - 1) (rc - 1)) (G.drop (i + 1))) := hide (by have := (unhide HGA).cut (k := 1) (c' := rc - 1) (by omega); rw [List.drop_drop] at this; exact this)
          have HR2 : Hid (r - 1 = G.length - (i + 1)) := hide (by omega)
          clear hz hml hrl2 hr0 hDl hDi HR HGA
          go_wp2_with fail
          generalize wr.alloc (.cells #[.int .i64 (gat G i).1, .int .i64 (gat G i).2.1, .int .i64 (gat G i).2.2.1, .int .i64 (gat G i).2.2.2.1, .int .i64 (gat G i).2.2.2.2] 71) = wa at *
          refine (unhide CF).mono ?_
          rintro e w2 ⟨rfl, hb2⟩
          have HD3 := hide ((unhide HD2).below hb2)
          have hq2 := (hb2.block wr.heap.size hq1).trans hq
          have hq3 := Nat.lt_of_lt_of_le hq1 hb2.size
          obtain ⟨y0, y1, y2, y3, y4⟩ := five_cells hq2
          clear hb2 CF HD2 B1 hq hq1 x0 x1 x2 x3 x4 HD
          go_wp2_with (at_builtin; go_loud (refine wpList_appG _ rfl _ _ 40 rfl w0.heap.size 71 i0 (.agg #[.int .i64 0, .int .i64 0, .int .i64 0, .int .i64 0, .int .i64 0]) 5 40 Try.underlying40 hi hz0 hz1 hz2 rfl (by decide) _ _ _ rfl (World.ownsRow.alloc (unhide HD3).row _) ⟨w2.heap.size, 0, none⟩ 1 1 (cv (gat G i)) rfl rfl (five_new w2 (gat G i)) (five_one _) (by unfold maxLen; omega) (by omega) (by have := (unhide HD3).bel.size; simp; omega) ?_))
          intro v' w3 hown' hgrow hblk
          obtain ⟨va3, vc3, rfl, HG3⟩ := (unhide HD3).app (g := gat G i) hown' hgrow
          have HG4 := hide HG3
          clear HG3 hown' hgrow hblk HD3
          go_wp2
          go_roundw
          case rel => exact ⟨k + 1, i + 1, rb, roff + 1 * 5, r - 1, rc - 1, D ++ [gat G i], va3, m + 1, vc3, rfl, rfl, by omega, by omega, HK2, HR2, HGA2, HG4⟩
          case measure => simp [lenV]; omega
      · rw [hz] at CF
        have hle := fit_le hz
        have HK2 := hide ((unhide HFit) k i D (unhide HK) hiL hz)
        have hr1 : (I.length : Int) ≤ (r : Int) := by omega
        have hrc' : (r : Int) ≤ (rc : Int) := by omega
        by_cases hcap : rc = I.length
        · have er : r = I.length := by omega
          have HGA2 : Hid (GA w0 (.slice (some ⟨rb, roff, none⟩) 0 0) (G.drop (i + I.length))) := hide (by rw [List.drop_eq_nil_of_le (by omega)]; exact GA.empty _ _ _)
          have HR2 : Hid (0 = G.length - (i + I.length)) := hide (by omega)
          clear hz hml hrl2 hr0 hDl hDi HR HGA
          subst hcap
          subst er
          go_wp2_with fail
          generalize wr.alloc (.cells #[.int .i64 (gat G i).1, .int .i64 (gat G i).2.1, .int .i64 (gat G i).2.2.1, .int .i64 (gat G i).2.2.2.1, .int .i64 (gat G i).2.2.2.2] 71) = wa at *
          refine (unhide CF).mono ?_
          rintro e w2 ⟨rfl, hb2⟩
          have HD3 := hide ((unhide HD2).below hb2)
          have hq2 := (hb2.block wr.heap.size hq1).trans hq
          have hq3 := Nat.lt_of_lt_of_le hq1 hb2.size
          obtain ⟨y0, y1, y2, y3, y4⟩ := five_cells hq2
          clear hb2 CF HD2 B1 hq hq1 x0 x1 x2 x3 x4 HD
          go_upto_region 5 with fail
          go_region_with (first
            | (go_at_call 81; refine ((unhide CP) _).mono ?_; rintro e w4 ⟨rfl, hb4⟩; have HD4 := hide ((unhide HD3).below ((drew_bel w2).trans hb4)); have k4 := (((drew_bel w2).trans hb4).block wr.heap.size hq3).trans hq2; obtain ⟨z0, z1, z2, z3, z4⟩ := five_cells k4; clear hb4 k4)
            | (go_at_call 62; refine (appendPut_any w0 _ _ m vc D _ P _ _ _ _ _ (unhide HD4) (unhide HP) hm lP).mono ?_; rintro e w5 ⟨va5, vc5, rfl, hD5⟩; have HD5 := hide hD5; clear hD5))
          all_goals
            go_wp2_with fail
            refine ((unhide CT) _).mono ?_
            rintro e w6 ⟨rfl, hb6⟩
            have HD6 := hide ((unhide HD5).below hb6)
            clear hb6 HD5
            go_wp2
            go_roundw
            case rel => exact ⟨k + 1, i + I.length, rb, roff, 0, 0, D ++ P.map (mkg (gat G i)), va5, m + P.length, vc5, rfl, rfl, hle, Nat.le_refl _, HK2, HR2, HGA2, HD6⟩
            case measure => simp [lenV]; omega
        · have hcap' : ¬ (rc : Int) = (I.length : Int) := by omega
          have HGA2 : Hid (GA w0 (.slice (some ⟨rb, roff + I.length * 5, none⟩) (r - I.length) (rc - I.length)) (G.drop (i + I.length))) := hide (by have := (unhide HGA).cut (k := I.length) (c' := rc - I.length) (by omega); rw [List.drop_drop] at this; exact this)
          have HR2 : Hid (r - I.length = G.length - (i + I.length)) := hide (by omega)
          clear hz hml hrl2 hr0 hDl hDi HR HGA
          go_wp2_with fail
          generalize wr.alloc (.cells #[.int .i64 (gat G i).1, .int .i64 (gat G i).2.1, .int .i64 (gat G i).2.2.1, .int .i64 (gat G i).2.2.2.1, .int .i64 (gat G i).2.2.2.2] 71) = wa at *
          refine (unhide CF).mono ?_
          rintro e w2 ⟨rfl, hb2⟩
          have HD3 := hide ((unhide HD2).below hb2)
          have hq2 := (hb2.block wr.heap.size hq1).trans hq
          have hq3 := Nat.lt_of_lt_of_le hq1 hb2.size
          obtain ⟨y0, y1, y2, y3, y4⟩ := five_cells hq2
          clear hb2 CF HD2 B1 hq hq1 x0 x1 x2 x3 x4 HD
          go_upto_region 5 with fail
          go_region_with (first
            | (go_at_call 81; refine ((unhide CP) _).mono ?_; rintro e w4 ⟨rfl, hb4⟩; have HD4 := hide ((unhide HD3).below ((drew_bel w2).trans hb4)); have k4 := (((drew_bel w2).trans hb4).block wr.heap.size hq3).trans hq2; obtain ⟨z0, z1, z2, z3, z4⟩ := five_cells k4; clear hb4 k4)
            | (go_at_call 62; refine (appendPut_any w0 _ _ m vc D _ P _ _ _ _ _ (unhide HD4) (unhide HP) hm lP).mono ?_; rintro e w5 ⟨va5, vc5, rfl, hD5⟩; have HD5 := hide hD5; clear hD5))
          all_goals
            go_wp2_with fail
            refine ((unhide CT) _).mono ?_
            rintro e w6 ⟨rfl, hb6⟩
            have HD6 := hide ((unhide HD5).below hb6)
            clear hb6 HD5
            go_wp2
            go_roundw
            case rel => exact ⟨k + 1, i + I.length, rb, roff + I.length * 5, r - I.length, rc - I.length, D ++ P.map (mkg (gat G i)), va5, m + P.length, vc5, rfl, rfl, hle, by omega, HK2, HR2, HGA2, HD6⟩
            case measure => simp [lenV]; omega
    · have hlt' : ¬ (0 : Int) < (r : Int) := by omega
      have HE := hide ((unhide HEnd) k i D (unhide HK) (by omega))
      clear hr0
      go_wp2
      go_ret
      exact ⟨_, _, _, rfl, by rw [unhide HE]; exact unhide HD⟩
set_option maxRecDepth 100000 in
set_option maxHeartbeats 8000000 in
theorem replaced_ctx (ai ap aa ab : Option Addr) (ci cp ca cb : Nat) (A B I P : List Int) (b off n c : Nat) (G : List Gl) (w0 : World)
    (hI : IntsAt w0 (.slice ai I.length ci) I) (hP : IntsAt w0 (.slice ap P.length cp) P) (hA : IntsAt w0 (.slice aa A.length ca) A) (hB : IntsAt w0 (.slice ab B.length cb) B)
    (hG : GA w0 (.slice (some ⟨b, off, none⟩) n c) G) (hn : n = G.length) (hnc : n ≤ c) (l0 : 0 < I.length) (lI : I.length ≤ 8) (lP : P.length ≤ 8) (lA : A.length ≤ 4) (lB : B.length ≤ 4) (lG : G.length ≤ 100000) :
    Calls Try.prog 54 #[.iface 106 (.agg #[.slice ai I.length ci, .slice ap P.length cp, .slice aa A.length ca, .slice ab B.length cb]), .slice (some ⟨b, off, none⟩) n c] w0 fun e w' => ∃ va m vc, e = .returned (.slice va m vc) ∧ GD w0 w' va m vc (rul A I B P G) := by
  obtain ⟨i0, hi, hz0, hz1, hz2⟩ := info_parts infoG
  have M1 := fun W => meth_taken (.slice ai I.length ci) (.slice ap P.length cp) (.slice aa A.length ca) (.slice ab B.length cb) W
  have M2 := fun W => meth_put (.slice ai I.length ci) (.slice ap P.length cp) (.slice aa A.length ca) (.slice ab B.length cb) W
  have CT := hide (fun W => taken_any ai ap I.length P.length ci cp W)
  have CP := hide (fun W => put_any ai ap I.length P.length ci cp W)
  have HI := hide hI
  have HP := hide hP
  have HA := hide hA
  have HB := hide hB
  have HG0 := hide hG
  have HIT := hide (fun k => itr_le (A := A) (B := B) l0 lP G k)
  have HEnd := hide (fun k i D h hh => rul_is (A := A) (B := B) (P := P) l0 (G := G) (k := k) (i := i) (D := D) h hh)
  have HFit := hide (fun k i D h hh hf => itr_fit (A := A) (I := I) (B := B) (P := P) (G := G) (k := k) (i := i) (D := D) h hh hf)
  have HNot := hide (fun k i D h hh hf => itr_not (A := A) (I := I) (B := B) (P := P) (G := G) (k := k) (i := i) (D := D) h hh hf)
  have HN := hide hn
  have l0' : (0 : Int) ≤ (I.length : Int) := by omega
  have hnb : n ≤ 100000 := by omega
  clear hI hP hG hn hA hB
  go_enter Try.func54, Try.ntmps54
  go_wp2_with (at_make; refine wpList_make_own _ rfl _ _ 40 rfl w0.heap.size 71 i0 (.agg #[.int .i64 0, .int .i64 0, .int .i64 0, .int .i64 0, .int .i64 0]) 5 Try.underlying40 hi hz0 hz1 .i64 .i64 _ n rfl rfl rfl ?b2 ?b3 ?b4 ?_)
  case b2 => rw [hz2]; omega
  case b3 => unfold maxLen; omega
  case b4 => omega
  intro w1 hown hgrow
  have HD1 : Hid (GD w0 w1 (some ⟨w0.heap.size, 0, none⟩) 0 n []) := hide ⟨rfl, ⟨_, rfl⟩, hown, made_below hgrow⟩
  clear hown hgrow
  go_wp2
  go_loopw [1, 5] (fun gv dv wr => ∃ (k i rb roff r rc : Nat) (D : List Gl) (va : Option Addr) (m vc : Nat), gv = .slice (some ⟨rb, roff, none⟩) r rc ∧ dv = .slice va m vc ∧ i ≤ G.length ∧ r ≤ rc ∧ Hid (itr A I B P G k = (i, D)) ∧ Hid (r = G.length - i) ∧ Hid (GA w0 (.slice (some ⟨rb, roff, none⟩) r rc) (G.drop i)) ∧ Hid (GD w0 wr va m vc D)) (fun gv _ _ => lenV gv)
  case atStart => exact ⟨0, 0, b, off, n, c, [], _, 0, n, rfl, rfl, Nat.zero_le _, hnc, hide rfl, hide (by rw [unhide HN]; rfl), hide (by rw [List.drop_zero]; exact unhide HG0), HD1⟩
  case round =>
    obtain ⟨k, i, rb, roff, r, rc, D, va, m, vc, rfl, rfl, hiG, hrc, HK, HR, HGA, HD⟩ := hrel
    clear HD1
    have hr0 := unhide HR
    by_cases hlt : 0 < r
    · have hlt' : (0 : Int) < (r : Int) := by omega
      have hiL : i < G.length := by omega
      obtain ⟨hDi, hDl⟩ : i ≤ G.length ∧ D.length ≤ 8 * i := by
        have := (unhide HIT) k
        rw [unhide HK] at this
        exact this
      have hml : m = D.length := (unhide HD).len
      have hm : m ≤ 1048576 := by omega
      have hD6 : D.length ≤ 1048576 := by omega
      obtain ⟨a9, c9, e9, hf9⟩ := (unhide HGA).form
      injection e9 with e91 e92 e93
      obtain ⟨b9, o9, e94, hb9, hF9⟩ := hf9 0 (by omega)
      rw [← e91] at e94
      injection e94 with e95
      injection e95 with e96 e97
      subst e96 e97
      simp only [gat_drop, Nat.zero_mul, Nat.add_zero] at hF9
      obtain ⟨x0, x1, x2, x3, x4⟩ := hF9.below (unhide HD).bel hb9
      clear e91 e92 e93 hf9 hF9
      have hrl : (G.drop i).length ≤ 1048576 := by rw [List.length_drop]; omega
      have hrl2 : r = (G.drop i).length := by rw [List.length_drop]; omega
      have B1 := hide ((unhide HD).bel.alloc (unhide HD).bel.size (.cells #[.int .i64 (gat G i).1, .int .i64 (gat G i).2.1, .int .i64 (gat G i).2.2.1, .int .i64 (gat G i).2.2.2.1, .int .i64 (gat G i).2.2.2.2] 71))
      have HD2 := hide ((unhide HD).below ((Below.refl wr.heap.size wr).alloc (Nat.le_refl _) (.cells #[.int .i64 (gat G i).1, .int .i64 (gat G i).2.1, .int .i64 (gat G i).2.2.1, .int .i64 (gat G i).2.2.2.1, .int .i64 (gat G i).2.2.2.2] 71)))
      have hq := heap_new wr (.cells #[.int .i64 (gat G i).1, .int .i64 (gat G i).2.1, .int .i64 (gat G i).2.2.1, .int .i64 (gat G i).2.2.2.1, .int .i64 (gat G i).2.2.2.2] 71)
      have hq1 : wr.heap.size < (wr.alloc (.cells #[.int .i64 (gat G i).1, .int .i64 (gat G i).2.1, .int .i64 (gat G i).2.2.1, .int .i64 (gat G i).2.2.2.1, .int .i64 (gat G i).2.2.2.2] 71)).heap.size := by simp
      have hwr := (unhide HD).bel.size
      have hob : Hid (∀ j, (Value.slice va m vc).ownBlock = some j → j < wr.heap.size) := hide (fun j hj => ((unhide HD).ow j hj).2)
      obtain ⟨dg, rfl⟩ := (unhide HD).som
      have CF := hide (fits_ctx ai ap aa ab P.length ci cp ca cb A I B dg 0 m vc rb roff r rc D (G.drop i) _ ((unhide HI).below (unhide B1)) ((unhide HA).below (unhide B1)) ((unhide HB).below (unhide B1)) (unhide HD2).gr.ga hml (unhide HD).cap ((unhide HGA).below (unhide B1)) hrl2 hrc lI lA lB hrl hD6)
      rw [fit_eq hiG] at CF
      cases hz : fit A I B G i D
      · rw [hz] at CF
        have HK2 := hide ((unhide HNot) k i D (unhide HK) hiL hz)
        by_cases hcap : rc = 1
        · have er : r = 1 := by omega
          have HGA2 : Hid (GA w0 (.slice (some ⟨rb, roff, none⟩) 0 0) (G.drop (i + 1))) := hide (by rw [List.drop_eq_nil_of_le (by omega)]; exact GA.empty _ _ _)
          have HR2 : Hid (0 = G.length - (i + 1)) := hide (by omega)
          clear hz hml hrl2 hr0 hDl hDi HR HGA
          subst hcap
          subst er
          go_wp2_with fail
          generalize wr.alloc (.cells #[.int .i64 (gat G i).1, .int .i64 (gat G i).2.1, .int .i64 (gat G i).2.2.1, .int .i64 (gat G i).2.2.2.1, .int .i64 (gat G i).2.2.2.2] 71) = wa at *
          refine (unhide CF).mono ?_
          rintro e w2 ⟨rfl, hb2⟩
          have HD3 := hide ((unhide HD2).below hb2)
          have hq2 := (hb2.block wr.heap.size hq1).trans hq
          have hq3 := Nat.lt_of_lt_of_le hq1 hb2.size
          obtain ⟨y0, y1, y2, y3, y4⟩ := five_cells hq2
          clear hb2 CF HD2 B1 hq hq1 x0 x1 x2 x3 x4 HD
          go_wp2_with (at_builtin; go_loud (refine wpList_appG _ rfl _ _ 40 rfl w0.heap.size 71 i0 (.agg #[.int .i64 0, .int .i64 0, .int .i64 0, .int .i64 0, .int .i64 0]) 5 40 Try.underlying40 hi hz0 hz1 hz2 rfl (by decide) _ _ _ rfl (World.ownsRow.alloc (unhide HD3).row _) ⟨w2.heap.size, 0, none⟩ 1 1 (cv (gat G i)) rfl rfl (five_new w2 (gat G i)) (five_one _) (by unfold maxLen; omega) (by omega) (by have := (unhide HD3).bel.size; simp; omega) ?_))
          intro v' w3 hown' hgrow hblk
          obtain ⟨va3, vc3, rfl, HG3⟩ := (unhide HD3).app (g := gat G i) hown' hgrow
          have HG4 := hide HG3
          clear HG3 hown' hgrow hblk HD3
          go_wp2
          go_roundw
          case rel => exact ⟨k + 1, i + 1, rb, roff, 0, 0, D ++ [gat G i], va3, m + 1, vc3, rfl, rfl, by omega, Nat.le_refl _, HK2, HR2, HGA2, HG4⟩
          case measure => simp [lenV]
        · have hcap' : ¬ (rc : Int) = 1 := by omega
          have hr1 : (1 : Int) ≤ (r : Int) := by omega
          have hrc' : (r : Int) ≤ (rc : Int) := by omega
          have HGA2 : Hid (GA w0 (.slice (some ⟨rb, roff + 1 * 5, none⟩) (r - 1) (rc - 1)) (G.drop (i + 1))) := hide (by have := (unhide HGA).cut (k := 1) (c' := rc - 1) (by omega); rw [List.drop_drop] at this; exact this)
          have HR2 : Hid (r - 1 = G.length - (i + 1)) := hide (by omega)
          clear hz hml hrl2 hr0 hDl hDi HR HGA
          go_wp2_with fail
          generalize wr.alloc (.cells #[.int .i64 (gat G i).1, .int .i64 (gat G i).2.1, .int .i64 (gat G i).2.2.1, .int .i64 (gat G i).2.2.2.1, .int .i64 (gat G i).2.2.2.2] 71) = wa at *
          refine (unhide CF).mono ?_
          rintro e w2 ⟨rfl, hb2⟩
          have HD3 := hide ((unhide HD2).below hb2)
          have hq2 := (hb2.block wr.heap.size hq1).trans hq
          have hq3 := Nat.lt_of_lt_of_le hq1 hb2.size
          obtain ⟨y0, y1, y2, y3, y4⟩ := five_cells hq2
          clear hb2 CF HD2 B1 hq hq1 x0 x1 x2 x3 x4 HD
          go_wp2_with (at_builtin; go_loud (refine wpList_appG _ rfl _ _ 40 rfl w0.heap.size 71 i0 (.agg #[.int .i64 0, .int .i64 0, .int .i64 0, .int .i64 0, .int .i64 0]) 5 40 Try.underlying40 hi hz0 hz1 hz2 rfl (by decide) _ _ _ rfl (World.ownsRow.alloc (unhide HD3).row _) ⟨w2.heap.size, 0, none⟩ 1 1 (cv (gat G i)) rfl rfl (five_new w2 (gat G i)) (five_one _) (by unfold maxLen; omega) (by omega) (by have := (unhide HD3).bel.size; simp; omega) ?_))
          intro v' w3 hown' hgrow hblk
          obtain ⟨va3, vc3, rfl, HG3⟩ := (unhide HD3).app (g := gat G i) hown' hgrow
          have HG4 := hide HG3
          clear HG3 hown' hgrow hblk HD3
          go_wp2
          go_roundw
          case rel => exact ⟨k + 1, i + 1, rb, roff + 1 * 5, r - 1, rc - 1, D ++ [gat G i], va3, m + 1, vc3, rfl, rfl, by omega, by omega, HK2, HR2, HGA2, HG4⟩
          case measure => simp [lenV]; omega
      · rw [hz] at CF
        have hle := fit_le hz
        have HK2 := hide ((unhide HFit) k i D (unhide HK) hiL hz)
        have hr1 : (I.length : Int) ≤ (r : Int) := by omega
        have hrc' : (r : Int) ≤ (rc : Int) := by omega
        by_cases hcap : rc = I.length
        · have er : r = I.length := by omega
          have HGA2 : Hid (GA w0 (.slice (some ⟨rb, roff, none⟩) 0 0) (G.drop (i + I.length))) := hide (by rw [List.drop_eq_nil_of_le (by omega)]; exact GA.empty _ _ _)
          have HR2 : Hid (0 = G.length - (i + I.length)) := hide (by omega)
          clear hz hml hrl2 hr0 hDl hDi HR HGA
          subst hcap
          subst er
          go_wp2_with fail
          generalize wr.alloc (.cells #[.int .i64 (gat G i).1, .int .i64 (gat G i).2.1, .int .i64 (gat G i).2.2.1, .int .i64 (gat G i).2.2.2.1, .int .i64 (gat G i).2.2.2.2] 71) = wa at *
          refine (unhide CF).mono ?_
          rintro e w2 ⟨rfl, hb2⟩
          have HD3 := hide ((unhide HD2).below hb2)
          have hq2 := (hb2.block wr.heap.size hq1).trans hq
          have hq3 := Nat.lt_of_lt_of_le hq1 hb2.size
          obtain ⟨y0, y1, y2, y3, y4⟩ := five_cells hq2
          clear hb2 CF HD2 B1 hq hq1 x0 x1 x2 x3 x4 HD
          go_upto_region 5 with fail
          go_region_with (first
            | (go_at_call 81; refine ((unhide CP) _).mono ?_; rintro e w4 ⟨rfl, hb4⟩; have HD4 := hide ((unhide HD3).below ((drew_bel w2).trans hb4)); have k4 := (((drew_bel w2).trans hb4).block wr.heap.size hq3).trans hq2; obtain ⟨z0, z1, z2, z3, z4⟩ := five_cells k4; clear hb4 k4)
            | (go_at_call 62; refine (appendPut_any w0 _ _ m vc D _ P _ _ _ _ _ (unhide HD4) (unhide HP) hm lP).mono ?_; rintro e w5 ⟨va5, vc5, rfl, hD5⟩; have HD5 := hide hD5; clear hD5))
          all_goals
            go_wp2_with fail
            refine ((unhide CT) _).mono ?_
            rintro e w6 ⟨rfl, hb6⟩
            have HD6 := hide ((unhide HD5).below hb6)
            clear hb6 HD5
            go_wp2
            go_roundw
            case rel => exact ⟨k + 1, i + I.length, rb, roff, 0, 0, D ++ P.map (mkg (gat G i)), va5, m + P.length, vc5, rfl, rfl, hle, Nat.le_refl _, HK2, HR2, HGA2, HD6⟩
            case measure => simp [lenV]; omega
        · have hcap' : ¬ (rc : Int) = (I.length : Int) := by omega
          have HGA2 : Hid (GA w0 (.slice (some ⟨rb, roff + I.length * 5, none⟩) (r - I.length) (rc - I.length)) (G.drop (i + I.length))) := hide (by have := (unhide HGA).cut (k := I.length) (c' := rc - I.length) (by omega); rw [List.drop_drop] at this; exact this)
          have HR2 : Hid (r - I.length = G.length - (i + I.length)) := hide (by omega)
          clear hz hml hrl2 hr0 hDl hDi HR HGA
          go_wp2_with fail
          generalize wr.alloc (.cells #[.int .i64 (gat G i).1, .int .i64 (gat G i).2.1, .int .i64 (gat G i).2.2.1, .int .i64 (gat G i).2.2.2.1, .int .i64 (gat G i).2.2.2.2] 71) = wa at *
          refine (unhide CF).mono ?_
          rintro e w2 ⟨rfl, hb2⟩
          have HD3 := hide ((unhide HD2).below hb2)
          have hq2 := (hb2.block wr.heap.size hq1).trans hq
          have hq3 := Nat.lt_of_lt_of_le hq1 hb2.size
          obtain ⟨y0, y1, y2, y3, y4⟩ := five_cells hq2
          clear hb2 CF HD2 B1 hq hq1 x0 x1 x2 x3 x4 HD
          go_upto_region 5 with fail
          go_region_with (first
            | (go_at_call 81; refine ((unhide CP) _).mono ?_; rintro e w4 ⟨rfl, hb4⟩; have HD4 := hide ((unhide HD3).below ((drew_bel w2).trans hb4)); have k4 := (((drew_bel w2).trans hb4).block wr.heap.size hq3).trans hq2; obtain ⟨z0, z1, z2, z3, z4⟩ := five_cells k4; clear hb4 k4)
            | (go_at_call 62; refine (appendPut_any w0 _ _ m vc D _ P _ _ _ _ _ (unhide HD4) (unhide HP) hm lP).mono ?_; rintro e w5 ⟨va5, vc5, rfl, hD5⟩; have HD5 := hide hD5; clear hD5))
          all_goals
            go_wp2_with fail
            refine ((unhide CT) _).mono ?_
            rintro e w6 ⟨rfl, hb6⟩
            have HD6 := hide ((unhide HD5).below hb6)
            clear hb6 HD5
            go_wp2
            go_roundw
            case rel => exact ⟨k + 1, i + I.length, rb, roff + I.length * 5, r - I.length, rc - I.length, D ++ P.map (mkg (gat G i)), va5, m + P.length, vc5, rfl, rfl, hle, by omega, HK2, HR2, HGA2, HD6⟩
            case measure => simp [lenV]; omega
    · have hlt' : ¬ (0 : Int) < (r : Int) := by omega
      have HE := hide ((unhide HEnd) k i D (unhide HK) (by omega))
      clear hr0
      go_wp2
      go_ret
      exact ⟨_, _, _, rfl, by rw [unhide HE]; exact unhide HD⟩
end Go.Proofs.Ytccnjjkechdknaa.Rul
