/- ApplyRules, as the specification tells it. -/
import Derived.Test.YtccnjjkechdknaaRulM
namespace Go.Proofs.Ytccnjjkechdknaa.Rul
open Go.RowKit
set_option linter.unusedVariables false
theorem drewN_bel (w : World) (n : Nat) : Below w.heap.size w (w.drewN n) := ⟨rfl, rfl, rfl, Nat.le_refl _, fun _ _ => rfl⟩
theorem fit_no {A I B : List Int} {G D : List Gl} {i : Nat} (h : atq G i I = false ∨ D.length < A.length ∨ atq D (D.length - A.length) A = false ∨ atq G (i + I.length) B = false) : fit A I B G i D = false := by
  unfold fit
  rcases h with h | h | h | h
  · rw [h]; rfl
  · rw [decide_eq_false (by omega)]; simp
  · rw [h]; simp
  · rw [h]; simp
theorem fit_yes {A I B : List Int} {G D : List Gl} {i : Nat} (h1 : atq G i I = true) (h2 : A.length ≤ D.length) (h3 : atq D (D.length - A.length) A = true) (h4 : atq G (i + I.length) B = true) : fit A I B G i D = true := by
  unfold fit
  rw [h1, decide_eq_true h2, h3, h4]; rfl
theorem cell_al {w : World} {a : Addr} {v : Value} (h : w.cell? a = some v) (o : Obj) : (w.alloc o).cell? a = some v := (World.cell?_of_block (Below.heap_alloc w o a.block (block_lt_of_cell h))).trans h
theorem lit_gd (w1 : World) : GD w1 (w1.alloc (.cells #[] 71)) (some ⟨w1.heap.size, 0, none⟩) 0 0 [] :=
  ⟨rfl, ⟨_, rfl⟩, World.ownsRow_lit w1 #[] 0 (Nat.le_refl _) (by unfold maxLen; omega) rfl, (Below.refl _ _).alloc (Nat.le_refl _) _⟩
set_option maxRecDepth 100000 in
set_option maxHeartbeats 8000000 in
theorem l10Rule_any (a0 a1 a2 a3 : Option Addr) (c0 c1 c2 c3 : Nat) (A I B P : List Int) (gv0 : Value) (G : List Gl) (w0 : World)
    (h0 : IntsAt w0 (.slice a0 A.length c0) A) (h1 : IntsAt w0 (.slice a1 I.length c1) I) (h2 : IntsAt w0 (.slice a2 B.length c2) B) (h3 : IntsAt w0 (.slice a3 P.length c3) P)
    (hG : GA w0 gv0 G) (ok : ok1 A I B P = true) (lG : G.length ≤ 100000) :
    Calls Try.prog 52 #[.agg #[.slice a0 A.length c0, .slice a1 I.length c1, .slice a2 B.length c2, .slice a3 P.length c3], gv0] w0 fun e w' => ∃ v', e = .returned (.tuple #[v', .bool (decide ((rul A I B P G).length ≤ 1000))]) ∧ GN w0 w' v' (rul A I B P G) := by
  obtain ⟨i0, hi, hz0, hz1, hz2⟩ := info_parts infoG
  have ok' : 0 < I.length ∧ I.length ≤ 8 ∧ P.length ≤ 8 ∧ A.length ≤ 4 ∧ B.length ≤ 4 := by
    unfold ok1 okI at ok
    simp at ok
    omega
  obtain ⟨l0, lI, lP, lA, lB⟩ := ok'
  obtain ⟨ob, hob⟩ : ∃ ob, ob = Obj.cells #[.slice a0 A.length c0, .slice a1 I.length c1, .slice a2 B.length c2, .slice a3 P.length c3] 68 := ⟨_, rfl⟩
  have bel := (Below.refl w0.heap.size w0).alloc (Nat.le_refl _) ob
  have H0 := hide (h0.below bel)
  have H1 := hide (h1.below bel)
  have H2 := hide (h2.below bel)
  have H3 := hide (ints_cells (h3.below bel)).2
  have HG := hide (hG.below bel)
  have HW := hide bel
  obtain ⟨⟨e0, e1, e2, e3⟩, _⟩ := four_cells (show (w0.alloc ob).heap[w0.heap.size]? = some (.cells #[.slice a0 A.length c0, .slice a1 I.length c1, .slice a2 B.length c2, .slice a3 P.length c3] 68 (0, 0)) by rw [hob]; exact heap_new w0 _)
  obtain ⟨ga, gc, rfl, hgf⟩ := hG.form
  have HGF : Hid (∀ k, k < G.length → ∃ b off, ga = some ⟨b, off, none⟩ ∧ b < (w0.alloc ob).heap.size ∧ Five (w0.alloc ob) b (off + k * 5) (gat G k)) := hide (fun k hk => by
    obtain ⟨b, off, e, hb, hF⟩ := hgf k hk
    exact ⟨b, off, e, Nat.lt_of_lt_of_le hb bel.size, hF.below bel hb⟩)
  have HIT := hide (fun k => itr_le (A := A) (B := B) l0 lP G k)
  have HEnd := hide (fun k i D h hh => rul_is (A := A) (B := B) (P := P) l0 (G := G) (k := k) (i := i) (D := D) h hh)
  have HFit := hide (fun k i D h hh hf => itr_fit (A := A) (I := I) (B := B) (P := P) (G := G) (k := k) (i := i) (D := D) h hh hf)
  have HNot := hide (fun k i D h hh hf => itr_not (A := A) (I := I) (B := B) (P := P) (G := G) (k := k) (i := i) (D := D) h hh hf)
  have HD1 := hide (lit_gd (w0.alloc ob))
  have hws : (w0.alloc ob).heap.size = w0.heap.size + 1 := by simp
  have HZ : Hid (GD (w0.alloc ob) ((w0.alloc ob).alloc (.cells #[] 71)) (some ⟨w0.heap.size + 1, 0, none⟩) 0 0 []) := hide (by have := unhide HD1; rw [hws] at this; exact this)
  have lG6 : G.length ≤ 1048576 := by omega
  have hqw : w0.heap.size < (w0.alloc ob).heap.size := by simp
  clear h0 h1 h2 h3 hG ok hgf bel HD1 hws
  generalize hq : w0.heap.size = q at e0 e1 e2 e3 hqw
  have HQ := hide hq
  obtain ⟨Z, hrul⟩ : ∃ Z, rul A I B P G = Z := ⟨_, rfl⟩
  rw [hrul]
  have HRUL := hide hrul
  clear hrul
  go_enter Try.func52, Try.ntmps52
  go_wp2
  rw [← hob]
  try rw [unhide HQ]
  have HZ2 : Hid (GD (w0.alloc ob) ((w0.alloc ob).alloc (.cells #[] 71)) (some ⟨q + 1, 0, none⟩) 0 0 []) := hide (by have := unhide HZ; rw [unhide HQ] at this; exact this)
  clear hq hob HZ
  generalize w0.alloc ob = wx at *
  go_loopw [6, 7] (fun dv iv wr => ∃ (k i : Nat) (D : List Gl) (va : Option Addr) (m vc : Nat), dv = .slice va m vc ∧ iv = .int .i64 i ∧ i ≤ G.length ∧ Hid (itr A I B P G k = (i, D)) ∧ Hid (GD wx wr va m vc D)) (fun _ iv _ => G.length - (intOf iv).toNat)
  case atStart => exact ⟨0, 0, [], _, 0, 0, rfl, rfl, Nat.zero_le _, hide rfl, HZ2⟩
  case round =>
    obtain ⟨k, i, D, va, m, vc, rfl, rfl, hiG, HK, HD⟩ := hrel
    clear HZ2
    by_cases hlt : i < G.length
    · have hlt' : (i : Int) < (G.length : Int) := by omega
      obtain ⟨hDi, hDl⟩ : i ≤ G.length ∧ D.length ≤ 8 * i := by
        have := (unhide HIT) k
        rw [unhide HK] at this
        exact this
      have hml : m = D.length := (unhide HD).len
      have lD : D.length ≤ 1048576 := by omega
      have hm : m ≤ 1048000 := by omega
      have hqr : q < wr.heap.size := Nat.lt_of_lt_of_le hqw (unhide HD).bel.size
      have d0 := ((unhide HD).bel.cell (p := ⟨q, 0, none⟩) hqw).trans e0
      have d1 := ((unhide HD).bel.cell (p := ⟨q, 1, none⟩) hqw).trans e1
      have d2 := ((unhide HD).bel.cell (p := ⟨q, 2, none⟩) hqw).trans e2
      obtain ⟨gb, goff, rfl, hbG, hF⟩ := (unhide HGF) i hlt
      have C1 := hide (l10At_any _ (.slice a1 I.length c1) G I i wr ((unhide HG).below (unhide HD).bel) ((unhide H1).below (unhide HD).bel) lG6 (by omega) (by omega))
      obtain ⟨gv0, hgv⟩ : ∃ gv0 : Value, gv0 = .slice (some ⟨gb, goff, none⟩) G.length gc := ⟨_, rfl⟩
      cases y1 : atq G i I
      · rw [y1] at C1
        have HK2 := hide ((unhide HNot) k i D (unhide HK) hlt (fit_no (.inl y1)))
        clear hml hDl hDi
        go_wp2_with fail
        refine (unhide C1).mono ?_
        rintro e w2 ⟨rfl, hb2⟩
        have HD2 := hide ((unhide HD).below hb2)
        have d20 := (hb2.cell (p := ⟨q, 0, none⟩) hqr).trans d0
        have d21 := (hb2.cell (p := ⟨q, 1, none⟩) hqr).trans d1
        have d22 := (hb2.cell (p := ⟨q, 2, none⟩) hqr).trans d2
        have hq2 := Nat.lt_of_lt_of_le hqr hb2.size
        clear hb2 C1
        have HD4 := HD2
        have bf := (unhide HD4).bel
        obtain ⟨g0, g1, g2, g3, g4⟩ := hF.below bf hbG
        go_wp2_with (at_builtin; go_loud (refine wpList_appG _ rfl _ _ 40 rfl wx.heap.size 71 i0 (.agg #[.int .i64 0, .int .i64 0, .int .i64 0, .int .i64 0, .int .i64 0]) 5 40 Try.underlying40 hi hz0 hz1 hz2 rfl (by decide) _ _ _ rfl (World.ownsRow.alloc (unhide HD4).row _) ⟨w2.heap.size, 0, none⟩ 1 1 (cv (gat G i)) rfl rfl (five_new w2 (gat G i)) (five_one _) (by unfold maxLen; omega) (by omega) (by have := bf.size; simp at this ⊢; omega) ?_))
        intro v' w5 hown' hgrow hblk
        obtain ⟨va5, vc5, rfl, HG5⟩ := (unhide HD4).app (g := gat G i) hown' hgrow
        have HG6 := hide HG5
        clear HG5 hown' hgrow hblk HD4
        go_wp2
        go_roundw
        case rel => exact ⟨k + 1, i + 1, D ++ [gat G i], va5, m + 1, vc5, rfl, by go_num, by omega, HK2, HG6⟩
        case measure => simp [intOf]; omega
      · rw [y1] at C1
        have hle := atq_le y1
        by_cases t : D.length < A.length
        · obtain ⟨z, hz⟩ : ∃ z : Int, (m : Int) - (A.length : Int) = z := ⟨_, rfl⟩
          have hz0' : z < 0 := by omega
          have hw : IntKind.i64.wrap z = z := wrap_inR _ (by omega) (by omega)
          have HK2 := hide ((unhide HNot) k i D (unhide HK) hlt (fit_no (.inr (.inl t))))
          clear hml hDl hDi
          go_wp2_with fail
          refine (unhide C1).mono ?_
          rintro e w2 ⟨rfl, hb2⟩
          have HD2 := hide ((unhide HD).below hb2)
          have d20 := (hb2.cell (p := ⟨q, 0, none⟩) hqr).trans d0
          have d21 := (hb2.cell (p := ⟨q, 1, none⟩) hqr).trans d1
          have d22 := (hb2.cell (p := ⟨q, 2, none⟩) hqr).trans d2
          have hq2 := Nat.lt_of_lt_of_le hqr hb2.size
          clear hb2 C1
          have C2 := hide (l10At_neg (.slice va m vc) (.slice a0 A.length c0) D A z w2 (unhide HD2).gr.ga ((unhide H0).below (unhide HD2).bel) hz0')
          go_wp2_with fail
          refine (unhide C2).mono ?_
          rintro e w3 ⟨rfl, e3⟩
          have f3 := e3.symm
          subst f3
          clear e3 C2
          have HD4 := HD2
          have bf := (unhide HD4).bel
          obtain ⟨g0, g1, g2, g3, g4⟩ := hF.below bf hbG
          go_wp2_with (at_builtin; go_loud (refine wpList_appG _ rfl _ _ 40 rfl wx.heap.size 71 i0 (.agg #[.int .i64 0, .int .i64 0, .int .i64 0, .int .i64 0, .int .i64 0]) 5 40 Try.underlying40 hi hz0 hz1 hz2 rfl (by decide) _ _ _ rfl (World.ownsRow.alloc (unhide HD4).row _) ⟨w2.heap.size, 0, none⟩ 1 1 (cv (gat G i)) rfl rfl (five_new w2 (gat G i)) (five_one _) (by unfold maxLen; omega) (by omega) (by have := bf.size; simp at this ⊢; omega) ?_))
          intro v' w5 hown' hgrow hblk
          obtain ⟨va5, vc5, rfl, HG5⟩ := (unhide HD4).app (g := gat G i) hown' hgrow
          have HG6 := hide HG5
          clear HG5 hown' hgrow hblk HD4
          go_wp2
          go_roundw
          case rel => exact ⟨k + 1, i + 1, D ++ [gat G i], va5, m + 1, vc5, rfl, by go_num, by omega, HK2, HG6⟩
          case measure => simp [intOf]; omega
        · obtain ⟨f, hf⟩ : ∃ f : Nat, f = D.length - A.length := ⟨_, rfl⟩
          have hfi : (m : Int) - (A.length : Int) = (f : Int) := by omega
          have hfw : IntKind.i64.wrap (f : Int) = (f : Int) := wrap_inR _ (by omega) (by omega)
          have hf6 : f ≤ 2097152 := by omega
          cases y2 : atq D f A
          · have y2' := y2
            rw [hf] at y2'
            have HK2 := hide ((unhide HNot) k i D (unhide HK) hlt (fit_no (.inr (.inr (.inl y2')))))
            clear hml hDl hDi
            clear hf y2'
            go_wp2_with fail
            refine (unhide C1).mono ?_
            rintro e w2 ⟨rfl, hb2⟩
            have HD2 := hide ((unhide HD).below hb2)
            have d20 := (hb2.cell (p := ⟨q, 0, none⟩) hqr).trans d0
            have d21 := (hb2.cell (p := ⟨q, 1, none⟩) hqr).trans d1
            have d22 := (hb2.cell (p := ⟨q, 2, none⟩) hqr).trans d2
            have hq2 := Nat.lt_of_lt_of_le hqr hb2.size
            clear hb2 C1
            have C2 := hide (l10At_any (.slice va m vc) (.slice a0 A.length c0) D A f w2 (unhide HD2).gr.ga ((unhide H0).below (unhide HD2).bel) lD (by omega) (by omega))
            rw [y2] at C2
            go_wp2_with fail
            refine (unhide C2).mono ?_
            rintro e w3 ⟨rfl, hb3⟩
            have HD3 := hide ((unhide HD2).below hb3)
            have d31 := (hb3.cell (p := ⟨q, 1, none⟩) hq2).trans d21
            have d32 := (hb3.cell (p := ⟨q, 2, none⟩) hq2).trans d22
            clear hb3 C2
            have HD4 := HD3
            have bf := (unhide HD4).bel
            obtain ⟨g0, g1, g2, g3, g4⟩ := hF.below bf hbG
            go_wp2_with (at_builtin; go_loud (refine wpList_appG _ rfl _ _ 40 rfl wx.heap.size 71 i0 (.agg #[.int .i64 0, .int .i64 0, .int .i64 0, .int .i64 0, .int .i64 0]) 5 40 Try.underlying40 hi hz0 hz1 hz2 rfl (by decide) _ _ _ rfl (World.ownsRow.alloc (unhide HD4).row _) ⟨w3.heap.size, 0, none⟩ 1 1 (cv (gat G i)) rfl rfl (five_new w3 (gat G i)) (five_one _) (by unfold maxLen; omega) (by omega) (by have := bf.size; simp at this ⊢; omega) ?_))
            intro v' w5 hown' hgrow hblk
            obtain ⟨va5, vc5, rfl, HG5⟩ := (unhide HD4).app (g := gat G i) hown' hgrow
            have HG6 := hide HG5
            clear HG5 hown' hgrow hblk HD4
            go_wp2
            go_roundw
            case rel => exact ⟨k + 1, i + 1, D ++ [gat G i], va5, m + 1, vc5, rfl, by go_num, by omega, HK2, HG6⟩
            case measure => simp [intOf]; omega
          · have y2' := y2
            rw [hf] at y2'
            obtain ⟨p, hp⟩ : ∃ p : Nat, p = i + I.length := ⟨_, rfl⟩
            have hpi : (i : Int) + (I.length : Int) = (p : Int) := by omega
            have hpw : IntKind.i64.wrap (p : Int) = (p : Int) := wrap_inR _ (by omega) (by omega)
            cases y3 : atq G p B
            · have y3' := y3
              rw [hp] at y3'
              have HK2 := hide ((unhide HNot) k i D (unhide HK) hlt (fit_no (.inr (.inr (.inr y3')))))
              clear hml hDl hDi
              have hp6 : p ≤ 2097152 := by omega
              clear hf y2' hp y3'
              go_wp2_with fail
              refine (unhide C1).mono ?_
              rintro e w2 ⟨rfl, hb2⟩
              have HD2 := hide ((unhide HD).below hb2)
              have d20 := (hb2.cell (p := ⟨q, 0, none⟩) hqr).trans d0
              have d21 := (hb2.cell (p := ⟨q, 1, none⟩) hqr).trans d1
              have d22 := (hb2.cell (p := ⟨q, 2, none⟩) hqr).trans d2
              have hq2 := Nat.lt_of_lt_of_le hqr hb2.size
              clear hb2 C1
              have C2 := hide (l10At_any (.slice va m vc) (.slice a0 A.length c0) D A f w2 (unhide HD2).gr.ga ((unhide H0).below (unhide HD2).bel) lD (by omega) (by omega))
              rw [y2] at C2
              go_wp2_with fail
              refine (unhide C2).mono ?_
              rintro e w3 ⟨rfl, hb3⟩
              have HD3 := hide ((unhide HD2).below hb3)
              have d31 := (hb3.cell (p := ⟨q, 1, none⟩) hq2).trans d21
              have d32 := (hb3.cell (p := ⟨q, 2, none⟩) hq2).trans d22
              clear hb3 C2
              have C3 := hide (l10At_any (.slice (some ⟨gb, goff, none⟩) G.length gc) (.slice a2 B.length c2) G B p w3 ((unhide HG).below (unhide HD3).bel) ((unhide H2).below (unhide HD3).bel) lG6 (by omega) (by omega))
              rw [y3] at C3
              go_wp2_with fail
              refine (unhide C3).mono ?_
              rintro e w4 ⟨rfl, hb4⟩
              have HD4 := hide ((unhide HD3).below hb4)
              clear hb4 C3
              have bf := (unhide HD4).bel
              obtain ⟨g0, g1, g2, g3, g4⟩ := hF.below bf hbG
              go_wp2_with (at_builtin; go_loud (refine wpList_appG _ rfl _ _ 40 rfl wx.heap.size 71 i0 (.agg #[.int .i64 0, .int .i64 0, .int .i64 0, .int .i64 0, .int .i64 0]) 5 40 Try.underlying40 hi hz0 hz1 hz2 rfl (by decide) _ _ _ rfl (World.ownsRow.alloc (unhide HD4).row _) ⟨w4.heap.size, 0, none⟩ 1 1 (cv (gat G i)) rfl rfl (five_new w4 (gat G i)) (five_one _) (by unfold maxLen; omega) (by omega) (by have := bf.size; simp at this ⊢; omega) ?_))
              intro v' w5 hown' hgrow hblk
              obtain ⟨va5, vc5, rfl, HG5⟩ := (unhide HD4).app (g := gat G i) hown' hgrow
              have HG6 := hide HG5
              clear HG5 hown' hgrow hblk HD4
              go_wp2
              go_roundw
              case rel => exact ⟨k + 1, i + 1, D ++ [gat G i], va5, m + 1, vc5, rfl, by go_num, by omega, HK2, HG6⟩
              case measure => simp [intOf]; omega
            · have y3' := y3
              rw [hp] at y3'
              have HK2 := hide ((unhide HFit) k i D (unhide HK) hlt (fit_yes y1 (by omega) y2' y3'))
              have hpG : p ≤ G.length := by omega
              have hpl : i < p := by omega
              rw [← hp] at HK2
              have hp6 : p ≤ 2097152 := by omega
              clear hml hDl hDi hf y2' hp y3'
              go_wp2_with fail
              refine (unhide C1).mono ?_
              rintro e w2 ⟨rfl, hb2⟩
              have HD2 := hide ((unhide HD).below hb2)
              have d20 := (hb2.cell (p := ⟨q, 0, none⟩) hqr).trans d0
              have d21 := (hb2.cell (p := ⟨q, 1, none⟩) hqr).trans d1
              have d22 := (hb2.cell (p := ⟨q, 2, none⟩) hqr).trans d2
              have hq2 := Nat.lt_of_lt_of_le hqr hb2.size
              clear hb2 C1
              have C2 := hide (l10At_any (.slice va m vc) (.slice a0 A.length c0) D A f w2 (unhide HD2).gr.ga ((unhide H0).below (unhide HD2).bel) lD (by omega) (by omega))
              rw [y2] at C2
              go_wp2_with fail
              refine (unhide C2).mono ?_
              rintro e w3 ⟨rfl, hb3⟩
              have HD3 := hide ((unhide HD2).below hb3)
              have d31 := (hb3.cell (p := ⟨q, 1, none⟩) hq2).trans d21
              have d32 := (hb3.cell (p := ⟨q, 2, none⟩) hq2).trans d22
              clear hb3 C2
              have C3 := hide (l10At_any (.slice (some ⟨gb, goff, none⟩) G.length gc) (.slice a2 B.length c2) G B p w3 ((unhide HG).below (unhide HD3).bel) ((unhide H2).below (unhide HD3).bel) lG6 (by omega) (by omega))
              rw [y3] at C3
              go_wp2_with fail
              refine (unhide C3).mono ?_
              rintro e w4 ⟨rfl, hb4⟩
              have HD4 := hide ((unhide HD3).below hb4)
              clear hb4 C3
              have HP0 : Hid (GD wx w4 va m vc (ptk D P (gat G i) 0)) := hide (by have := unhide HD4; unfold ptk; rw [List.take_zero, List.map_nil, List.append_nil]; exact this)
              clear HD4 HD d0 d1 d2 d20 d21 d22 d31 d32 hq2 hqr
              go_wp2
              go_loopw [6, 8] (fun dv jv wq => ∃ (j mk : Nat) (va' : Option Addr) (vc' : Nat), dv = .slice va' mk vc' ∧ jv = .int .i64 j ∧ j ≤ P.length ∧ mk ≤ 1048000 + j ∧ Hid (GD wx wq va' mk vc' (ptk D P (gat G i) j))) (fun _ jv _ => P.length - (intOf jv).toNat)
              case atStart => exact ⟨0, m, va, vc, rfl, rfl, Nat.zero_le _, by omega, HP0⟩
              case round =>
                obtain ⟨j, mk, va', vc', rfl, rfl, hjP, hmk, HE⟩ := hrel
                clear HP0
                have bq := (unhide HE).bel
                have s1 := (bq.cell (p := ⟨q, 1, none⟩) hqw).trans e1
                have s3 := (bq.cell (p := ⟨q, 3, none⟩) hqw).trans e3
                by_cases hj : j < P.length
                · have hj' : (j : Int) < (P.length : Int) := by omega
                  obtain ⟨pb, poff, rfl, hpb, hpc⟩ := (unhide H3) j hj
                  have s4 := (bq.cell (p := ⟨pb, poff + j, none⟩) hpb).trans hpc
                  obtain ⟨g0, g1, g2, g3, g4⟩ := hF.below bq hbG
                  have HT := hide (map_take hj (gat G i) D)
                  have hj0 : (0 : Int) ≤ (j : Int) := by omega
                  have hi0 : (0 : Int) ≤ (i : Int) := by omega
                  have hws := bq.size
                  have HEd := hide ((unhide HE).below (drewN_bel wr 1))
                  clear hpc
                  generalize nth P j = y at *
                  go_upto_region 10 with fail
                  have t1 := cell_al s1 (.cells #[.int .i64 y, .int .i64 (gat G i).2.1, .int .i64 (gat G i).2.2.1, .int .i64 0, .int .i64 0] 71)
                  have t3 := cell_al s3 (.cells #[.int .i64 y, .int .i64 (gat G i).2.1, .int .i64 (gat G i).2.2.1, .int .i64 0, .int .i64 0] 71)
                  go_region_law (refine step_append_own rfl (.tmp 61) (.tmp 78) 40 rfl wx.heap.size 71 i0 (.agg #[.int .i64 0, .int .i64 0, .int .i64 0, .int .i64 0, .int .i64 0]) 5 40 Try.underlying40 hi hz0 hz1 hz2 rfl (by decide) (.slice va' mk vc') mk ((flt (ptk D P (gat G i) j)).map (Value.int .i64)) (by simp [Act.eval]) (World.ownsRow.alloc (unhide HEd).row _) ⟨wr.heap.size, 0, none⟩ 1 1 (cv (mkg (gat G i) y)) (by simp [Act.eval]) rfl (five_new (wr.drewN 1) (mkg (gat G i) y)) (five_one _) (by unfold maxLen; omega) (by omega) (by have := (unhide HEd).bel.size; simp at this ⊢; omega) ?_; intro v' w5 hown' hgrow)
                  all_goals
                    obtain ⟨va5, vc5, rfl, HG5⟩ := (unhide HEd).app (g := mkg (gat G i) y) hown' hgrow
                    have HG6 : Hid (GD wx w5 va5 (mk + 1) vc5 (ptk D P (gat G i) (j + 1))) := hide (by rw [← unhide HT]; exact HG5)
                    clear HG5 hown' hgrow HE HEd
                    go_simp
                    go_wp2
                    go_roundw
                    case rel => exact ⟨j + 1, mk + 1, va5, vc5, rfl, by go_num, by omega, by omega, HG6⟩
                    case measure => simp [intOf]; omega
                · obtain rfl : j = P.length := by omega
                  have HG6 : Hid (GD wx wr va' mk vc' (D ++ P.map (mkg (gat G i)))) := hide (by have := unhide HE; unfold ptk at this; rw [List.take_length] at this; exact this)
                  clear HE
                  go_wp2
                  go_roundw
                  case rel => exact ⟨k + 1, p, D ++ P.map (mkg (gat G i)), va', mk, vc', rfl, by go_num, hpG, HK2, HG6⟩
                  case measure => simp [intOf]; omega
    · obtain rfl : i = G.length := by omega
      have HE := hide ((unhide HEnd) k G.length D (unhide HK) (by omega))
      have hml : m = Z.length := by rw [← unhide HRUL, unhide HE]; exact (unhide HD).len
      have HR : Hid (GN w0 wr (.slice va m vc) Z) := hide (by rw [← unhide HRUL, unhide HE]; exact GN.since ⟨_, _, _, rfl, unhide HD⟩ (unhide HW))
      have HL : Hid (decide (Z.length ≤ 1000) = decide ((m : Int) ≤ 1000)) := hide (decide_eq_decide.2 (by omega))
      clear hml HE
      go_wp2
      go_returns
      exact ⟨_, (by rw [unhide HL]; first | done | rfl), unhide HR⟩
end Go.Proofs.Ytccnjjkechdknaa.Rul
