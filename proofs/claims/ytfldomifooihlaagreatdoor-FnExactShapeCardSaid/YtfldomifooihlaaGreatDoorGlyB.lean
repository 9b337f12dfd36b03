/- What the program lays: one glyph more. -/
import Derived.Test.YtfldomifooihlaaGreatDoorHG1
import Derived.Test.YtfldomifooihlaaGreatDoorChrA
namespace Go.Proofs.YtfldomifooihlaaGreatDoor.Gly
open Go.RowKit Chr
set_option linter.unusedVariables false
theorem cells_new (w : World) (cs : List Value) (t : TypeId) : ∀ j u, cs[j]? = some u → (w.alloc (.cells cs.toArray t)).cell? ((⟨w.heap.size, 0, none⟩ : Addr).add j) = some u := by
  intro j u hu
  have e : (⟨w.heap.size, 0, none⟩ : Addr).add j = ⟨w.heap.size, j, none⟩ := by
    simp [Addr.add]
    omega
  rw [e]
  have hl := heap_alloc_last w (.cells cs.toArray t)
  simp only [World.cell?, hl]
  simpa using hu
theorem drewA_bel (w : World) (o : Obj) : Below w.heap.size w ((w.drewN 1).alloc o) := (drewN_bel w 1).alloc (Nat.le_refl _) o
theorem five_of {w : World} {q : Nat} {a b c d e : Value} {t : TypeId} (h : w.heap[q]? = some (.cells #[a, b, c, d, e] t (0, 0))) : w.cell? ⟨q, 0, none⟩ = some a ∧ w.cell? ⟨q, 1, none⟩ = some b ∧ w.cell? ⟨q, 2, none⟩ = some c ∧ w.cell? ⟨q, 3, none⟩ = some d ∧ w.cell? ⟨q, 4, none⟩ = some e := by
  refine ⟨?_, ?_, ?_, ?_, ?_⟩ <;> simp [World.cell?, h]
theorem lay_v {s : St} {g : Int × Int × Int} (h : vwa g.1 = true) : lay s g = ⟨s.laid ++ [g], s.held, s.bd⟩ := by unfold lay; rw [if_pos h]
theorem lay_c {s : St} {g : Int × Int × Int} (h : vwa g.1 = false) (h2 : con g.1 = true) (h3 : s.bd = true) : lay s g = ⟨s.laid, s.held ++ [g], false⟩ := by unfold lay; rw [h, h2, h3]; rfl
theorem lay_s {s : St} {g : Int × Int × Int} (h : vwa g.1 = false) (h2 : con g.1 = true) (h3 : s.bd = false) : lay s g = ⟨s.laid ++ s.held, [] ++ [g], false⟩ := by unfold lay; rw [h, h2, h3]; rfl
theorem lay_b {s : St} {g : Int × Int × Int} (h : vwa g.1 = false) (h2 : con g.1 = false) (h3 : bin g.1 = true) (h4 : s.held ≠ []) : lay s g = ⟨s.laid, s.held ++ [g], s.bd || (g.1 == 1584)⟩ := by unfold lay; rw [h, h2, if_pos (And.intro h3 h4)]; rfl
theorem lay_d {s : St} {g : Int × Int × Int} (h : vwa g.1 = false) (h2 : con g.1 = false) (h3 : ¬ (bin g.1 = true ∧ s.held ≠ [])) : lay s g = ⟨s.laid ++ s.held ++ [g], [], false⟩ := by unfold lay; rw [h, h2, if_neg h3]; rfl
set_option maxHeartbeats 4000000 in
set_option maxRecDepth 100000 in
theorem lay_any (w0 w : World) (g : Nat) (lv hv : Value) (s : St) (x f c : Int) (h : BS w0 w g lv hv s) (hl : s.laid.length + s.held.length ≤ 65535) :
    Calls Tryz.prog 57 #[.pointer (some ⟨g, 0, none⟩), .agg #[.int .i64 x, .int .i64 f, .int .i64 c, .int .i64 0, .int .i64 0]] w fun e w' => e = .returned (.tuple #[]) ∧ ∃ lv' hv', BS w0 w' g lv' hv' (lay s (x, f, c)) := by
  obtain ⟨i0, hi, hz0, hz1, hz2⟩ := info_parts infoG
  obtain ⟨L, H, d⟩ := s
  have hgl := h.lt
  have hqg : w.heap.size ≠ g := by omega
  have nlq : lv.ownBlock ≠ some w.heap.size := fun e => by have := (World.ownsRow.lt h.lo _ e).2; omega
  have nhq : hv.ownBlock ≠ some w.heap.size := fun e => by have := (World.ownsRow.lt h.ho _ e).2; omega
  obtain ⟨ha, hc, hhv, hh⟩ := h.ho.form
  have T := hide (h.below ((Below.refl _ _).alloc (Nat.le_refl _) (.cells #[.int .i64 x, .int .i64 f, .int .i64 c, .int .i64 0, .int .i64 0] 52)))
  have nb : (w.alloc (.cells #[.int .i64 x, .int .i64 f, .int .i64 c, .int .i64 0, .int .i64 0] 52)).heap[w.heap.size]? = some (.cells #[.int .i64 x, .int .i64 f, .int .i64 c, .int .i64 0, .int .i64 0] 52 (0, 0)) := heap_alloc_last _ _
  have qlt : w.heap.size < (w.alloc (.cells #[.int .i64 x, .int .i64 f, .int .i64 c, .int .i64 0, .int .i64 0] 52)).heap.size := by simp
  have CV := hide (fun W => isVwa_any x W)
  have CC := hide (fun W => isCon_any x W)
  have CB := hide (fun W => isBin_any x W)
  dsimp only at hl hhv hh
  subst hhv
  clear h
  go_enter Tryz.func57, Tryz.ntmps57
  go_upto_region 3 with fail
  generalize w.alloc (.cells #[.int .i64 x, .int .i64 f, .int .i64 c, .int .i64 0, .int .i64 0] 52) = w1 at *
  generalize w.heap.size = q at *
  obtain ⟨m0, _, _, _, _⟩ := five_of nb
  obtain ⟨b0, b1, b2, bf⟩ := box3 (unhide T).bx
  dsimp only at b0 b1 b2
  cases v1 : vwa x
  · rw [v1] at CV
    cases v2 : con x
    · rw [v2] at CC
      cases v3 : bin x
      · rw [v3] at CB
        have hlh : (L ++ H).length ≤ 65535 := by simp; omega
        have E := hide (lay_d (s := ⟨L, H, d⟩) (g := (x, f, c)) v1 v2 (by simp [v3]))
        go_wp2_with (first | (go_at_call 87; refine ((unhide CV) _).mono ?_; rintro e w2 ⟨rfl, e2⟩; have e3 := e2.symm; subst e3) | (go_at_call 88; refine ((unhide CC) _).mono ?_; rintro e w2 ⟨rfl, e2⟩; have e3 := e2.symm; subst e3) | (go_at_call 89; refine ((unhide CB) _).mono ?_; rintro e w2 ⟨rfl, e2⟩; have e3 := e2.symm; subst e3) | fail)
        refine (settle_any w0 _ g _ _ _ (unhide T) (by dsimp only; omega)).mono ?_
        rintro e w4 ⟨rfl, ⟨lv2, hv2, hb2⟩, hz, hfr⟩
        have T4 := hide hb2
        have nb := (hfr q qlt hqg nlq).trans nb
        clear hfr hb2 CV CC CB b0 b1 b2 bf m0 T
        unfold settle at T4
        dsimp only at T4
        obtain ⟨n0, n1, n2, n3, n4⟩ := five_of nb
        obtain ⟨u0, u1, u2, uf⟩ := box3 (unhide T4).bx
        have HA := hide ((unhide T4).below (drewA_bel w4 (.cells #[.int .i64 x, .int .i64 f, .int .i64 c, .int .i64 0, .int .i64 0] 52)))
        obtain ⟨a0, a1, _, _⟩ := box3 ((unhide T4).below ((Below.refl _ _).alloc (Nat.le_refl _) (.cells #[.int .i64 x, .int .i64 f, .int .i64 c, .int .i64 0, .int .i64 0] 52))).bx
        clear uf
        go_upto_region 2 with fail
        go_region_law (refine step_appG rfl (.tmp 10) (.tmp 12) 28 rfl w0.heap.size 52 i0 (.agg #[.int .i64 0, .int .i64 0, .int .i64 0, .int .i64 0, .int .i64 0]) 5 40 Tryz.underlying28 hi hz0 hz1 hz2 rfl (by decide) lv2 (L ++ H).length ((flt (L ++ H)).map (Value.int .i64)) (by simp [Act.eval]) (unhide HA).lo ⟨w4.heap.size, 0, none⟩ 1 1 ((cel (x, f, c)).map (Value.int .i64)) (by simp [Act.eval]) rfl (cells_new (w4.drewN 1) _ _) (one_cells _) (by unfold maxLen; first | omega | (simp; done) | (simp; omega)) (by first | omega | (simp; done) | (simp; omega)) (unhide HA).sz ?_; intro v' w3 hown' hgrow hblk; have T2 := hide ((unhide HA).putL (GR.app (G := (L ++ H)) (H := [(x, f, c)]) (by rw [flt_one]; exact hown') rfl) hgrow hblk); have bx3 := box3 ((hgrow.block g (unhide HA).lt (fun e => (unhide HA).nl e.symm)).trans (unhide HA).bx); have d0 := bx3.1; have df := bx3.2.2.2 0; obtain ⟨va, vc, ev, hva⟩ := GR.form (GR.app (G := (L ++ H)) (H := [(x, f, c)]) (by rw [flt_one]; exact hown') rfl); generalize ((L ++ H) ++ [(x, f, c)]).length = n' at ev; subst ev; clear hva hown' hgrow hblk bx3)
        all_goals
          go_wp2
          go_end0
          have R := unhide T2
          rw [← unhide E] at R
          exact ⟨rfl, _, _, R⟩
      · rw [v3] at CB
        rcases hh with ⟨rfl, rfl, e0⟩ | ⟨hb, rfl, hbc, _, _⟩
        · have hlh : (L ++ H).length ≤ 65535 := by simp; omega
          have hH0 : H.length = 0 := by rw [e0]; rfl
          have hp0 : ¬ (0 : Int) < (H.length : Int) := by omega
          have E := hide (lay_d (s := ⟨L, H, d⟩) (g := (x, f, c)) v1 v2 (by simp [e0]))
          clear e0
          go_wp2_with (first | (go_at_call 87; refine ((unhide CV) _).mono ?_; rintro e w2 ⟨rfl, e2⟩; have e3 := e2.symm; subst e3) | (go_at_call 88; refine ((unhide CC) _).mono ?_; rintro e w2 ⟨rfl, e2⟩; have e3 := e2.symm; subst e3) | (go_at_call 89; refine ((unhide CB) _).mono ?_; rintro e w2 ⟨rfl, e2⟩; have e3 := e2.symm; subst e3) | fail)
          refine (settle_any w0 _ g _ _ _ (unhide T) (by dsimp only; omega)).mono ?_
          rintro e w4 ⟨rfl, ⟨lv2, hv2, hb2⟩, hz, hfr⟩
          have T4 := hide hb2
          have nb := (hfr q qlt hqg nlq).trans nb
          clear hfr hb2 CV CC CB b0 b1 b2 bf m0 T
          unfold settle at T4
          dsimp only at T4
          obtain ⟨n0, n1, n2, n3, n4⟩ := five_of nb
          obtain ⟨u0, u1, u2, uf⟩ := box3 (unhide T4).bx
          have HA := hide ((unhide T4).below (drewA_bel w4 (.cells #[.int .i64 x, .int .i64 f, .int .i64 c, .int .i64 0, .int .i64 0] 52)))
          obtain ⟨a0, a1, _, _⟩ := box3 ((unhide T4).below ((Below.refl _ _).alloc (Nat.le_refl _) (.cells #[.int .i64 x, .int .i64 f, .int .i64 c, .int .i64 0, .int .i64 0] 52))).bx
          clear uf
          go_upto_region 2 with fail
          go_region_law (refine step_appG rfl (.tmp 10) (.tmp 12) 28 rfl w0.heap.size 52 i0 (.agg #[.int .i64 0, .int .i64 0, .int .i64 0, .int .i64 0, .int .i64 0]) 5 40 Tryz.underlying28 hi hz0 hz1 hz2 rfl (by decide) lv2 (L ++ H).length ((flt (L ++ H)).map (Value.int .i64)) (by simp [Act.eval]) (unhide HA).lo ⟨w4.heap.size, 0, none⟩ 1 1 ((cel (x, f, c)).map (Value.int .i64)) (by simp [Act.eval]) rfl (cells_new (w4.drewN 1) _ _) (one_cells _) (by unfold maxLen; first | omega | (simp; done) | (simp; omega)) (by first | omega | (simp; done) | (simp; omega)) (unhide HA).sz ?_; intro v' w3 hown' hgrow hblk; have T2 := hide ((unhide HA).putL (GR.app (G := (L ++ H)) (H := [(x, f, c)]) (by rw [flt_one]; exact hown') rfl) hgrow hblk); have bx3 := box3 ((hgrow.block g (unhide HA).lt (fun e => (unhide HA).nl e.symm)).trans (unhide HA).bx); have d0 := bx3.1; have df := bx3.2.2.2 0; obtain ⟨va, vc, ev, hva⟩ := GR.form (GR.app (G := (L ++ H)) (H := [(x, f, c)]) (by rw [flt_one]; exact hown') rfl); generalize ((L ++ H) ++ [(x, f, c)]).length = n' at ev; subst ev; clear hva hown' hgrow hblk bx3)
          all_goals
            go_wp2
            go_end0
            have R := unhide T2
            rw [← unhide E] at R
            exact ⟨rfl, _, _, R⟩
        · by_cases e0 : H = []
          · have hlh : (L ++ H).length ≤ 65535 := by simp; omega
            have hH0 : H.length = 0 := by rw [e0]; rfl
            have hp0 : ¬ (0 : Int) < (H.length : Int) := by omega
            have E := hide (lay_d (s := ⟨L, H, d⟩) (g := (x, f, c)) v1 v2 (by simp [e0]))
            clear e0
            go_wp2_with (first | (go_at_call 87; refine ((unhide CV) _).mono ?_; rintro e w2 ⟨rfl, e2⟩; have e3 := e2.symm; subst e3) | (go_at_call 88; refine ((unhide CC) _).mono ?_; rintro e w2 ⟨rfl, e2⟩; have e3 := e2.symm; subst e3) | (go_at_call 89; refine ((unhide CB) _).mono ?_; rintro e w2 ⟨rfl, e2⟩; have e3 := e2.symm; subst e3) | fail)
            refine (settle_any w0 _ g _ _ _ (unhide T) (by dsimp only; omega)).mono ?_
            rintro e w4 ⟨rfl, ⟨lv2, hv2, hb2⟩, hz, hfr⟩
            have T4 := hide hb2
            have nb := (hfr q qlt hqg nlq).trans nb
            clear hfr hb2 CV CC CB b0 b1 b2 bf m0 T
            unfold settle at T4
            dsimp only at T4
            obtain ⟨n0, n1, n2, n3, n4⟩ := five_of nb
            obtain ⟨u0, u1, u2, uf⟩ := box3 (unhide T4).bx
            have HA := hide ((unhide T4).below (drewA_bel w4 (.cells #[.int .i64 x, .int .i64 f, .int .i64 c, .int .i64 0, .int .i64 0] 52)))
            obtain ⟨a0, a1, _, _⟩ := box3 ((unhide T4).below ((Below.refl _ _).alloc (Nat.le_refl _) (.cells #[.int .i64 x, .int .i64 f, .int .i64 c, .int .i64 0, .int .i64 0] 52))).bx
            clear uf
            go_upto_region 2 with fail
            go_region_law (refine step_appG rfl (.tmp 10) (.tmp 12) 28 rfl w0.heap.size 52 i0 (.agg #[.int .i64 0, .int .i64 0, .int .i64 0, .int .i64 0, .int .i64 0]) 5 40 Tryz.underlying28 hi hz0 hz1 hz2 rfl (by decide) lv2 (L ++ H).length ((flt (L ++ H)).map (Value.int .i64)) (by simp [Act.eval]) (unhide HA).lo ⟨w4.heap.size, 0, none⟩ 1 1 ((cel (x, f, c)).map (Value.int .i64)) (by simp [Act.eval]) rfl (cells_new (w4.drewN 1) _ _) (one_cells _) (by unfold maxLen; first | omega | (simp; done) | (simp; omega)) (by first | omega | (simp; done) | (simp; omega)) (unhide HA).sz ?_; intro v' w3 hown' hgrow hblk; have T2 := hide ((unhide HA).putL (GR.app (G := (L ++ H)) (H := [(x, f, c)]) (by rw [flt_one]; exact hown') rfl) hgrow hblk); have bx3 := box3 ((hgrow.block g (unhide HA).lt (fun e => (unhide HA).nl e.symm)).trans (unhide HA).bx); have d0 := bx3.1; have df := bx3.2.2.2 0; obtain ⟨va, vc, ev, hva⟩ := GR.form (GR.app (G := (L ++ H)) (H := [(x, f, c)]) (by rw [flt_one]; exact hown') rfl); generalize ((L ++ H) ++ [(x, f, c)]).length = n' at ev; subst ev; clear hva hown' hgrow hblk bx3)
            all_goals
              go_wp2
              go_end0
              have R := unhide T2
              rw [← unhide E] at R
              exact ⟨rfl, _, _, R⟩
          · have hH0 : 0 < H.length := List.length_pos_iff.2 e0
            have hp0 : (0 : Int) < (H.length : Int) := by omega
            have E := hide (lay_b (s := ⟨L, H, d⟩) (g := (x, f, c)) v1 v2 v3 e0)
            obtain ⟨n0, n1, n2, n3, n4⟩ := five_of nb
            obtain ⟨u0, u1, u2, uf⟩ := box3 (unhide T).bx
            have HA := hide ((unhide T).below (drewA_bel w1 (.cells #[.int .i64 x, .int .i64 f, .int .i64 c, .int .i64 0, .int .i64 0] 52)))
            obtain ⟨a0, a1, _, _⟩ := box3 ((unhide T).below ((Below.refl _ _).alloc (Nat.le_refl _) (.cells #[.int .i64 x, .int .i64 f, .int .i64 c, .int .i64 0, .int .i64 0] 52))).bx
            clear uf
            go_upto_region 11 with (first | (go_at_call 87; refine ((unhide CV) _).mono ?_; rintro e w2 ⟨rfl, e2⟩; have e3 := e2.symm; subst e3) | (go_at_call 88; refine ((unhide CC) _).mono ?_; rintro e w2 ⟨rfl, e2⟩; have e3 := e2.symm; subst e3) | (go_at_call 89; refine ((unhide CB) _).mono ?_; rintro e w2 ⟨rfl, e2⟩; have e3 := e2.symm; subst e3))
            go_region_law (refine step_appG rfl (.tmp 70) (.tmp 72) 28 rfl w0.heap.size 52 i0 (.agg #[.int .i64 0, .int .i64 0, .int .i64 0, .int .i64 0, .int .i64 0]) 5 40 Tryz.underlying28 hi hz0 hz1 hz2 rfl (by decide) (.slice (some ⟨hb, 0, none⟩) H.length hc) H.length ((flt H).map (Value.int .i64)) (by simp [Act.eval]) (unhide HA).ho ⟨w1.heap.size, 0, none⟩ 1 1 ((cel (x, f, c)).map (Value.int .i64)) (by simp [Act.eval]) rfl (cells_new (w1.drewN 1) _ _) (one_cells _) (by unfold maxLen; first | omega | (simp; done) | (simp; omega)) (by first | omega | (simp; done) | (simp; omega)) (unhide HA).sz ?_; intro v' w3 hown' hgrow hblk; have nq := (hgrow.block q (by simp; omega) (fun e => nhq e.symm)).trans (((drewA_bel w1 (.cells #[.int .i64 x, .int .i64 f, .int .i64 c, .int .i64 0, .int .i64 0] 52)).block q qlt).trans nb); have T2 := hide ((unhide HA).putH (GR.app (G := H) (H := [(x, f, c)]) (by rw [flt_one]; exact hown') rfl) hgrow hblk); have bx3 := box3 ((hgrow.block g (unhide HA).lt (fun e => (unhide HA).nh e.symm)).trans (unhide HA).bx); have d0 := bx3.2.1; have df := bx3.2.2.2 1; obtain ⟨va, vc, ev, hva⟩ := GR.form (GR.app (G := H) (H := [(x, f, c)]) (by rw [flt_one]; exact hown') rfl); generalize (H ++ [(x, f, c)]).length = n' at ev; subst ev; clear hva hown' hgrow hblk bx3)
            all_goals
              have nq2 := (heap_setCell_other w3 ⟨g, 1, none⟩ q (.slice va n' vc) hqg).trans nq
              go_upto_region 12 with fail
              generalize w3.setCell ⟨g, 1, none⟩ (.slice va n' vc) = wa at *
              obtain ⟨k0, _, _, _, _⟩ := five_of nq2
              obtain ⟨_, _, z2, zf⟩ := box3 (unhide T2).bx
              have zf2 := zf 2
              have T3 := hide ((unhide T2).setB (d || (x == 1584)))
              clear zf nq nq2
              cases d
              · cases qq : (x == 1584)
                · rw [qq] at T3
                  rw [qq] at E
                  go_wp2
                  go_end0
                  have R := unhide T3
                  rw [← unhide E] at R
                  exact ⟨rfl, _, _, R⟩
                · rw [qq] at T3
                  rw [qq] at E
                  go_wp2
                  go_end0
                  have R := unhide T3
                  rw [← unhide E] at R
                  exact ⟨rfl, _, _, R⟩
              · go_wp2
                go_end0
                have R := unhide T3
                rw [← unhide E] at R
                exact ⟨rfl, _, _, R⟩
    · rw [v2] at CC
      cases d
      · have E := hide (lay_s (s := ⟨L, H, false⟩) (g := (x, f, c)) v1 v2 rfl)
        go_wp2_with (first | (go_at_call 87; refine ((unhide CV) _).mono ?_; rintro e w2 ⟨rfl, e2⟩; have e3 := e2.symm; subst e3) | (go_at_call 88; refine ((unhide CC) _).mono ?_; rintro e w2 ⟨rfl, e2⟩; have e3 := e2.symm; subst e3) | fail)
        refine (settle_any w0 _ g _ _ _ (unhide T) (by dsimp only; omega)).mono ?_
        rintro e w4 ⟨rfl, ⟨lv2, hv2, hb2⟩, hz, hfr⟩
        have T4 := hide hb2
        have nb := (hfr q qlt hqg nlq).trans nb
        clear hfr hb2 CV CC CB b0 b1 b2 bf m0 T
        unfold settle at T4
        dsimp only at T4
        obtain ⟨n0, n1, n2, n3, n4⟩ := five_of nb
        obtain ⟨u0, u1, u2, uf⟩ := box3 (unhide T4).bx
        have HA := hide ((unhide T4).below (drewA_bel w4 (.cells #[.int .i64 x, .int .i64 f, .int .i64 c, .int .i64 0, .int .i64 0] 52)))
        obtain ⟨a0, a1, _, _⟩ := box3 ((unhide T4).below ((Below.refl _ _).alloc (Nat.le_refl _) (.cells #[.int .i64 x, .int .i64 f, .int .i64 c, .int .i64 0, .int .i64 0] 52))).bx
        clear uf
        go_upto_region 8 with fail
        go_region_law (refine step_appG rfl (.tmp 45) (.tmp 47) 28 rfl w0.heap.size 52 i0 (.agg #[.int .i64 0, .int .i64 0, .int .i64 0, .int .i64 0, .int .i64 0]) 5 40 Tryz.underlying28 hi hz0 hz1 hz2 rfl (by decide) hv2 ([] : List (Int × Int × Int)).length ((flt ([] : List (Int × Int × Int))).map (Value.int .i64)) (by simp [Act.eval]) (unhide HA).ho ⟨w4.heap.size, 0, none⟩ 1 1 ((cel (x, f, c)).map (Value.int .i64)) (by simp [Act.eval]) rfl (cells_new (w4.drewN 1) _ _) (one_cells _) (by unfold maxLen; first | omega | (simp; done) | (simp; omega)) (by first | omega | (simp; done) | (simp; omega)) (unhide HA).sz ?_; intro v' w3 hown' hgrow hblk; have T2 := hide ((unhide HA).putH (GR.app (G := ([] : List (Int × Int × Int))) (H := [(x, f, c)]) (by rw [flt_one]; exact hown') rfl) hgrow hblk); have bx3 := box3 ((hgrow.block g (unhide HA).lt (fun e => (unhide HA).nh e.symm)).trans (unhide HA).bx); have d0 := bx3.2.1; have df := bx3.2.2.2 1; obtain ⟨va, vc, ev, hva⟩ := GR.form (GR.app (G := ([] : List (Int × Int × Int))) (H := [(x, f, c)]) (by rw [flt_one]; exact hown') rfl); generalize (([] : List (Int × Int × Int)) ++ [(x, f, c)]).length = n' at ev; subst ev; clear hva hown' hgrow hblk bx3)
        all_goals
          obtain ⟨_, _, z2, zf⟩ := box3 (unhide T2).bx
          have zf2 := zf 2
          have T3 := hide ((unhide T2).setB false)
          clear zf
          go_wp2
          go_end0
          have R := unhide T3
          rw [← unhide E] at R
          exact ⟨rfl, _, _, R⟩
      · have E := hide (lay_c (s := ⟨L, H, true⟩) (g := (x, f, c)) v1 v2 rfl)
        clear bf
        obtain ⟨n0, n1, n2, n3, n4⟩ := five_of nb
        obtain ⟨u0, u1, u2, uf⟩ := box3 (unhide T).bx
        have HA := hide ((unhide T).below (drewA_bel w1 (.cells #[.int .i64 x, .int .i64 f, .int .i64 c, .int .i64 0, .int .i64 0] 52)))
        obtain ⟨a0, a1, _, _⟩ := box3 ((unhide T).below ((Below.refl _ _).alloc (Nat.le_refl _) (.cells #[.int .i64 x, .int .i64 f, .int .i64 c, .int .i64 0, .int .i64 0] 52))).bx
        clear uf
        go_upto_region 8 with (first | (go_at_call 87; refine ((unhide CV) _).mono ?_; rintro e w2 ⟨rfl, e2⟩; have e3 := e2.symm; subst e3) | (go_at_call 88; refine ((unhide CC) _).mono ?_; rintro e w2 ⟨rfl, e2⟩; have e3 := e2.symm; subst e3) | (go_at_call 89; refine ((unhide CB) _).mono ?_; rintro e w2 ⟨rfl, e2⟩; have e3 := e2.symm; subst e3))
        go_region_law (refine step_appG rfl (.tmp 45) (.tmp 47) 28 rfl w0.heap.size 52 i0 (.agg #[.int .i64 0, .int .i64 0, .int .i64 0, .int .i64 0, .int .i64 0]) 5 40 Tryz.underlying28 hi hz0 hz1 hz2 rfl (by decide) (.slice ha H.length hc) H.length ((flt H).map (Value.int .i64)) (by simp [Act.eval]) (unhide HA).ho ⟨w1.heap.size, 0, none⟩ 1 1 ((cel (x, f, c)).map (Value.int .i64)) (by simp [Act.eval]) rfl (cells_new (w1.drewN 1) _ _) (one_cells _) (by unfold maxLen; first | omega | (simp; done) | (simp; omega)) (by first | omega | (simp; done) | (simp; omega)) (unhide HA).sz ?_; intro v' w3 hown' hgrow hblk; have T2 := hide ((unhide HA).putH (GR.app (G := H) (H := [(x, f, c)]) (by rw [flt_one]; exact hown') rfl) hgrow hblk); have bx3 := box3 ((hgrow.block g (unhide HA).lt (fun e => (unhide HA).nh e.symm)).trans (unhide HA).bx); have d0 := bx3.2.1; have df := bx3.2.2.2 1; obtain ⟨va, vc, ev, hva⟩ := GR.form (GR.app (G := H) (H := [(x, f, c)]) (by rw [flt_one]; exact hown') rfl); generalize (H ++ [(x, f, c)]).length = n' at ev; subst ev; clear hva hown' hgrow hblk bx3)
        all_goals
          obtain ⟨_, _, z2, zf⟩ := box3 (unhide T2).bx
          have zf2 := zf 2
          have T3 := hide ((unhide T2).setB false)
          clear zf
          go_wp2
          go_end0
          have R := unhide T3
          rw [← unhide E] at R
          exact ⟨rfl, _, _, R⟩
  · rw [v1] at CV
    have E := hide (lay_v (s := ⟨L, H, d⟩) (g := (x, f, c)) v1)
    clear bf
    obtain ⟨n0, n1, n2, n3, n4⟩ := five_of nb
    obtain ⟨u0, u1, u2, uf⟩ := box3 (unhide T).bx
    have HA := hide ((unhide T).below (drewA_bel w1 (.cells #[.int .i64 x, .int .i64 f, .int .i64 c, .int .i64 0, .int .i64 0] 52)))
    obtain ⟨a0, a1, _, _⟩ := box3 ((unhide T).below ((Below.refl _ _).alloc (Nat.le_refl _) (.cells #[.int .i64 x, .int .i64 f, .int .i64 c, .int .i64 0, .int .i64 0] 52))).bx
    clear uf
    go_upto_region 4 with (first | (go_at_call 87; refine ((unhide CV) _).mono ?_; rintro e w2 ⟨rfl, e2⟩; have e3 := e2.symm; subst e3) | (go_at_call 88; refine ((unhide CC) _).mono ?_; rintro e w2 ⟨rfl, e2⟩; have e3 := e2.symm; subst e3) | (go_at_call 89; refine ((unhide CB) _).mono ?_; rintro e w2 ⟨rfl, e2⟩; have e3 := e2.symm; subst e3))
    go_region_law (refine step_appG rfl (.tmp 24) (.tmp 26) 28 rfl w0.heap.size 52 i0 (.agg #[.int .i64 0, .int .i64 0, .int .i64 0, .int .i64 0, .int .i64 0]) 5 40 Tryz.underlying28 hi hz0 hz1 hz2 rfl (by decide) lv L.length ((flt L).map (Value.int .i64)) (by simp [Act.eval]) (unhide HA).lo ⟨w1.heap.size, 0, none⟩ 1 1 ((cel (x, f, c)).map (Value.int .i64)) (by simp [Act.eval]) rfl (cells_new (w1.drewN 1) _ _) (one_cells _) (by unfold maxLen; first | omega | (simp; done) | (simp; omega)) (by first | omega | (simp; done) | (simp; omega)) (unhide HA).sz ?_; intro v' w3 hown' hgrow hblk; have T2 := hide ((unhide HA).putL (GR.app (G := L) (H := [(x, f, c)]) (by rw [flt_one]; exact hown') rfl) hgrow hblk); have bx3 := box3 ((hgrow.block g (unhide HA).lt (fun e => (unhide HA).nl e.symm)).trans (unhide HA).bx); have d0 := bx3.1; have df := bx3.2.2.2 0; obtain ⟨va, vc, ev, hva⟩ := GR.form (GR.app (G := L) (H := [(x, f, c)]) (by rw [flt_one]; exact hown') rfl); generalize (L ++ [(x, f, c)]).length = n' at ev; subst ev; clear hva hown' hgrow hblk bx3)
    all_goals
      go_wp2
      go_end0
      have R := unhide T2
      rw [← unhide E] at R
      exact ⟨rfl, _, _, R⟩
end Go.Proofs.YtfldomifooihlaaGreatDoor.Gly
