/- A text in a font, as the specification shapes it. -/
import Derived.Test.YtfldomifooihlaaGreatDoorHS3
namespace Go.Proofs.YtfldomifooihlaaGreatDoor
namespace Sha
open Go.RowKit Fnt Rul
set_option linter.unusedVariables false
set_option linter.unusedSimpArgs false
set_option maxRecDepth 100000 in
set_option maxHeartbeats 16000000 in
theorem spec_ok (f : Ft) (v : Value) (n : Nat) (Q : List (List Int)) (s : ByteArray) (w : World) (h : FA w v f.wd f.lw n Q f.lk f.la) (hf : Fit f.lw n Q f.lk f.la) (hs : s.size ≤ 65536) (hb : ffb f.wd f.lw n Q f.lk f.la = true) :
    Calls Tryz.prog 5 #[v, .string s] w fun e w' => ∃ gv, e = .returned (.agg #[.int .i64 (shp f.wd f.lw n Q f.lk f.la s).1, gv, .int .i64 (shp f.wd f.lw n Q f.lk f.la s).2.2]) ∧ FR w' w.heap.size gv (shp f.wd f.lw n Q f.lk f.la s).2.1.length (flt (shp f.wd f.lw n Q f.lk f.la s).2.1) ∧ Below w.heap.size w w' := by
  have hgt : ¬ (65536 : Int) < (s.size : Int) := by omega
  have CF := hide (fun W (h : FA W v f.wd f.lw n Q f.lk f.la) => specFF v f.wd f.lw n Q f.lk f.la W h hf)
  have hff : ff f.wd f.lw n Q f.lk f.la = 0 := if_pos hb
  rw [hff] at CF
  obtain ⟨o1, o4, o2, o3⟩ := ffb_is hb
  have HLA := hide (fun id => ffb_la hb id)
  have HSH : Hid (shp f.wd f.lw n Q f.lk f.la s = if 1000 < (shR s n Q).length then (8, [], 0) else (0, (run f (shR s n Q) (shR s n Q).length).1, (run f (shR s n Q) (shR s n Q).length).2.1)) := hide (by unfold shp; rw [if_neg (by omega), if_pos hb])
  have HX0 := hide (shR_x0 s n Q)
  clear hff hb
  have HF := hide h
  obtain ⟨a1, a2, a3, a4, c1, c2, c3, c4, rfl, ⟨B1, s1⟩, s2, ⟨B3, s3⟩, B4, s4⟩ := h.form
  obtain ⟨W0, hW0⟩ : ∃ W0, W0 = (w.alloc (.cells #[.int .i64 f.wd, .slice a1 f.lw.length c1, .slice a2 n c2, .slice a3 f.lk.length c3, .slice a4 f.la.length c4] 36)).alloc (.cells #[.int .i64 0, .slice none 0 0, .int .i64 0] 30) := ⟨_, rfl⟩
  have hS : Sw w W0 #[.int .i64 f.wd, .slice a1 f.lw.length c1, .slice a2 n c2, .slice a3 f.lk.length c3, .slice a4 f.la.length c4] := by rw [hW0]; exact Sw.new w _
  obtain ⟨b0, b1, b2, b3, b4⟩ := five_f hS.box
  have HF0 := hide ((unhide HF).below hS.bel)
  have CG := hide (fun W => sgly s W hs)
  have CU : Hid (∀ gv W0 W, Rul.RuI W (.slice a2 n c2) n Q → GN W0 W gv ((Gly.glyS s).map gl5) → Calls Tryz.prog 17 #[.slice a2 n c2, gv] W fun e w' => ∃ v', e = .returned (.tuple #[v', .bool (decide ((shR s n Q).length ≤ 1000))]) ∧ GN W0 w' v' (shR s n Q)) := hide (fun gv W0 W hv hG => apply_long (.slice a2 n c2) gv n Q ((Gly.glyS s).map gl5) W0 W hv o2 hG (by rw [List.length_map]; exact Gly.glyS_len s))
  have HR := hide (rui_of s2)
  have CK := hide (fun ka kb W (hb : Below w.heap.size w W) => l10Kern_any (.slice a3 f.lk.length c3) f.lk ka kb B3 W (s3.below hb) hf.2.2.2.1)
  have CA := hide (fun id W (hb : Below w.heap.size w W) => l10Value_any (.slice a4 f.la.length c4) f.la id 0 B4 W (s4.below hb) hf.2.2.2.2)
  have CV := hide (fun id W (hb : Below w.heap.size w W) => l10Value_any (.slice a1 f.lw.length c1) f.lw id f.wd B1 W (s1.below hb) hf.1)
  clear h s1 s2 s3 s4 o1 o2 o3 o4
  go_enter Tryz.func5, Tryz.ntmps5
  go_upto_region 1 with fail
  rw [← hW0]
  clear hW0
  go_upto_region 5 with (go_at_call 16; refine ((unhide CF) _ (unhide HF0)).mono ?_; rintro e w1 ⟨rfl, hb1⟩; have hS1 := hS.below hb1; clear hb1)
  have KS : (fun w' => w'.cell? ⟨w.heap.size, 0, none⟩ = some (.int .i64 f.wd) ∧ w'.cell? ⟨w.heap.size, 1, none⟩ = some (.slice a1 f.lw.length c1) ∧ w'.cell? ⟨w.heap.size, 2, none⟩ = some (.slice a2 n c2) ∧ w'.cell? ⟨w.heap.size, 3, none⟩ = some (.slice a3 f.lk.length c3) ∧ w'.cell? ⟨w.heap.size, 4, none⟩ = some (.slice a4 f.la.length c4)) w1 := ⟨(five_f hS1.box).1, (five_f hS1.box).2.1, (five_f hS1.box).2.2.1, (five_f hS1.box).2.2.2.1, (five_f hS1.box).2.2.2.2⟩
  refine wp_region_held_drew (S := fun w' => w'.cell? ⟨w.heap.size, 0, none⟩ = some (.int .i64 f.wd) ∧ w'.cell? ⟨w.heap.size, 1, none⟩ = some (.slice a1 f.lw.length c1) ∧ w'.cell? ⟨w.heap.size, 2, none⟩ = some (.slice a2 n c2) ∧ w'.cell? ⟨w.heap.size, 3, none⟩ = some (.slice a3 f.lk.length c3) ∧ w'.cell? ⟨w.heap.size, 4, none⟩ = some (.slice a4 f.la.length c4)) (by kernel_rfl) (by first | exact KS | go_keep) (fun hHeld => ?_)
  refine tkF (i := 0) (d := some 19) (v := ?_) rfl rfl (by kernel_rfl) (by kernel_rfl) (by kernel_rfl) (fun _ _ _ h => h) (Or.inl ⟨by rfl, ?_⟩) (by assumption) ?_
  rotate_left
  · intro w hSw; (try dsimp only at hSw); go_simp; try with_reducible rfl
  try simp only [Act.put, List.setIfInBounds_toArray, List.set_cons_zero, List.set_cons_succ]
  refine tkF (i := 1) (d := some 20) (v := ?_) rfl rfl (by kernel_rfl) (by kernel_rfl) (by kernel_rfl) (fun _ _ _ h => h) (Or.inl ⟨by rfl, ?_⟩) (by assumption) ?_
  rotate_left
  · intro w hSw; (try dsimp only at hSw); go_simp; try with_reducible rfl
  try simp only [Act.put, List.setIfInBounds_toArray, List.set_cons_zero, List.set_cons_succ]
  refine tkF (i := 2) (d := some 21) (v := ?_) rfl rfl (by kernel_rfl) (by kernel_rfl) (by kernel_rfl) (fun _ _ _ h => h) (Or.inl ⟨by rfl, ?_⟩) (by assumption) ?_
  rotate_left
  · intro w hSw; (try dsimp only at hSw); go_simp; try with_reducible rfl
  try simp only [Act.put, List.setIfInBounds_toArray, List.set_cons_zero, List.set_cons_succ]
  refine wpAnyH_ready (rs := [3]) (by kernel_rfl) (by simp) (AllReadyH.cons rfl (fun K hK => ?_) AllReadyH.nil)
  go_simp
  go_at_call 18
  refine ((unhide CG) _).mono ?_
  rintro e w2 ⟨g2, rfl, hN2⟩
  have hS2 := hS1.below ((drew_below w1).trans hN2.bel)
  have KS2 : (fun w' => w'.cell? ⟨w.heap.size, 0, none⟩ = some (.int .i64 f.wd) ∧ w'.cell? ⟨w.heap.size, 1, none⟩ = some (.slice a1 f.lw.length c1) ∧ w'.cell? ⟨w.heap.size, 2, none⟩ = some (.slice a2 n c2) ∧ w'.cell? ⟨w.heap.size, 3, none⟩ = some (.slice a3 f.lk.length c3) ∧ w'.cell? ⟨w.heap.size, 4, none⟩ = some (.slice a4 f.la.length c4)) w2 := ⟨(five_f hS2.box).1, (five_f hS2.box).2.1, (five_f hS2.box).2.2.1, (five_f hS2.box).2.2.2.1, (five_f hS2.box).2.2.2.2⟩
  try go_wp2_with fail
  refine hK.out _ _ KS2 (fun hHeld1 => ?_)
  clear hK K
  try simp only [Act.put, List.setIfInBounds_toArray, List.set_cons_zero, List.set_cons_succ]
  refine wpAnyH_ready (rs := [4]) (by kernel_rfl) (by simp) (AllReadyH.cons rfl (fun K hK => ?_) AllReadyH.nil)
  go_simp
  go_at_call 17
  refine ((unhide CU) _ w1.drew _ ((unhide HR).below hS2.bel) hN2).mono ?_
  rintro e w3 ⟨g3, rfl, hN3⟩
  have hb3 := hN3.bel
  have hS3 := hS1.below ((drew_below w1).trans hb3)
  have KS3 : (fun w' => w'.cell? ⟨w.heap.size, 0, none⟩ = some (.int .i64 f.wd) ∧ w'.cell? ⟨w.heap.size, 1, none⟩ = some (.slice a1 f.lw.length c1) ∧ w'.cell? ⟨w.heap.size, 2, none⟩ = some (.slice a2 n c2) ∧ w'.cell? ⟨w.heap.size, 3, none⟩ = some (.slice a3 f.lk.length c3) ∧ w'.cell? ⟨w.heap.size, 4, none⟩ = some (.slice a4 f.la.length c4)) w3 := ⟨(five_f hS3.box).1, (five_f hS3.box).2.1, (five_f hS3.box).2.2.1, (five_f hS3.box).2.2.2.1, (five_f hS3.box).2.2.2.2⟩
  try go_wp2_with fail
  refine hK.out _ _ KS3 (fun hHeld2 => ?_)
  clear hK K
  try simp only [Act.put, List.setIfInBounds_toArray, List.set_cons_zero, List.set_cons_succ]
  refine tkF (i := 5) (d := some 18) (v := ?_) rfl rfl (by kernel_rfl) (by kernel_rfl) (by kernel_rfl) (fun _ _ _ h => h) (Or.inl ⟨by rfl, ?_⟩) (by assumption) ?_
  rotate_left
  · intro w hSw; (try dsimp only at hSw); go_simp; try with_reducible rfl
  try simp only [Act.put, List.setIfInBounds_toArray, List.set_cons_zero, List.set_cons_succ]
  refine tkF (i := 6) (d := some 24) (v := ?_) rfl rfl (by kernel_rfl) (by kernel_rfl) (by kernel_rfl) (fun _ _ _ h => h) (Or.inl ⟨by rfl, ?_⟩) (by assumption) ?_
  rotate_left
  · intro w hSw; (try dsimp only at hSw); go_simp; try with_reducible rfl
  try simp only [Act.put, List.setIfInBounds_toArray, List.set_cons_zero, List.set_cons_succ]
  refine tkF (i := 7) (d := some 25) (v := ?_) rfl rfl (by kernel_rfl) (by kernel_rfl) (by kernel_rfl) (fun _ _ _ h => h) (Or.inl ⟨by rfl, ?_⟩) (by assumption) ?_
  rotate_left
  · intro w hSw; (try dsimp only at hSw); go_simp; try with_reducible rfl
  try simp only [Act.put, List.setIfInBounds_toArray, List.set_cons_zero, List.set_cons_succ]
  refine tkF (i := 8) (d := some 5) (v := ?_) rfl rfl (by kernel_rfl) (by kernel_rfl) (by kernel_rfl) (fun _ _ _ h => h) (Or.inl ⟨by rfl, ?_⟩) (by assumption) ?_
  rotate_left
  · intro w hSw; (try dsimp only at hSw); go_simp; try with_reducible rfl
  try simp only [Act.put, List.setIfInBounds_toArray, List.set_cons_zero, List.set_cons_succ]
  refine tkF (i := 9) (d := some 6) (v := ?_) rfl rfl (by kernel_rfl) (by kernel_rfl) (by kernel_rfl) (fun _ _ _ h => h) (Or.inl ⟨by rfl, ?_⟩) (by assumption) ?_
  rotate_left
  · intro w hSw; (try dsimp only at hSw); go_simp; try with_reducible rfl
  try simp only [Act.put, List.setIfInBounds_toArray, List.set_cons_zero, List.set_cons_succ]
  refine wpAnyH_done (by kernel_rfl) ?_ _
  clear KS KS2 KS3 hHeld hHeld1 hHeld2
  obtain ⟨g, c, rfl, hR3, hg3, hg3'⟩ := gn_fr (G := shR s n Q) hN3
  have hSh := unhide HSH
  have hz1 := (Array.getElem?_eq_some_iff.1 hS1.ans).1
  by_cases hl : 1000 < (shR s n Q).length
  · have hd : decide ((shR s n Q).length ≤ 1000) = false := by simpa using hl
    rw [if_pos hl] at hSh
    have HS8 := hide hSh
    rw [hd]
    obtain ⟨⟨q0, q1, q2⟩, f0, f1, f2⟩ := three_a hS3.ans
    have HS3 := hide hS3
    clear hS hS1 hS2 hS3 hN2 hN3 hR3 hb3 hSh HSH CG CU CF HR HF HF0 hl b0 b1 b2 b3 b4 hg3 hg3' CA CV CK HX0 HLA hd hz1
    go_wp2
    refine ans_retS (unhide HS3) 8 0 (.slice none 0 0) _ _ rfl rfl (fun w' h1 _ => ?_) rfl
    rw [unhide HS8]
    exact ⟨_, rfl, World.ownsRow_nil _ _ _ _, h1⟩
  · have hd : decide ((shR s n Q).length ≤ 1000) = true := by simpa using hl
    rw [if_neg hl] at hSh
    have HS8 := hide hSh
    rw [hd]
    have hmono := own_mono hR3 (show w.heap.size + 2 ≤ w1.drew.heap.size from hz1)
    have P0 : Hid (Ps w w3 g (shR s n Q).length c #[.int .i64 f.wd, .slice a1 f.lw.length c1, .slice a2 n c2, .slice a3 f.lk.length c3, .slice a4 f.la.length c4] (flt (mid f (shR s n Q) 0))) := hide ⟨hS3, by rw [mid_zero]; exact hmono⟩
    have hGl : (shR s n Q).length ≤ 1000 := by omega
    have HRL := hide (run_len f (shR s n Q) (shR s n Q).length)
    have HMA := hide (mid_all f (shR s n Q))
    clear hS hS1 hS2 hS3 hN2 hN3 hR3 hb3 hSh HSH CG CU CF HR HF HF0 hl b0 b1 b2 b3 b4 hg3 hg3' hd hz1 hmono
    generalize (shR s n Q) = G at *
    go_wp2
    go_loopw [7, 8, 9] (fun x bp i wr => ∃ k : Nat, x = .int .i64 (run f G k).2.1 ∧ BiV f G k bp ∧ i = .int .i64 (k : Int) ∧ k ≤ G.length ∧ Hid (Ps w wr g G.length c #[.int .i64 f.wd, .slice a1 f.lw.length c1, .slice a2 n c2, .slice a3 f.lk.length c3, .slice a4 f.la.length c4] (flt (mid f G k)))) (fun _ _ i _ => G.length - (intOf i).toNat)
    case atStart => exact ⟨0, rfl, .inl ⟨rfl, rfl⟩, rfl, by omega, P0⟩
    case round =>
      obtain ⟨k, rfl, hBs, rfl, hk, HP⟩ := hrel
      clear P0
      by_cases hlt : k < G.length
      · have hlt' : (k : Int) < (G.length : Int) := by omega
        have hk0 : (0 : Int) ≤ (k : Int) := by omega
        have hP := unhide HP
        have m0 := mid_cell f G k 0 hlt (by omega)
        have r0 := (hP.row.cell (k * 5 + 0) (by omega)).1
        rw [m0] at r0
        have r0' : wr.cell? ⟨g, k * 5, none⟩ = some (.int .i64 (gat G k).1) := r0
        obtain ⟨id, hid⟩ : ∃ id, (gat G k).1 = id := ⟨_, rfl⟩
        rw [hid] at r0'
        have MM := hide (mid_mark f G k hlt)
        have MR := hide (run_mark f G k)
        have NM := hide (mid_no f G k hlt)
        have NR := hide (run_no f G k)
        have NB := hide (@Bs.new f G k)
        have BM := hide (fun bi (h : Bs f G k bi) => h.mark)
        have NN := hide (fun h => @none_mark f G k h)
        rw [hid] at MM MR NM NR NB BM NN
        have CC1 := hide (Chr.sCat id wr)
        clear m0 r0 hid
        generalize Chr.cat id = z at *
        by_cases hz : z = 3
        · have tz : (z == 3) = true := by simpa using hz
          have hMM := (unhide MM) hz
          have hMR := (unhide MR) hz
          clear MM MR NM NR NB CV CK
          rcases hBs with ⟨rfl, hno⟩ | ⟨bi, rfl, hbi⟩
          · have hNN := hide ((unhide NN) hno hz)
            rw [hno] at hMM
            obtain ⟨xc, hxc⟩ : ∃ xc : Int, xc = 0 := ⟨_, rfl⟩
            have HMM : Hid ((flt (mid f G k)).set (k * 5 + 3) (wrap64 (xc + valS f.la id 0)) = flt (mid f G (k + 1))) := hide (by rw [hxc, unhide HLA]; exact hMM)
            have HXC : Hid (nth (flt (mid f G k)) (k * 5 + 3) = xc) := hide (by rw [mid_cell f G k 3 hlt (by omega), hxc]; exact unhide HX0 k)
            have HMR := hide hMR
            clear hMM hMR hno hz BM NN hxc
            go_upto_region 16 with (go_at_call 19; refine (unhide CC1).mono ?_; rintro e w1 ⟨rfl, hb1⟩; have hP1 := hP.below hb1; have r1 := (hP1.row.cell (k * 5) (by omega)).1.trans ((hP.row.cell (k * 5) (by omega)).1.symm.trans r0'); clear hb1)
            have hPD := hP1.below (drew_below w1)
            have rD : w1.drew.cell? ⟨g, k * 5, none⟩ = some (.int .i64 id) := r1
            have e3 := hPD.row.cell (k * 5 + 3) (by omega)
            have e3c := e3.1
            have e3f := e3.2
            rw [unhide HXC] at e3c
            have hP3 := hPD.set (k * 5 + 3) (wrap64 (xc + valS f.la id 0))
            have r3 := (hP3.row.cell (k * 5) (by omega)).1
            rw [nth_ne _ _ _ _ (by omega)] at r3
            have r3' := r3.trans ((hPD.row.cell (k * 5) (by omega)).1.symm.trans rD)
            have KS3 : (fun w' => w'.cell? ⟨w.heap.size, 0, none⟩ = some (.int .i64 f.wd) ∧ w'.cell? ⟨w.heap.size, 1, none⟩ = some (.slice a1 f.lw.length c1) ∧ w'.cell? ⟨w.heap.size, 2, none⟩ = some (.slice a2 n c2) ∧ w'.cell? ⟨w.heap.size, 3, none⟩ = some (.slice a3 f.lk.length c3) ∧ w'.cell? ⟨w.heap.size, 4, none⟩ = some (.slice a4 f.la.length c4) ∧ w'.cell? ⟨g, k * 5, none⟩ = some (.int .i64 id)) (w1.drew.setCell ⟨g, k * 5 + 3, none⟩ (.int .i64 (wrap64 (xc + valS f.la id 0)))) := ⟨(five_f hP3.sw.box).1, (five_f hP3.sw.box).2.1, (five_f hP3.sw.box).2.2.1, (five_f hP3.sw.box).2.2.2.1, (five_f hP3.sw.box).2.2.2.2, r3'⟩
            have HP3 := hide hP3
            clear e3 r3 hP3
            have KSD : (fun w' => w'.cell? ⟨w.heap.size, 0, none⟩ = some (.int .i64 f.wd) ∧ w'.cell? ⟨w.heap.size, 1, none⟩ = some (.slice a1 f.lw.length c1) ∧ w'.cell? ⟨w.heap.size, 2, none⟩ = some (.slice a2 n c2) ∧ w'.cell? ⟨w.heap.size, 3, none⟩ = some (.slice a3 f.lk.length c3) ∧ w'.cell? ⟨w.heap.size, 4, none⟩ = some (.slice a4 f.la.length c4) ∧ w'.cell? ⟨g, k * 5, none⟩ = some (.int .i64 id)) w1.drew := ⟨(five_f hPD.sw.box).1, (five_f hPD.sw.box).2.1, (five_f hPD.sw.box).2.2.1, (five_f hPD.sw.box).2.2.2.1, (five_f hPD.sw.box).2.2.2.2, rD⟩
            have HDD := hide hPD.sw.bel
            have KA : (fun w' => w'.cell? ⟨w.heap.size, 0, none⟩ = some (.int .i64 f.wd) ∧ w'.cell? ⟨w.heap.size, 1, none⟩ = some (.slice a1 f.lw.length c1) ∧ w'.cell? ⟨w.heap.size, 2, none⟩ = some (.slice a2 n c2) ∧ w'.cell? ⟨w.heap.size, 3, none⟩ = some (.slice a3 f.lk.length c3) ∧ w'.cell? ⟨w.heap.size, 4, none⟩ = some (.slice a4 f.la.length c4) ∧ w'.cell? ⟨g, k * 5, none⟩ = some (.int .i64 id)) w1 := ⟨(five_f hP1.sw.box).1, (five_f hP1.sw.box).2.1, (five_f hP1.sw.box).2.2.1, (five_f hP1.sw.box).2.2.2.1, (five_f hP1.sw.box).2.2.2.2, r1⟩
            refine wp_region_held_drew (S := fun w' => w'.cell? ⟨w.heap.size, 0, none⟩ = some (.int .i64 f.wd) ∧ w'.cell? ⟨w.heap.size, 1, none⟩ = some (.slice a1 f.lw.length c1) ∧ w'.cell? ⟨w.heap.size, 2, none⟩ = some (.slice a2 n c2) ∧ w'.cell? ⟨w.heap.size, 3, none⟩ = some (.slice a3 f.lk.length c3) ∧ w'.cell? ⟨w.heap.size, 4, none⟩ = some (.slice a4 f.la.length c4) ∧ w'.cell? ⟨g, k * 5, none⟩ = some (.int .i64 id)) (by kernel_rfl) (by first | exact KA | go_keep) (fun hHeld => ?_)
            clear KA
            generalize w1.drew = wD at *
            refine tkF (i := 0) (d := some 53) (v := ?_) rfl rfl (by kernel_rfl) (by kernel_rfl) (by kernel_rfl) (fun _ _ _ h => h) (Or.inl ⟨by rfl, ?_⟩) (by assumption) ?_
            rotate_left
            · intro w hSw; (try dsimp only at hSw); go_simp; try with_reducible rfl
            try simp only [Act.put, List.setIfInBounds_toArray, List.set_cons_zero, List.set_cons_succ]
            refine tkF (i := 1) (d := some 54) (v := ?_) rfl rfl (by kernel_rfl) (by kernel_rfl) (by kernel_rfl) (fun _ _ _ h => h) (Or.inl ⟨by rfl, ?_⟩) (by assumption) ?_
            rotate_left
            · intro w hSw; (try dsimp only at hSw); go_simp; try with_reducible rfl
            try simp only [Act.put, List.setIfInBounds_toArray, List.set_cons_zero, List.set_cons_succ]
            refine tkF (i := 2) (d := some 55) (v := ?_) rfl rfl (by kernel_rfl) (by kernel_rfl) (by kernel_rfl) (fun _ _ _ h => h) (Or.inl ⟨by rfl, ?_⟩) (by assumption) ?_
            rotate_left
            · intro w hSw; (try dsimp only at hSw); go_simp; try with_reducible rfl
            try simp only [Act.put, List.setIfInBounds_toArray, List.set_cons_zero, List.set_cons_succ]
            refine tkF (i := 3) (d := some 56) (v := ?_) rfl rfl (by kernel_rfl) (by kernel_rfl) (by kernel_rfl) (fun _ _ _ h => h) (Or.inl ⟨by rfl, ?_⟩) (by assumption) ?_
            rotate_left
            · intro w hSw; (try dsimp only at hSw); go_simp; try with_reducible rfl
            try simp only [Act.put, List.setIfInBounds_toArray, List.set_cons_zero, List.set_cons_succ]
            refine tkF (i := 4) (d := some 57) (v := ?_) rfl rfl (by kernel_rfl) (by kernel_rfl) (by kernel_rfl) (fun _ _ _ h => h) (Or.inl ⟨by rfl, ?_⟩) (by assumption) ?_
            rotate_left
            · intro w hSw; (try dsimp only at hSw); go_simp; try with_reducible rfl
            try simp only [Act.put, List.setIfInBounds_toArray, List.set_cons_zero, List.set_cons_succ]
            refine tkF (i := 5) (d := some 58) (v := ?_) rfl rfl (by kernel_rfl) (by kernel_rfl) (by kernel_rfl) (fun _ _ _ h => h) (Or.inl ⟨by rfl, ?_⟩) (by assumption) ?_
            rotate_left
            · intro w hSw; (try dsimp only at hSw); go_simp; try with_reducible rfl
            try simp only [Act.put, List.setIfInBounds_toArray, List.set_cons_zero, List.set_cons_succ]
            refine tkF (i := 7) (d := some 60) (v := ?_) rfl rfl (by kernel_rfl) (by kernel_rfl) (by kernel_rfl) (fun _ _ _ h => h) (Or.inl ⟨by rfl, ?_⟩) (by assumption) ?_
            rotate_left
            · intro w hSw; (try dsimp only at hSw); go_simp; try with_reducible rfl
            try simp only [Act.put, List.setIfInBounds_toArray, List.set_cons_zero, List.set_cons_succ]
            refine tkF (i := 8) (d := some 61) (v := ?_) rfl rfl (by kernel_rfl) (by kernel_rfl) (by kernel_rfl) (fun _ _ _ h => h) (Or.inl ⟨by rfl, ?_⟩) (by assumption) ?_
            rotate_left
            · intro w hSw; (try dsimp only at hSw); go_simp; try with_reducible rfl
            try simp only [Act.put, List.setIfInBounds_toArray, List.set_cons_zero, List.set_cons_succ]
            refine tkF (i := 9) (d := some 62) (v := ?_) rfl rfl (by kernel_rfl) (by kernel_rfl) (by kernel_rfl) (fun _ _ _ h => h) (Or.inl ⟨by rfl, ?_⟩) (by assumption) ?_
            rotate_left
            · intro w hSw; (try dsimp only at hSw); go_simp; try with_reducible rfl
            try simp only [Act.put, List.setIfInBounds_toArray, List.set_cons_zero, List.set_cons_succ]
            refine tkF (i := 10) (d := some 63) (v := ?_) rfl rfl (by kernel_rfl) (by kernel_rfl) (by kernel_rfl) (fun _ _ _ h => h) (Or.inl ⟨by rfl, ?_⟩) (by assumption) ?_
            rotate_left
            · intro w hSw; (try dsimp only at hSw); go_simp; try with_reducible rfl
            try simp only [Act.put, List.setIfInBounds_toArray, List.set_cons_zero, List.set_cons_succ]
            refine tkF (i := 11) (d := some 64) (v := ?_) rfl rfl (by kernel_rfl) (by kernel_rfl) (by kernel_rfl) (fun _ _ _ h => h) (Or.inl ⟨by rfl, ?_⟩) (by assumption) ?_
            rotate_left
            · intro w hSw; (try dsimp only at hSw); go_simp; try with_reducible rfl
            try simp only [Act.put, List.setIfInBounds_toArray, List.set_cons_zero, List.set_cons_succ]
            refine tkF (i := 12) (d := some 65) (v := ?_) rfl rfl (by kernel_rfl) (by kernel_rfl) (by kernel_rfl) (fun _ _ _ h => h) (Or.inl ⟨by rfl, ?_⟩) (by assumption) ?_
            rotate_left
            · intro w hSw; (try dsimp only at hSw); go_simp; try with_reducible rfl
            try simp only [Act.put, List.setIfInBounds_toArray, List.set_cons_zero, List.set_cons_succ]
            refine tkF (i := 13) (d := some 66) (v := ?_) rfl rfl (by kernel_rfl) (by kernel_rfl) (by kernel_rfl) (fun _ _ _ h => h) (Or.inl ⟨by rfl, ?_⟩) (by assumption) ?_
            rotate_left
            · intro w hSw; (try dsimp only at hSw); go_simp; try with_reducible rfl
            try simp only [Act.put, List.setIfInBounds_toArray, List.set_cons_zero, List.set_cons_succ]
            refine wpAnyH_ready (rs := [6, 14]) (by kernel_rfl) (by simp) (AllReadyH.cons rfl (fun K hK => ?_) (AllReadyH.cons rfl (fun K hK => ?_) AllReadyH.nil))
            · go_simp
              try go_wp2_with fail
              refine hK.out _ _ KSD (fun hHeld1 => ?_)
              clear hK K
              try simp only [Act.put, List.setIfInBounds_toArray, List.set_cons_zero, List.set_cons_succ]
              refine wpAnyH_ready (rs := [14]) (by kernel_rfl) (by simp) (AllReadyH.cons rfl (fun K hK => ?_) AllReadyH.nil)
              go_simp
              go_at_call 20
              refine ((unhide CA) _ _ (unhide HDD)).mono ?_
              rintro e w2 ⟨rfl, hw2⟩
              rw [hw2]
              clear hw2 w2
              try go_wp2_with fail
              refine hK.out _ _ KSD (fun hHeld2 => ?_)
              clear hK K
              try simp only [Act.put, List.setIfInBounds_toArray, List.set_cons_zero, List.set_cons_succ]
              refine tkF (i := 15) (d := some 68) (v := ?_) rfl rfl (by kernel_rfl) (by kernel_rfl) (by kernel_rfl) (fun _ _ _ h => h) (Or.inl ⟨by rfl, ?_⟩) (by assumption) ?_
              rotate_left
              · intro w hSw; (try dsimp only at hSw); go_simp; try with_reducible rfl
              try simp only [Act.put, List.setIfInBounds_toArray, List.set_cons_zero, List.set_cons_succ]
              simp only [i64w]
              refine tkF (i := 16) (d := some 69) (v := ?_) rfl rfl (by kernel_rfl) (by kernel_rfl) (by kernel_rfl) (fun _ _ _ h => h) (Or.inl ⟨by rfl, ?_⟩) (by assumption) ?_
              rotate_left
              · intro w hSw; (try dsimp only at hSw); go_simp; try with_reducible rfl
              try simp only [Act.put, List.setIfInBounds_toArray, List.set_cons_zero, List.set_cons_succ]
              refine tkF (i := 17) (d := some 70) (v := ?_) rfl rfl (by kernel_rfl) (by kernel_rfl) (by kernel_rfl) (fun _ _ _ h => h) (Or.inl ⟨by rfl, ?_⟩) (by assumption) ?_
              rotate_left
              · intro w hSw; (try dsimp only at hSw); go_simp; try with_reducible rfl
              try simp only [Act.put, List.setIfInBounds_toArray, List.set_cons_zero, List.set_cons_succ]
              refine wpAnyH_ready (rs := [18]) (by kernel_rfl) (by simp) (AllReadyH.cons rfl (fun K hK => ?_) AllReadyH.nil)
              go_simp
              try go_wp2_with fail
              refine hK.out _ _ KS3 (fun hHeld3 => ?_)
              clear hK K
              try simp only [Act.put, List.setIfInBounds_toArray, List.set_cons_zero, List.set_cons_succ]
              refine wpAnyH_done (by kernel_rfl) ?_ _
              clear KSD KS3 hHeld hHeld1 hHeld2 hHeld3 e3c e3f
              generalize wD.setCell ⟨g, k * 5 + 3, none⟩ (.int .i64 (wrap64 (xc + valS f.la id 0))) = w3 at *
              go_wp2
              go_roundw
              case rel => exact ⟨k + 1, by rw [unhide HMR], .inl ⟨rfl, unhide hNN⟩, by go_num, by omega, hide (by rw [← unhide HMM]; exact unhide HP3)⟩
              case measure => simp [intOf]; omega
            · go_simp
              go_at_call 20
              refine ((unhide CA) _ _ (unhide HDD)).mono ?_
              rintro e w2 ⟨rfl, hw2⟩
              rw [hw2]
              clear hw2 w2
              try go_wp2_with fail
              refine hK.out _ _ KSD (fun hHeld1 => ?_)
              clear hK K
              try simp only [Act.put, List.setIfInBounds_toArray, List.set_cons_zero, List.set_cons_succ]
              refine wpAnyH_ready (rs := [6]) (by kernel_rfl) (by simp) (AllReadyH.cons rfl (fun K hK => ?_) AllReadyH.nil)
              go_simp
              try go_wp2_with fail
              refine hK.out _ _ KSD (fun hHeld2 => ?_)
              clear hK K
              try simp only [Act.put, List.setIfInBounds_toArray, List.set_cons_zero, List.set_cons_succ]
              refine tkF (i := 15) (d := some 68) (v := ?_) rfl rfl (by kernel_rfl) (by kernel_rfl) (by kernel_rfl) (fun _ _ _ h => h) (Or.inl ⟨by rfl, ?_⟩) (by assumption) ?_
              rotate_left
              · intro w hSw; (try dsimp only at hSw); go_simp; try with_reducible rfl
              try simp only [Act.put, List.setIfInBounds_toArray, List.set_cons_zero, List.set_cons_succ]
              simp only [i64w]
              refine tkF (i := 16) (d := some 69) (v := ?_) rfl rfl (by kernel_rfl) (by kernel_rfl) (by kernel_rfl) (fun _ _ _ h => h) (Or.inl ⟨by rfl, ?_⟩) (by assumption) ?_
              rotate_left
              · intro w hSw; (try dsimp only at hSw); go_simp; try with_reducible rfl
              try simp only [Act.put, List.setIfInBounds_toArray, List.set_cons_zero, List.set_cons_succ]
              refine tkF (i := 17) (d := some 70) (v := ?_) rfl rfl (by kernel_rfl) (by kernel_rfl) (by kernel_rfl) (fun _ _ _ h => h) (Or.inl ⟨by rfl, ?_⟩) (by assumption) ?_
              rotate_left
              · intro w hSw; (try dsimp only at hSw); go_simp; try with_reducible rfl
              try simp only [Act.put, List.setIfInBounds_toArray, List.set_cons_zero, List.set_cons_succ]
              refine wpAnyH_ready (rs := [18]) (by kernel_rfl) (by simp) (AllReadyH.cons rfl (fun K hK => ?_) AllReadyH.nil)
              go_simp
              try go_wp2_with fail
              refine hK.out _ _ KS3 (fun hHeld3 => ?_)
              clear hK K
              try simp only [Act.put, List.setIfInBounds_toArray, List.set_cons_zero, List.set_cons_succ]
              refine wpAnyH_done (by kernel_rfl) ?_ _
              clear KSD KS3 hHeld hHeld1 hHeld2 hHeld3 e3c e3f
              generalize wD.setCell ⟨g, k * 5 + 3, none⟩ (.int .i64 (wrap64 (xc + valS f.la id 0))) = w3 at *
              go_wp2
              go_roundw
              case rel => exact ⟨k + 1, by rw [unhide HMR], .inl ⟨rfl, unhide hNN⟩, by go_num, by omega, hide (by rw [← unhide HMM]; exact unhide HP3)⟩
              case measure => simp [intOf]; omega
          · have hBM := hide ((unhide BM) bi hbi hz)
            obtain ⟨hbk, b, hb1, hb2, hb3⟩ := hbi
            rw [hb1] at hMM
            obtain ⟨xc, hxc⟩ : ∃ xc : Int, xc = b.2 := ⟨_, rfl⟩
            have HMM : Hid (((flt (mid f G k)).set (k * 5 + 3) xc).set (k * 5 + 3) (wrap64 (xc + valS f.la id 0)) = flt (mid f G (k + 1))) := hide (by rw [List.set_set, hxc]; exact hMM)
            have HMR := hide hMR
            have HB3 : Hid (nth (flt (mid f G k)) (bi * 5 + 3) = xc) := hide (by rw [base_cell f G k bi 3 hbk (by omega), hxc]; exact hb3)
            have HXC : Hid (nth ((flt (mid f G k)).set (k * 5 + 3) xc) (k * 5 + 3) = xc) := hide (nth_self _ _ _ (by rw [mid_flen f G k (by omega)]; omega))
            have hbl : (bi : Int) < (G.length : Int) := by omega
            have hb00 : (0 : Int) ≤ (bi : Int) := by omega
            clear hMM hMR hb1 hb2 hb3 hz BM NN hxc
            go_upto_region 16 with (go_at_call 19; refine (unhide CC1).mono ?_; rintro e w1 ⟨rfl, hb1⟩; have hP1 := hP.below hb1; have r1 := (hP1.row.cell (k * 5) (by omega)).1.trans ((hP.row.cell (k * 5) (by omega)).1.symm.trans r0'); have x1 := (hP1.row.cell (bi * 5 + 3) (by omega)).1; rw [unhide HB3] at x1; have e1c := (hP1.row.cell (k * 5 + 3) (by omega)).1; have e1f := (hP1.row.cell (k * 5 + 3) (by omega)).2; clear hb1)
            have hPA := hP1.set (k * 5 + 3) xc
            have rA0 := (hPA.row.cell (k * 5) (by omega)).1
            rw [nth_ne _ _ _ _ (by omega)] at rA0
            have rA := rA0.trans ((hP1.row.cell (k * 5) (by omega)).1.symm.trans r1)
            clear x1 e1c e1f rA0
            generalize w1.setCell ⟨g, k * 5 + 3, none⟩ (.int .i64 xc) = wA at *
            have hPD := hPA.below (drew_below wA)
            have rD : wA.drew.cell? ⟨g, k * 5, none⟩ = some (.int .i64 id) := rA
            have e3 := hPD.row.cell (k * 5 + 3) (by omega)
            have e3c := e3.1
            have e3f := e3.2
            rw [unhide HXC] at e3c
            have hP3 := hPD.set (k * 5 + 3) (wrap64 (xc + valS f.la id 0))
            have r3 := (hP3.row.cell (k * 5) (by omega)).1
            rw [nth_ne _ _ _ _ (by omega)] at r3
            have r3' := r3.trans ((hPD.row.cell (k * 5) (by omega)).1.symm.trans rD)
            have KS3 : (fun w' => w'.cell? ⟨w.heap.size, 0, none⟩ = some (.int .i64 f.wd) ∧ w'.cell? ⟨w.heap.size, 1, none⟩ = some (.slice a1 f.lw.length c1) ∧ w'.cell? ⟨w.heap.size, 2, none⟩ = some (.slice a2 n c2) ∧ w'.cell? ⟨w.heap.size, 3, none⟩ = some (.slice a3 f.lk.length c3) ∧ w'.cell? ⟨w.heap.size, 4, none⟩ = some (.slice a4 f.la.length c4) ∧ w'.cell? ⟨g, k * 5, none⟩ = some (.int .i64 id)) (wA.drew.setCell ⟨g, k * 5 + 3, none⟩ (.int .i64 (wrap64 (xc + valS f.la id 0)))) := ⟨(five_f hP3.sw.box).1, (five_f hP3.sw.box).2.1, (five_f hP3.sw.box).2.2.1, (five_f hP3.sw.box).2.2.2.1, (five_f hP3.sw.box).2.2.2.2, r3'⟩
            have HP3 := hide hP3
            clear e3 r3 hP3
            have KSD : (fun w' => w'.cell? ⟨w.heap.size, 0, none⟩ = some (.int .i64 f.wd) ∧ w'.cell? ⟨w.heap.size, 1, none⟩ = some (.slice a1 f.lw.length c1) ∧ w'.cell? ⟨w.heap.size, 2, none⟩ = some (.slice a2 n c2) ∧ w'.cell? ⟨w.heap.size, 3, none⟩ = some (.slice a3 f.lk.length c3) ∧ w'.cell? ⟨w.heap.size, 4, none⟩ = some (.slice a4 f.la.length c4) ∧ w'.cell? ⟨g, k * 5, none⟩ = some (.int .i64 id)) wA.drew := ⟨(five_f hPD.sw.box).1, (five_f hPD.sw.box).2.1, (five_f hPD.sw.box).2.2.1, (five_f hPD.sw.box).2.2.2.1, (five_f hPD.sw.box).2.2.2.2, rD⟩
            have HDD := hide hPD.sw.bel
            have KA : (fun w' => w'.cell? ⟨w.heap.size, 0, none⟩ = some (.int .i64 f.wd) ∧ w'.cell? ⟨w.heap.size, 1, none⟩ = some (.slice a1 f.lw.length c1) ∧ w'.cell? ⟨w.heap.size, 2, none⟩ = some (.slice a2 n c2) ∧ w'.cell? ⟨w.heap.size, 3, none⟩ = some (.slice a3 f.lk.length c3) ∧ w'.cell? ⟨w.heap.size, 4, none⟩ = some (.slice a4 f.la.length c4) ∧ w'.cell? ⟨g, k * 5, none⟩ = some (.int .i64 id)) wA := ⟨(five_f hPA.sw.box).1, (five_f hPA.sw.box).2.1, (five_f hPA.sw.box).2.2.1, (five_f hPA.sw.box).2.2.2.1, (five_f hPA.sw.box).2.2.2.2, rA⟩
            refine wp_region_held_drew (S := fun w' => w'.cell? ⟨w.heap.size, 0, none⟩ = some (.int .i64 f.wd) ∧ w'.cell? ⟨w.heap.size, 1, none⟩ = some (.slice a1 f.lw.length c1) ∧ w'.cell? ⟨w.heap.size, 2, none⟩ = some (.slice a2 n c2) ∧ w'.cell? ⟨w.heap.size, 3, none⟩ = some (.slice a3 f.lk.length c3) ∧ w'.cell? ⟨w.heap.size, 4, none⟩ = some (.slice a4 f.la.length c4) ∧ w'.cell? ⟨g, k * 5, none⟩ = some (.int .i64 id)) (by kernel_rfl) (by first | exact KA | go_keep) (fun hHeld => ?_)
            clear KA
            generalize wA.drew = wD at *
            refine tkF (i := 0) (d := some 53) (v := ?_) rfl rfl (by kernel_rfl) (by kernel_rfl) (by kernel_rfl) (fun _ _ _ h => h) (Or.inl ⟨by rfl, ?_⟩) (by assumption) ?_
            rotate_left
            · intro w hSw; (try dsimp only at hSw); go_simp; try with_reducible rfl
            try simp only [Act.put, List.setIfInBounds_toArray, List.set_cons_zero, List.set_cons_succ]
            refine tkF (i := 1) (d := some 54) (v := ?_) rfl rfl (by kernel_rfl) (by kernel_rfl) (by kernel_rfl) (fun _ _ _ h => h) (Or.inl ⟨by rfl, ?_⟩) (by assumption) ?_
            rotate_left
            · intro w hSw; (try dsimp only at hSw); go_simp; try with_reducible rfl
            try simp only [Act.put, List.setIfInBounds_toArray, List.set_cons_zero, List.set_cons_succ]
            refine tkF (i := 2) (d := some 55) (v := ?_) rfl rfl (by kernel_rfl) (by kernel_rfl) (by kernel_rfl) (fun _ _ _ h => h) (Or.inl ⟨by rfl, ?_⟩) (by assumption) ?_
            rotate_left
            · intro w hSw; (try dsimp only at hSw); go_simp; try with_reducible rfl
            try simp only [Act.put, List.setIfInBounds_toArray, List.set_cons_zero, List.set_cons_succ]
            refine tkF (i := 3) (d := some 56) (v := ?_) rfl rfl (by kernel_rfl) (by kernel_rfl) (by kernel_rfl) (fun _ _ _ h => h) (Or.inl ⟨by rfl, ?_⟩) (by assumption) ?_
            rotate_left
            · intro w hSw; (try dsimp only at hSw); go_simp; try with_reducible rfl
            try simp only [Act.put, List.setIfInBounds_toArray, List.set_cons_zero, List.set_cons_succ]
            refine tkF (i := 4) (d := some 57) (v := ?_) rfl rfl (by kernel_rfl) (by kernel_rfl) (by kernel_rfl) (fun _ _ _ h => h) (Or.inl ⟨by rfl, ?_⟩) (by assumption) ?_
            rotate_left
            · intro w hSw; (try dsimp only at hSw); go_simp; try with_reducible rfl
            try simp only [Act.put, List.setIfInBounds_toArray, List.set_cons_zero, List.set_cons_succ]
            refine tkF (i := 5) (d := some 58) (v := ?_) rfl rfl (by kernel_rfl) (by kernel_rfl) (by kernel_rfl) (fun _ _ _ h => h) (Or.inl ⟨by rfl, ?_⟩) (by assumption) ?_
            rotate_left
            · intro w hSw; (try dsimp only at hSw); go_simp; try with_reducible rfl
            try simp only [Act.put, List.setIfInBounds_toArray, List.set_cons_zero, List.set_cons_succ]
            refine tkF (i := 7) (d := some 60) (v := ?_) rfl rfl (by kernel_rfl) (by kernel_rfl) (by kernel_rfl) (fun _ _ _ h => h) (Or.inl ⟨by rfl, ?_⟩) (by assumption) ?_
            rotate_left
            · intro w hSw; (try dsimp only at hSw); go_simp; try with_reducible rfl
            try simp only [Act.put, List.setIfInBounds_toArray, List.set_cons_zero, List.set_cons_succ]
            refine tkF (i := 8) (d := some 61) (v := ?_) rfl rfl (by kernel_rfl) (by kernel_rfl) (by kernel_rfl) (fun _ _ _ h => h) (Or.inl ⟨by rfl, ?_⟩) (by assumption) ?_
            rotate_left
            · intro w hSw; (try dsimp only at hSw); go_simp; try with_reducible rfl
            try simp only [Act.put, List.setIfInBounds_toArray, List.set_cons_zero, List.set_cons_succ]
            refine tkF (i := 9) (d := some 62) (v := ?_) rfl rfl (by kernel_rfl) (by kernel_rfl) (by kernel_rfl) (fun _ _ _ h => h) (Or.inl ⟨by rfl, ?_⟩) (by assumption) ?_
            rotate_left
            · intro w hSw; (try dsimp only at hSw); go_simp; try with_reducible rfl
            try simp only [Act.put, List.setIfInBounds_toArray, List.set_cons_zero, List.set_cons_succ]
            refine tkF (i := 10) (d := some 63) (v := ?_) rfl rfl (by kernel_rfl) (by kernel_rfl) (by kernel_rfl) (fun _ _ _ h => h) (Or.inl ⟨by rfl, ?_⟩) (by assumption) ?_
            rotate_left
            · intro w hSw; (try dsimp only at hSw); go_simp; try with_reducible rfl
            try simp only [Act.put, List.setIfInBounds_toArray, List.set_cons_zero, List.set_cons_succ]
            refine tkF (i := 11) (d := some 64) (v := ?_) rfl rfl (by kernel_rfl) (by kernel_rfl) (by kernel_rfl) (fun _ _ _ h => h) (Or.inl ⟨by rfl, ?_⟩) (by assumption) ?_
            rotate_left
            · intro w hSw; (try dsimp only at hSw); go_simp; try with_reducible rfl
            try simp only [Act.put, List.setIfInBounds_toArray, List.set_cons_zero, List.set_cons_succ]
            refine tkF (i := 12) (d := some 65) (v := ?_) rfl rfl (by kernel_rfl) (by kernel_rfl) (by kernel_rfl) (fun _ _ _ h => h) (Or.inl ⟨by rfl, ?_⟩) (by assumption) ?_
            rotate_left
            · intro w hSw; (try dsimp only at hSw); go_simp; try with_reducible rfl
            try simp only [Act.put, List.setIfInBounds_toArray, List.set_cons_zero, List.set_cons_succ]
            refine tkF (i := 13) (d := some 66) (v := ?_) rfl rfl (by kernel_rfl) (by kernel_rfl) (by kernel_rfl) (fun _ _ _ h => h) (Or.inl ⟨by rfl, ?_⟩) (by assumption) ?_
            rotate_left
            · intro w hSw; (try dsimp only at hSw); go_simp; try with_reducible rfl
            try simp only [Act.put, List.setIfInBounds_toArray, List.set_cons_zero, List.set_cons_succ]
            refine wpAnyH_ready (rs := [6, 14]) (by kernel_rfl) (by simp) (AllReadyH.cons rfl (fun K hK => ?_) (AllReadyH.cons rfl (fun K hK => ?_) AllReadyH.nil))
            · go_simp
              try go_wp2_with fail
              refine hK.out _ _ KSD (fun hHeld1 => ?_)
              clear hK K
              try simp only [Act.put, List.setIfInBounds_toArray, List.set_cons_zero, List.set_cons_succ]
              refine wpAnyH_ready (rs := [14]) (by kernel_rfl) (by simp) (AllReadyH.cons rfl (fun K hK => ?_) AllReadyH.nil)
              go_simp
              go_at_call 20
              refine ((unhide CA) _ _ (unhide HDD)).mono ?_
              rintro e w2 ⟨rfl, hw2⟩
              rw [hw2]
              clear hw2 w2
              try go_wp2_with fail
              refine hK.out _ _ KSD (fun hHeld2 => ?_)
              clear hK K
              try simp only [Act.put, List.setIfInBounds_toArray, List.set_cons_zero, List.set_cons_succ]
              refine tkF (i := 15) (d := some 68) (v := ?_) rfl rfl (by kernel_rfl) (by kernel_rfl) (by kernel_rfl) (fun _ _ _ h => h) (Or.inl ⟨by rfl, ?_⟩) (by assumption) ?_
              rotate_left
              · intro w hSw; (try dsimp only at hSw); go_simp; try with_reducible rfl
              try simp only [Act.put, List.setIfInBounds_toArray, List.set_cons_zero, List.set_cons_succ]
              simp only [i64w]
              refine tkF (i := 16) (d := some 69) (v := ?_) rfl rfl (by kernel_rfl) (by kernel_rfl) (by kernel_rfl) (fun _ _ _ h => h) (Or.inl ⟨by rfl, ?_⟩) (by assumption) ?_
              rotate_left
              · intro w hSw; (try dsimp only at hSw); go_simp; try with_reducible rfl
              try simp only [Act.put, List.setIfInBounds_toArray, List.set_cons_zero, List.set_cons_succ]
              refine tkF (i := 17) (d := some 70) (v := ?_) rfl rfl (by kernel_rfl) (by kernel_rfl) (by kernel_rfl) (fun _ _ _ h => h) (Or.inl ⟨by rfl, ?_⟩) (by assumption) ?_
              rotate_left
              · intro w hSw; (try dsimp only at hSw); go_simp; try with_reducible rfl
              try simp only [Act.put, List.setIfInBounds_toArray, List.set_cons_zero, List.set_cons_succ]
              refine wpAnyH_ready (rs := [18]) (by kernel_rfl) (by simp) (AllReadyH.cons rfl (fun K hK => ?_) AllReadyH.nil)
              go_simp
              try go_wp2_with fail
              refine hK.out _ _ KS3 (fun hHeld3 => ?_)
              clear hK K
              try simp only [Act.put, List.setIfInBounds_toArray, List.set_cons_zero, List.set_cons_succ]
              refine wpAnyH_done (by kernel_rfl) ?_ _
              clear KSD KS3 hHeld hHeld1 hHeld2 hHeld3 e3c e3f
              generalize wD.setCell ⟨g, k * 5 + 3, none⟩ (.int .i64 (wrap64 (xc + valS f.la id 0))) = w3 at *
              go_wp2
              go_roundw
              case rel => exact ⟨k + 1, by rw [unhide HMR], .inr ⟨bi, rfl, unhide hBM⟩, by go_num, by omega, hide (by rw [← unhide HMM]; exact unhide HP3)⟩
              case measure => simp [intOf]; omega
            · go_simp
              go_at_call 20
              refine ((unhide CA) _ _ (unhide HDD)).mono ?_
              rintro e w2 ⟨rfl, hw2⟩
              rw [hw2]
              clear hw2 w2
              try go_wp2_with fail
              refine hK.out _ _ KSD (fun hHeld1 => ?_)
              clear hK K
              try simp only [Act.put, List.setIfInBounds_toArray, List.set_cons_zero, List.set_cons_succ]
              refine wpAnyH_ready (rs := [6]) (by kernel_rfl) (by simp) (AllReadyH.cons rfl (fun K hK => ?_) AllReadyH.nil)
              go_simp
              try go_wp2_with fail
              refine hK.out _ _ KSD (fun hHeld2 => ?_)
              clear hK K
              try simp only [Act.put, List.setIfInBounds_toArray, List.set_cons_zero, List.set_cons_succ]
              refine tkF (i := 15) (d := some 68) (v := ?_) rfl rfl (by kernel_rfl) (by kernel_rfl) (by kernel_rfl) (fun _ _ _ h => h) (Or.inl ⟨by rfl, ?_⟩) (by assumption) ?_
              rotate_left
              · intro w hSw; (try dsimp only at hSw); go_simp; try with_reducible rfl
              try simp only [Act.put, List.setIfInBounds_toArray, List.set_cons_zero, List.set_cons_succ]
              simp only [i64w]
              refine tkF (i := 16) (d := some 69) (v := ?_) rfl rfl (by kernel_rfl) (by kernel_rfl) (by kernel_rfl) (fun _ _ _ h => h) (Or.inl ⟨by rfl, ?_⟩) (by assumption) ?_
              rotate_left
              · intro w hSw; (try dsimp only at hSw); go_simp; try with_reducible rfl
              try simp only [Act.put, List.setIfInBounds_toArray, List.set_cons_zero, List.set_cons_succ]
              refine tkF (i := 17) (d := some 70) (v := ?_) rfl rfl (by kernel_rfl) (by kernel_rfl) (by kernel_rfl) (fun _ _ _ h => h) (Or.inl ⟨by rfl, ?_⟩) (by assumption) ?_
              rotate_left
              · intro w hSw; (try dsimp only at hSw); go_simp; try with_reducible rfl
              try simp only [Act.put, List.setIfInBounds_toArray, List.set_cons_zero, List.set_cons_succ]
              refine wpAnyH_ready (rs := [18]) (by kernel_rfl) (by simp) (AllReadyH.cons rfl (fun K hK => ?_) AllReadyH.nil)
              go_simp
              try go_wp2_with fail
              refine hK.out _ _ KS3 (fun hHeld3 => ?_)
              clear hK K
              try simp only [Act.put, List.setIfInBounds_toArray, List.set_cons_zero, List.set_cons_succ]
              refine wpAnyH_done (by kernel_rfl) ?_ _
              clear KSD KS3 hHeld hHeld1 hHeld2 hHeld3 e3c e3f
              generalize wD.setCell ⟨g, k * 5 + 3, none⟩ (.int .i64 (wrap64 (xc + valS f.la id 0))) = w3 at *
              go_wp2
              go_roundw
              case rel => exact ⟨k + 1, by rw [unhide HMR], .inr ⟨bi, rfl, unhide hBM⟩, by go_num, by omega, hide (by rw [← unhide HMM]; exact unhide HP3)⟩
              case measure => simp [intOf]; omega
        · have tz : (z == 3) = false := by simpa using hz
          have hNM := (unhide NM) hz
          have hNR := (unhide NR) hz
          have hNB := hide ((unhide NB) hz)
          clear MM MR NM NR NB BM NN CA
          rcases hBs with ⟨rfl, hno⟩ | ⟨bi, rfl, hbi⟩
          · have ep : px f (run f G k).2 id = (run f G k).2.1 := by unfold px; rw [hno]
            rw [ep] at hNM hNR
            have HNM := hide hNM
            have HNR := hide hNR
            clear hNM hNR ep hno hz CK
            generalize (run f G k).2.1 = x at *
            go_upto_region 19 with (go_at_call 19; refine (unhide CC1).mono ?_; rintro e w1 ⟨rfl, hb1⟩; have hP1 := hP.below hb1; have r1 := (hP1.row.cell (k * 5) (by omega)).1.trans ((hP.row.cell (k * 5) (by omega)).1.symm.trans r0'); clear hb1)
            have e3 := hP1.row.cell (k * 5 + 3) (by omega)
            have e3c := e3.1
            have e3f := e3.2
            have hPB := hP1.set (k * 5 + 3) x
            have rB0 := (hPB.row.cell (k * 5) (by omega)).1
            rw [nth_ne _ _ _ _ (by omega)] at rB0
            have rB := rB0.trans ((hP1.row.cell (k * 5) (by omega)).1.symm.trans r1)
            clear e3 rB0
            go_upto_region 20 with fail
            clear e3c e3f
            generalize w1.setCell ⟨g, k * 5 + 3, none⟩ (.int .i64 x) = wB at *
            have hPD := hPB.below (drew_below wB)
            have rD : wB.drew.cell? ⟨g, k * 5, none⟩ = some (.int .i64 id) := rB
            have e4 := hPD.row.cell (k * 5 + 4) (by omega)
            have e4c := e4.1
            have e4f := e4.2
            have hP7 := hPD.set (k * 5 + 4) (valS f.lw id f.wd)
            have r7 := (hP7.row.cell (k * 5) (by omega)).1
            rw [nth_ne _ _ _ _ (by omega)] at r7
            have r7' := r7.trans ((hPD.row.cell (k * 5) (by omega)).1.symm.trans rD)
            have K7 : (fun w' => w'.cell? ⟨w.heap.size, 0, none⟩ = some (.int .i64 f.wd) ∧ w'.cell? ⟨w.heap.size, 1, none⟩ = some (.slice a1 f.lw.length c1) ∧ w'.cell? ⟨w.heap.size, 2, none⟩ = some (.slice a2 n c2) ∧ w'.cell? ⟨w.heap.size, 3, none⟩ = some (.slice a3 f.lk.length c3) ∧ w'.cell? ⟨w.heap.size, 4, none⟩ = some (.slice a4 f.la.length c4) ∧ w'.cell? ⟨g, k * 5, none⟩ = some (.int .i64 id)) (wB.drew.setCell ⟨g, k * 5 + 4, none⟩ (.int .i64 (valS f.lw id f.wd))) := ⟨(five_f hP7.sw.box).1, (five_f hP7.sw.box).2.1, (five_f hP7.sw.box).2.2.1, (five_f hP7.sw.box).2.2.2.1, (five_f hP7.sw.box).2.2.2.2, r7'⟩
            have e5 := (hP7.row.cell (k * 5 + 4) (by omega)).1
            rw [nth_self _ _ _ (by rw [List.length_set, mid_flen f G k (by omega)]; omega)] at e5
            have HP7 := hide hP7
            clear e4 r7 hP7
            have KSD : (fun w' => w'.cell? ⟨w.heap.size, 0, none⟩ = some (.int .i64 f.wd) ∧ w'.cell? ⟨w.heap.size, 1, none⟩ = some (.slice a1 f.lw.length c1) ∧ w'.cell? ⟨w.heap.size, 2, none⟩ = some (.slice a2 n c2) ∧ w'.cell? ⟨w.heap.size, 3, none⟩ = some (.slice a3 f.lk.length c3) ∧ w'.cell? ⟨w.heap.size, 4, none⟩ = some (.slice a4 f.la.length c4) ∧ w'.cell? ⟨g, k * 5, none⟩ = some (.int .i64 id)) wB.drew := ⟨(five_f hPD.sw.box).1, (five_f hPD.sw.box).2.1, (five_f hPD.sw.box).2.2.1, (five_f hPD.sw.box).2.2.2.1, (five_f hPD.sw.box).2.2.2.2, rD⟩
            have HDD := hide hPD.sw.bel
            have KA : (fun w' => w'.cell? ⟨w.heap.size, 0, none⟩ = some (.int .i64 f.wd) ∧ w'.cell? ⟨w.heap.size, 1, none⟩ = some (.slice a1 f.lw.length c1) ∧ w'.cell? ⟨w.heap.size, 2, none⟩ = some (.slice a2 n c2) ∧ w'.cell? ⟨w.heap.size, 3, none⟩ = some (.slice a3 f.lk.length c3) ∧ w'.cell? ⟨w.heap.size, 4, none⟩ = some (.slice a4 f.la.length c4) ∧ w'.cell? ⟨g, k * 5, none⟩ = some (.int .i64 id)) wB := ⟨(five_f hPB.sw.box).1, (five_f hPB.sw.box).2.1, (five_f hPB.sw.box).2.2.1, (five_f hPB.sw.box).2.2.2.1, (five_f hPB.sw.box).2.2.2.2, rB⟩
            refine wp_region_held_drew (S := fun w' => w'.cell? ⟨w.heap.size, 0, none⟩ = some (.int .i64 f.wd) ∧ w'.cell? ⟨w.heap.size, 1, none⟩ = some (.slice a1 f.lw.length c1) ∧ w'.cell? ⟨w.heap.size, 2, none⟩ = some (.slice a2 n c2) ∧ w'.cell? ⟨w.heap.size, 3, none⟩ = some (.slice a3 f.lk.length c3) ∧ w'.cell? ⟨w.heap.size, 4, none⟩ = some (.slice a4 f.la.length c4) ∧ w'.cell? ⟨g, k * 5, none⟩ = some (.int .i64 id)) (by kernel_rfl) (by first | exact KA | go_keep) (fun hHeld => ?_)
            clear KA hPB rB
            generalize wB.drew = wD at *
            refine tkF (i := 0) (d := some 93) (v := ?_) rfl rfl (by kernel_rfl) (by kernel_rfl) (by kernel_rfl) (fun _ _ _ h => h) (Or.inl ⟨by rfl, ?_⟩) (by assumption) ?_
            rotate_left
            · intro w hSw; (try dsimp only at hSw); go_simp; try with_reducible rfl
            try simp only [Act.put, List.setIfInBounds_toArray, List.set_cons_zero, List.set_cons_succ]
            refine tkF (i := 1) (d := some 94) (v := ?_) rfl rfl (by kernel_rfl) (by kernel_rfl) (by kernel_rfl) (fun _ _ _ h => h) (Or.inl ⟨by rfl, ?_⟩) (by assumption) ?_
            rotate_left
            · intro w hSw; (try dsimp only at hSw); go_simp; try with_reducible rfl
            try simp only [Act.put, List.setIfInBounds_toArray, List.set_cons_zero, List.set_cons_succ]
            refine tkF (i := 2) (d := some 95) (v := ?_) rfl rfl (by kernel_rfl) (by kernel_rfl) (by kernel_rfl) (fun _ _ _ h => h) (Or.inl ⟨by rfl, ?_⟩) (by assumption) ?_
            rotate_left
            · intro w hSw; (try dsimp only at hSw); go_simp; try with_reducible rfl
            try simp only [Act.put, List.setIfInBounds_toArray, List.set_cons_zero, List.set_cons_succ]
            refine tkF (i := 3) (d := some 96) (v := ?_) rfl rfl (by kernel_rfl) (by kernel_rfl) (by kernel_rfl) (fun _ _ _ h => h) (Or.inl ⟨by rfl, ?_⟩) (by assumption) ?_
            rotate_left
            · intro w hSw; (try dsimp only at hSw); go_simp; try with_reducible rfl
            try simp only [Act.put, List.setIfInBounds_toArray, List.set_cons_zero, List.set_cons_succ]
            refine tkF (i := 4) (d := some 97) (v := ?_) rfl rfl (by kernel_rfl) (by kernel_rfl) (by kernel_rfl) (fun _ _ _ h => h) (Or.inl ⟨by rfl, ?_⟩) (by assumption) ?_
            rotate_left
            · intro w hSw; (try dsimp only at hSw); go_simp; try with_reducible rfl
            try simp only [Act.put, List.setIfInBounds_toArray, List.set_cons_zero, List.set_cons_succ]
            refine tkF (i := 5) (d := some 98) (v := ?_) rfl rfl (by kernel_rfl) (by kernel_rfl) (by kernel_rfl) (fun _ _ _ h => h) (Or.inl ⟨by rfl, ?_⟩) (by assumption) ?_
            rotate_left
            · intro w hSw; (try dsimp only at hSw); go_simp; try with_reducible rfl
            try simp only [Act.put, List.setIfInBounds_toArray, List.set_cons_zero, List.set_cons_succ]
            refine tkF (i := 6) (d := some 99) (v := ?_) rfl rfl (by kernel_rfl) (by kernel_rfl) (by kernel_rfl) (fun _ _ _ h => h) (Or.inl ⟨by rfl, ?_⟩) (by assumption) ?_
            rotate_left
            · intro w hSw; (try dsimp only at hSw); go_simp; try with_reducible rfl
            try simp only [Act.put, List.setIfInBounds_toArray, List.set_cons_zero, List.set_cons_succ]
            refine tkF (i := 7) (d := some 100) (v := ?_) rfl rfl (by kernel_rfl) (by kernel_rfl) (by kernel_rfl) (fun _ _ _ h => h) (Or.inl ⟨by rfl, ?_⟩) (by assumption) ?_
            rotate_left
            · intro w hSw; (try dsimp only at hSw); go_simp; try with_reducible rfl
            try simp only [Act.put, List.setIfInBounds_toArray, List.set_cons_zero, List.set_cons_succ]
            refine tkF (i := 8) (d := some 101) (v := ?_) rfl rfl (by kernel_rfl) (by kernel_rfl) (by kernel_rfl) (fun _ _ _ h => h) (Or.inl ⟨by rfl, ?_⟩) (by assumption) ?_
            rotate_left
            · intro w hSw; (try dsimp only at hSw); go_simp; try with_reducible rfl
            try simp only [Act.put, List.setIfInBounds_toArray, List.set_cons_zero, List.set_cons_succ]
            refine tkF (i := 9) (d := some 102) (v := ?_) rfl rfl (by kernel_rfl) (by kernel_rfl) (by kernel_rfl) (fun _ _ _ h => h) (Or.inl ⟨by rfl, ?_⟩) (by assumption) ?_
            rotate_left
            · intro w hSw; (try dsimp only at hSw); go_simp; try with_reducible rfl
            try simp only [Act.put, List.setIfInBounds_toArray, List.set_cons_zero, List.set_cons_succ]
            refine tkF (i := 10) (d := some 103) (v := ?_) rfl rfl (by kernel_rfl) (by kernel_rfl) (by kernel_rfl) (fun _ _ _ h => h) (Or.inl ⟨by rfl, ?_⟩) (by assumption) ?_
            rotate_left
            · intro w hSw; (try dsimp only at hSw); go_simp; try with_reducible rfl
            try simp only [Act.put, List.setIfInBounds_toArray, List.set_cons_zero, List.set_cons_succ]
            refine wpAnyH_ready (rs := [11]) (by kernel_rfl) (by simp) (AllReadyH.cons rfl (fun K hK => ?_) AllReadyH.nil)
            go_simp
            go_at_call 20
            refine ((unhide CV) _ _ (unhide HDD)).mono ?_
            rintro e w2 ⟨rfl, hw2⟩
            rw [hw2]
            clear hw2 w2
            try go_wp2_with fail
            refine hK.out _ _ KSD (fun hHeld1 => ?_)
            clear hK K
            try simp only [Act.put, List.setIfInBounds_toArray, List.set_cons_zero, List.set_cons_succ]
            refine tkF (i := 12) (d := some 105) (v := ?_) rfl rfl (by kernel_rfl) (by kernel_rfl) (by kernel_rfl) (fun _ _ _ h => h) (Or.inl ⟨by rfl, ?_⟩) (by assumption) ?_
            rotate_left
            · intro w hSw; (try dsimp only at hSw); go_simp; try with_reducible rfl
            try simp only [Act.put, List.setIfInBounds_toArray, List.set_cons_zero, List.set_cons_succ]
            refine tkF (i := 13) (d := some 106) (v := ?_) rfl rfl (by kernel_rfl) (by kernel_rfl) (by kernel_rfl) (fun _ _ _ h => h) (Or.inl ⟨by rfl, ?_⟩) (by assumption) ?_
            rotate_left
            · intro w hSw; (try dsimp only at hSw); go_simp; try with_reducible rfl
            try simp only [Act.put, List.setIfInBounds_toArray, List.set_cons_zero, List.set_cons_succ]
            refine wpAnyH_ready (rs := [14]) (by kernel_rfl) (by simp) (AllReadyH.cons rfl (fun K hK => ?_) AllReadyH.nil)
            go_simp
            try go_wp2_with fail
            refine hK.out _ _ K7 (fun hHeld2 => ?_)
            clear hK K
            try simp only [Act.put, List.setIfInBounds_toArray, List.set_cons_zero, List.set_cons_succ]
            refine wpAnyH_done (by kernel_rfl) ?_ _
            clear KSD K7 hHeld hHeld1 hHeld2 e4c e4f
            generalize wD.setCell ⟨g, k * 5 + 4, none⟩ (.int .i64 (valS f.lw id f.wd)) = w7 at *
            go_wp2
            go_roundw
            case rel => exact ⟨k + 1, by rw [unhide HNR], .inr ⟨k, rfl, unhide hNB⟩, by go_num, by omega, hide (by rw [← unhide HNM]; exact unhide HP7)⟩
            case measure => simp [intOf]; omega
          · obtain ⟨hbk, b, hb1, hb2, hb3⟩ := hbi
            have ep : px f (run f G k).2 id = wrap64 ((run f G k).2.1 + kerS f.lk b.1 id) := by unfold px; rw [hb1]
            rw [ep] at hNM hNR
            have HNM := hide hNM
            have HNR := hide hNR
            have HB0 : Hid (nth (flt (mid f G k)) (bi * 5) = b.1) := hide (by have := base_cell f G k bi 0 hbk (by omega); rw [Nat.add_zero] at this; rw [this]; exact hb2)
            have hbl : (bi : Int) < (G.length : Int) := by omega
            have hb00 : (0 : Int) ≤ (bi : Int) := by omega
            clear hNM hNR ep hb1 hb2 hb3 hz
            generalize (run f G k).2.1 = x at *
            go_upto_region 18 with (go_at_call 19; refine (unhide CC1).mono ?_; rintro e w1 ⟨rfl, hb1⟩; have hP1 := hP.below hb1; have r1 := (hP1.row.cell (k * 5) (by omega)).1.trans ((hP.row.cell (k * 5) (by omega)).1.symm.trans r0'); clear hb1)
            have rb1 := (hP1.row.cell (bi * 5) (by omega)).1
            rw [unhide HB0] at rb1
            have hPD := hP1.below (drew_below w1)
            have rD : w1.drew.cell? ⟨g, k * 5, none⟩ = some (.int .i64 id) := r1
            have rbD : w1.drew.cell? ⟨g, bi * 5, none⟩ = some (.int .i64 b.1) := rb1
            have KSD : (fun w' => w'.cell? ⟨w.heap.size, 0, none⟩ = some (.int .i64 f.wd) ∧ w'.cell? ⟨w.heap.size, 1, none⟩ = some (.slice a1 f.lw.length c1) ∧ w'.cell? ⟨w.heap.size, 2, none⟩ = some (.slice a2 n c2) ∧ w'.cell? ⟨w.heap.size, 3, none⟩ = some (.slice a3 f.lk.length c3) ∧ w'.cell? ⟨w.heap.size, 4, none⟩ = some (.slice a4 f.la.length c4) ∧ w'.cell? ⟨g, k * 5, none⟩ = some (.int .i64 id) ∧ w'.cell? ⟨g, bi * 5, none⟩ = some (.int .i64 b.1)) w1.drew := ⟨(five_f hPD.sw.box).1, (five_f hPD.sw.box).2.1, (five_f hPD.sw.box).2.2.1, (five_f hPD.sw.box).2.2.2.1, (five_f hPD.sw.box).2.2.2.2, rD, rbD⟩
            have HDD := hide hPD.sw.bel
            have KA : (fun w' => w'.cell? ⟨w.heap.size, 0, none⟩ = some (.int .i64 f.wd) ∧ w'.cell? ⟨w.heap.size, 1, none⟩ = some (.slice a1 f.lw.length c1) ∧ w'.cell? ⟨w.heap.size, 2, none⟩ = some (.slice a2 n c2) ∧ w'.cell? ⟨w.heap.size, 3, none⟩ = some (.slice a3 f.lk.length c3) ∧ w'.cell? ⟨w.heap.size, 4, none⟩ = some (.slice a4 f.la.length c4) ∧ w'.cell? ⟨g, k * 5, none⟩ = some (.int .i64 id) ∧ w'.cell? ⟨g, bi * 5, none⟩ = some (.int .i64 b.1)) w1 := ⟨(five_f hP1.sw.box).1, (five_f hP1.sw.box).2.1, (five_f hP1.sw.box).2.2.1, (five_f hP1.sw.box).2.2.2.1, (five_f hP1.sw.box).2.2.2.2, r1, rb1⟩
            refine wp_region_held_drew (S := fun w' => w'.cell? ⟨w.heap.size, 0, none⟩ = some (.int .i64 f.wd) ∧ w'.cell? ⟨w.heap.size, 1, none⟩ = some (.slice a1 f.lw.length c1) ∧ w'.cell? ⟨w.heap.size, 2, none⟩ = some (.slice a2 n c2) ∧ w'.cell? ⟨w.heap.size, 3, none⟩ = some (.slice a3 f.lk.length c3) ∧ w'.cell? ⟨w.heap.size, 4, none⟩ = some (.slice a4 f.la.length c4) ∧ w'.cell? ⟨g, k * 5, none⟩ = some (.int .i64 id) ∧ w'.cell? ⟨g, bi * 5, none⟩ = some (.int .i64 b.1)) (by kernel_rfl) (by first | exact KA | go_keep) (fun hHeld => ?_)
            clear KA
            generalize w1.drew = wK at *
            refine tkF (i := 0) (d := some 73) (v := ?_) rfl rfl (by kernel_rfl) (by kernel_rfl) (by kernel_rfl) (fun _ _ _ h => h) (Or.inl ⟨by rfl, ?_⟩) (by assumption) ?_
            rotate_left
            · intro w hSw; (try dsimp only at hSw); go_simp; try with_reducible rfl
            try simp only [Act.put, List.setIfInBounds_toArray, List.set_cons_zero, List.set_cons_succ]
            refine tkF (i := 1) (d := some 74) (v := ?_) rfl rfl (by kernel_rfl) (by kernel_rfl) (by kernel_rfl) (fun _ _ _ h => h) (Or.inl ⟨by rfl, ?_⟩) (by assumption) ?_
            rotate_left
            · intro w hSw; (try dsimp only at hSw); go_simp; try with_reducible rfl
            try simp only [Act.put, List.setIfInBounds_toArray, List.set_cons_zero, List.set_cons_succ]
            refine tkF (i := 2) (d := some 75) (v := ?_) rfl rfl (by kernel_rfl) (by kernel_rfl) (by kernel_rfl) (fun _ _ _ h => h) (Or.inl ⟨by rfl, ?_⟩) (by assumption) ?_
            rotate_left
            · intro w hSw; (try dsimp only at hSw); go_simp; try with_reducible rfl
            try simp only [Act.put, List.setIfInBounds_toArray, List.set_cons_zero, List.set_cons_succ]
            refine tkF (i := 3) (d := some 76) (v := ?_) rfl rfl (by kernel_rfl) (by kernel_rfl) (by kernel_rfl) (fun _ _ _ h => h) (Or.inl ⟨by rfl, ?_⟩) (by assumption) ?_
            rotate_left
            · intro w hSw; (try dsimp only at hSw); go_simp; try with_reducible rfl
            try simp only [Act.put, List.setIfInBounds_toArray, List.set_cons_zero, List.set_cons_succ]
            refine tkF (i := 4) (d := some 77) (v := ?_) rfl rfl (by kernel_rfl) (by kernel_rfl) (by kernel_rfl) (fun _ _ _ h => h) (Or.inl ⟨by rfl, ?_⟩) (by assumption) ?_
            rotate_left
            · intro w hSw; (try dsimp only at hSw); go_simp; try with_reducible rfl
            try simp only [Act.put, List.setIfInBounds_toArray, List.set_cons_zero, List.set_cons_succ]
            refine tkF (i := 5) (d := some 78) (v := ?_) rfl rfl (by kernel_rfl) (by kernel_rfl) (by kernel_rfl) (fun _ _ _ h => h) (Or.inl ⟨by rfl, ?_⟩) (by assumption) ?_
            rotate_left
            · intro w hSw; (try dsimp only at hSw); go_simp; try with_reducible rfl
            try simp only [Act.put, List.setIfInBounds_toArray, List.set_cons_zero, List.set_cons_succ]
            refine tkF (i := 6) (d := some 79) (v := ?_) rfl rfl (by kernel_rfl) (by kernel_rfl) (by kernel_rfl) (fun _ _ _ h => h) (Or.inl ⟨by rfl, ?_⟩) (by assumption) ?_
            rotate_left
            · intro w hSw; (try dsimp only at hSw); go_simp; try with_reducible rfl
            try simp only [Act.put, List.setIfInBounds_toArray, List.set_cons_zero, List.set_cons_succ]
            refine tkF (i := 7) (d := some 80) (v := ?_) rfl rfl (by kernel_rfl) (by kernel_rfl) (by kernel_rfl) (fun _ _ _ h => h) (Or.inl ⟨by rfl, ?_⟩) (by assumption) ?_
            rotate_left
            · intro w hSw; (try dsimp only at hSw); go_simp; try with_reducible rfl
            try simp only [Act.put, List.setIfInBounds_toArray, List.set_cons_zero, List.set_cons_succ]
            refine tkF (i := 8) (d := some 81) (v := ?_) rfl rfl (by kernel_rfl) (by kernel_rfl) (by kernel_rfl) (fun _ _ _ h => h) (Or.inl ⟨by rfl, ?_⟩) (by assumption) ?_
            rotate_left
            · intro w hSw; (try dsimp only at hSw); go_simp; try with_reducible rfl
            try simp only [Act.put, List.setIfInBounds_toArray, List.set_cons_zero, List.set_cons_succ]
            refine tkF (i := 9) (d := some 82) (v := ?_) rfl rfl (by kernel_rfl) (by kernel_rfl) (by kernel_rfl) (fun _ _ _ h => h) (Or.inl ⟨by rfl, ?_⟩) (by assumption) ?_
            rotate_left
            · intro w hSw; (try dsimp only at hSw); go_simp; try with_reducible rfl
            try simp only [Act.put, List.setIfInBounds_toArray, List.set_cons_zero, List.set_cons_succ]
            refine tkF (i := 10) (d := some 83) (v := ?_) rfl rfl (by kernel_rfl) (by kernel_rfl) (by kernel_rfl) (fun _ _ _ h => h) (Or.inl ⟨by rfl, ?_⟩) (by assumption) ?_
            rotate_left
            · intro w hSw; (try dsimp only at hSw); go_simp; try with_reducible rfl
            try simp only [Act.put, List.setIfInBounds_toArray, List.set_cons_zero, List.set_cons_succ]
            refine tkF (i := 11) (d := some 84) (v := ?_) rfl rfl (by kernel_rfl) (by kernel_rfl) (by kernel_rfl) (fun _ _ _ h => h) (Or.inl ⟨by rfl, ?_⟩) (by assumption) ?_
            rotate_left
            · intro w hSw; (try dsimp only at hSw); go_simp; try with_reducible rfl
            try simp only [Act.put, List.setIfInBounds_toArray, List.set_cons_zero, List.set_cons_succ]
            refine tkF (i := 12) (d := some 85) (v := ?_) rfl rfl (by kernel_rfl) (by kernel_rfl) (by kernel_rfl) (fun _ _ _ h => h) (Or.inl ⟨by rfl, ?_⟩) (by assumption) ?_
            rotate_left
            · intro w hSw; (try dsimp only at hSw); go_simp; try with_reducible rfl
            try simp only [Act.put, List.setIfInBounds_toArray, List.set_cons_zero, List.set_cons_succ]
            refine wpAnyH_ready (rs := [13]) (by kernel_rfl) (by simp) (AllReadyH.cons rfl (fun K hK => ?_) AllReadyH.nil)
            go_simp
            go_at_call 21
            refine ((unhide CK) _ _ _ (unhide HDD)).mono ?_
            rintro e w2 ⟨rfl, hw2⟩
            rw [hw2]
            clear hw2 w2
            try go_wp2_with fail
            refine hK.out _ _ KSD (fun hHeld1 => ?_)
            clear hK K
            try simp only [Act.put, List.setIfInBounds_toArray, List.set_cons_zero, List.set_cons_succ]
            refine tkF (i := 14) (d := some 87) (v := ?_) rfl rfl (by kernel_rfl) (by kernel_rfl) (by kernel_rfl) (fun _ _ _ h => h) (Or.inl ⟨by rfl, ?_⟩) (by assumption) ?_
            rotate_left
            · intro w hSw; (try dsimp only at hSw); go_simp; try with_reducible rfl
            try simp only [Act.put, List.setIfInBounds_toArray, List.set_cons_zero, List.set_cons_succ]
            refine tkF (i := 15) (d := some 7) (v := ?_) rfl rfl (by kernel_rfl) (by kernel_rfl) (by kernel_rfl) (fun _ _ _ h => h) (Or.inl ⟨by rfl, ?_⟩) (by assumption) ?_
            rotate_left
            · intro w hSw; (try dsimp only at hSw); go_simp; try with_reducible rfl
            try simp only [Act.put, List.setIfInBounds_toArray, List.set_cons_zero, List.set_cons_succ]
            refine wpAnyH_done (by kernel_rfl) ?_ _
            have hPK := hPD
            have rK := rD
            clear KSD hHeld hHeld1 HDD rbD hPD rD
            go_upto_region 19 with fail
            have e3 := hPK.row.cell (k * 5 + 3) (by omega)
            have e3c := e3.1
            have e3f := e3.2
            have hPB := hPK.set (k * 5 + 3) (wrap64 (x + kerS f.lk b.1 id))
            have rB0 := (hPB.row.cell (k * 5) (by omega)).1
            rw [nth_ne _ _ _ _ (by omega)] at rB0
            have rB := rB0.trans ((hPK.row.cell (k * 5) (by omega)).1.symm.trans rK)
            clear e3 rB0
            go_upto_region 20 with fail
            clear e3c e3f
            generalize wK.setCell ⟨g, k * 5 + 3, none⟩ (.int .i64 (wrap64 (x + kerS f.lk b.1 id))) = wB at *
            have hPD := hPB.below (drew_below wB)
            have rD : wB.drew.cell? ⟨g, k * 5, none⟩ = some (.int .i64 id) := rB
            have e4 := hPD.row.cell (k * 5 + 4) (by omega)
            have e4c := e4.1
            have e4f := e4.2
            have hP7 := hPD.set (k * 5 + 4) (valS f.lw id f.wd)
            have r7 := (hP7.row.cell (k * 5) (by omega)).1
            rw [nth_ne _ _ _ _ (by omega)] at r7
            have r7' := r7.trans ((hPD.row.cell (k * 5) (by omega)).1.symm.trans rD)
            have K7 : (fun w' => w'.cell? ⟨w.heap.size, 0, none⟩ = some (.int .i64 f.wd) ∧ w'.cell? ⟨w.heap.size, 1, none⟩ = some (.slice a1 f.lw.length c1) ∧ w'.cell? ⟨w.heap.size, 2, none⟩ = some (.slice a2 n c2) ∧ w'.cell? ⟨w.heap.size, 3, none⟩ = some (.slice a3 f.lk.length c3) ∧ w'.cell? ⟨w.heap.size, 4, none⟩ = some (.slice a4 f.la.length c4) ∧ w'.cell? ⟨g, k * 5, none⟩ = some (.int .i64 id)) (wB.drew.setCell ⟨g, k * 5 + 4, none⟩ (.int .i64 (valS f.lw id f.wd))) := ⟨(five_f hP7.sw.box).1, (five_f hP7.sw.box).2.1, (five_f hP7.sw.box).2.2.1, (five_f hP7.sw.box).2.2.2.1, (five_f hP7.sw.box).2.2.2.2, r7'⟩
            have e5 := (hP7.row.cell (k * 5 + 4) (by omega)).1
            rw [nth_self _ _ _ (by rw [List.length_set, mid_flen f G k (by omega)]; omega)] at e5
            have HP7 := hide hP7
            clear e4 r7 hP7
            have KSD : (fun w' => w'.cell? ⟨w.heap.size, 0, none⟩ = some (.int .i64 f.wd) ∧ w'.cell? ⟨w.heap.size, 1, none⟩ = some (.slice a1 f.lw.length c1) ∧ w'.cell? ⟨w.heap.size, 2, none⟩ = some (.slice a2 n c2) ∧ w'.cell? ⟨w.heap.size, 3, none⟩ = some (.slice a3 f.lk.length c3) ∧ w'.cell? ⟨w.heap.size, 4, none⟩ = some (.slice a4 f.la.length c4) ∧ w'.cell? ⟨g, k * 5, none⟩ = some (.int .i64 id)) wB.drew := ⟨(five_f hPD.sw.box).1, (five_f hPD.sw.box).2.1, (five_f hPD.sw.box).2.2.1, (five_f hPD.sw.box).2.2.2.1, (five_f hPD.sw.box).2.2.2.2, rD⟩
            have HDD := hide hPD.sw.bel
            have KA : (fun w' => w'.cell? ⟨w.heap.size, 0, none⟩ = some (.int .i64 f.wd) ∧ w'.cell? ⟨w.heap.size, 1, none⟩ = some (.slice a1 f.lw.length c1) ∧ w'.cell? ⟨w.heap.size, 2, none⟩ = some (.slice a2 n c2) ∧ w'.cell? ⟨w.heap.size, 3, none⟩ = some (.slice a3 f.lk.length c3) ∧ w'.cell? ⟨w.heap.size, 4, none⟩ = some (.slice a4 f.la.length c4) ∧ w'.cell? ⟨g, k * 5, none⟩ = some (.int .i64 id)) wB := ⟨(five_f hPB.sw.box).1, (five_f hPB.sw.box).2.1, (five_f hPB.sw.box).2.2.1, (five_f hPB.sw.box).2.2.2.1, (five_f hPB.sw.box).2.2.2.2, rB⟩
            refine wp_region_held_drew (S := fun w' => w'.cell? ⟨w.heap.size, 0, none⟩ = some (.int .i64 f.wd) ∧ w'.cell? ⟨w.heap.size, 1, none⟩ = some (.slice a1 f.lw.length c1) ∧ w'.cell? ⟨w.heap.size, 2, none⟩ = some (.slice a2 n c2) ∧ w'.cell? ⟨w.heap.size, 3, none⟩ = some (.slice a3 f.lk.length c3) ∧ w'.cell? ⟨w.heap.size, 4, none⟩ = some (.slice a4 f.la.length c4) ∧ w'.cell? ⟨g, k * 5, none⟩ = some (.int .i64 id)) (by kernel_rfl) (by first | exact KA | go_keep) (fun hHeld => ?_)
            clear KA hPB rB
            generalize wB.drew = wD at *
            refine tkF (i := 0) (d := some 93) (v := ?_) rfl rfl (by kernel_rfl) (by kernel_rfl) (by kernel_rfl) (fun _ _ _ h => h) (Or.inl ⟨by rfl, ?_⟩) (by assumption) ?_
            rotate_left
            · intro w hSw; (try dsimp only at hSw); go_simp; try with_reducible rfl
            try simp only [Act.put, List.setIfInBounds_toArray, List.set_cons_zero, List.set_cons_succ]
            refine tkF (i := 1) (d := some 94) (v := ?_) rfl rfl (by kernel_rfl) (by kernel_rfl) (by kernel_rfl) (fun _ _ _ h => h) (Or.inl ⟨by rfl, ?_⟩) (by assumption) ?_
            rotate_left
            · intro w hSw; (try dsimp only at hSw); go_simp; try with_reducible rfl
            try simp only [Act.put, List.setIfInBounds_toArray, List.set_cons_zero, List.set_cons_succ]
            refine tkF (i := 2) (d := some 95) (v := ?_) rfl rfl (by kernel_rfl) (by kernel_rfl) (by kernel_rfl) (fun _ _ _ h => h) (Or.inl ⟨by rfl, ?_⟩) (by assumption) ?_
            rotate_left
            · intro w hSw; (try dsimp only at hSw); go_simp; try with_reducible rfl
            try simp only [Act.put, List.setIfInBounds_toArray, List.set_cons_zero, List.set_cons_succ]
            refine tkF (i := 3) (d := some 96) (v := ?_) rfl rfl (by kernel_rfl) (by kernel_rfl) (by kernel_rfl) (fun _ _ _ h => h) (Or.inl ⟨by rfl, ?_⟩) (by assumption) ?_
            rotate_left
            · intro w hSw; (try dsimp only at hSw); go_simp; try with_reducible rfl
            try simp only [Act.put, List.setIfInBounds_toArray, List.set_cons_zero, List.set_cons_succ]
            refine tkF (i := 4) (d := some 97) (v := ?_) rfl rfl (by kernel_rfl) (by kernel_rfl) (by kernel_rfl) (fun _ _ _ h => h) (Or.inl ⟨by rfl, ?_⟩) (by assumption) ?_
            rotate_left
            · intro w hSw; (try dsimp only at hSw); go_simp; try with_reducible rfl
            try simp only [Act.put, List.setIfInBounds_toArray, List.set_cons_zero, List.set_cons_succ]
            refine tkF (i := 5) (d := some 98) (v := ?_) rfl rfl (by kernel_rfl) (by kernel_rfl) (by kernel_rfl) (fun _ _ _ h => h) (Or.inl ⟨by rfl, ?_⟩) (by assumption) ?_
            rotate_left
            · intro w hSw; (try dsimp only at hSw); go_simp; try with_reducible rfl
            try simp only [Act.put, List.setIfInBounds_toArray, List.set_cons_zero, List.set_cons_succ]
            refine tkF (i := 6) (d := some 99) (v := ?_) rfl rfl (by kernel_rfl) (by kernel_rfl) (by kernel_rfl) (fun _ _ _ h => h) (Or.inl ⟨by rfl, ?_⟩) (by assumption) ?_
            rotate_left
            · intro w hSw; (try dsimp only at hSw); go_simp; try with_reducible rfl
            try simp only [Act.put, List.setIfInBounds_toArray, List.set_cons_zero, List.set_cons_succ]
            refine tkF (i := 7) (d := some 100) (v := ?_) rfl rfl (by kernel_rfl) (by kernel_rfl) (by kernel_rfl) (fun _ _ _ h => h) (Or.inl ⟨by rfl, ?_⟩) (by assumption) ?_
            rotate_left
            · intro w hSw; (try dsimp only at hSw); go_simp; try with_reducible rfl
            try simp only [Act.put, List.setIfInBounds_toArray, List.set_cons_zero, List.set_cons_succ]
            refine tkF (i := 8) (d := some 101) (v := ?_) rfl rfl (by kernel_rfl) (by kernel_rfl) (by kernel_rfl) (fun _ _ _ h => h) (Or.inl ⟨by rfl, ?_⟩) (by assumption) ?_
            rotate_left
            · intro w hSw; (try dsimp only at hSw); go_simp; try with_reducible rfl
            try simp only [Act.put, List.setIfInBounds_toArray, List.set_cons_zero, List.set_cons_succ]
            refine tkF (i := 9) (d := some 102) (v := ?_) rfl rfl (by kernel_rfl) (by kernel_rfl) (by kernel_rfl) (fun _ _ _ h => h) (Or.inl ⟨by rfl, ?_⟩) (by assumption) ?_
            rotate_left
            · intro w hSw; (try dsimp only at hSw); go_simp; try with_reducible rfl
            try simp only [Act.put, List.setIfInBounds_toArray, List.set_cons_zero, List.set_cons_succ]
            refine tkF (i := 10) (d := some 103) (v := ?_) rfl rfl (by kernel_rfl) (by kernel_rfl) (by kernel_rfl) (fun _ _ _ h => h) (Or.inl ⟨by rfl, ?_⟩) (by assumption) ?_
            rotate_left
            · intro w hSw; (try dsimp only at hSw); go_simp; try with_reducible rfl
            try simp only [Act.put, List.setIfInBounds_toArray, List.set_cons_zero, List.set_cons_succ]
            refine wpAnyH_ready (rs := [11]) (by kernel_rfl) (by simp) (AllReadyH.cons rfl (fun K hK => ?_) AllReadyH.nil)
            go_simp
            go_at_call 20
            refine ((unhide CV) _ _ (unhide HDD)).mono ?_
            rintro e w2 ⟨rfl, hw2⟩
            rw [hw2]
            clear hw2 w2
            try go_wp2_with fail
            refine hK.out _ _ KSD (fun hHeld1 => ?_)
            clear hK K
            try simp only [Act.put, List.setIfInBounds_toArray, List.set_cons_zero, List.set_cons_succ]
            refine tkF (i := 12) (d := some 105) (v := ?_) rfl rfl (by kernel_rfl) (by kernel_rfl) (by kernel_rfl) (fun _ _ _ h => h) (Or.inl ⟨by rfl, ?_⟩) (by assumption) ?_
            rotate_left
            · intro w hSw; (try dsimp only at hSw); go_simp; try with_reducible rfl
            try simp only [Act.put, List.setIfInBounds_toArray, List.set_cons_zero, List.set_cons_succ]
            refine tkF (i := 13) (d := some 106) (v := ?_) rfl rfl (by kernel_rfl) (by kernel_rfl) (by kernel_rfl) (fun _ _ _ h => h) (Or.inl ⟨by rfl, ?_⟩) (by assumption) ?_
            rotate_left
            · intro w hSw; (try dsimp only at hSw); go_simp; try with_reducible rfl
            try simp only [Act.put, List.setIfInBounds_toArray, List.set_cons_zero, List.set_cons_succ]
            refine wpAnyH_ready (rs := [14]) (by kernel_rfl) (by simp) (AllReadyH.cons rfl (fun K hK => ?_) AllReadyH.nil)
            go_simp
            try go_wp2_with fail
            refine hK.out _ _ K7 (fun hHeld2 => ?_)
            clear hK K
            try simp only [Act.put, List.setIfInBounds_toArray, List.set_cons_zero, List.set_cons_succ]
            refine wpAnyH_done (by kernel_rfl) ?_ _
            clear KSD K7 hHeld hHeld1 hHeld2 e4c e4f
            generalize wD.setCell ⟨g, k * 5 + 4, none⟩ (.int .i64 (valS f.lw id f.wd)) = w7 at *
            go_wp2
            go_roundw
            case rel => exact ⟨k + 1, by rw [unhide HNR], .inr ⟨k, rfl, unhide hNB⟩, by go_num, by omega, hide (by rw [← unhide HNM]; exact unhide HP7)⟩
            case measure => simp [intOf]; omega
      · obtain rfl : k = G.length := by omega
        have hge : ¬ (G.length : Int) < (G.length : Int) := by omega
        have hP := unhide HP
        obtain ⟨⟨q0, q1, q2⟩, f0, f1, f2⟩ := three_a hP.sw.ans
        clear hP CA CV CK
        go_wp2
        refine ans_retS (unhide HP).sw 0 _ _ _ _ rfl rfl (fun w' h1 h2 => ?_) rfl
        rw [unhide HS8]
        refine ⟨_, rfl, ?_, h1⟩
        show FR w' w.heap.size _ (run f G G.length).1.length (flt (run f G G.length).1)
        rw [unhide HRL, ← unhide HMA]
        have hlo := (unhide HP).lo
        exact fr_same (unhide HP).row (by omega) (h2 g (by omega))
/-- The specification's Shape, at every text. -/
theorem specShape (v : Value) (wd : Int) (LW : List Sp) (n : Nat) (Q : List (List Int)) (LK LA : List Sp) (s : ByteArray) (w : World) (h : FA w v wd LW n Q LK LA) (hf : Fit LW n Q LK LA) (hs : s.size ≤ 1048576) :
    Calls Tryz.prog 5 #[v, .string s] w fun e w' => ∃ gv, e = .returned (.agg #[.int .i64 (shp wd LW n Q LK LA s).1, gv, .int .i64 (shp wd LW n Q LK LA s).2.2]) ∧ FR w' w.heap.size gv (shp wd LW n Q LK LA s).2.1.length (flt (shp wd LW n Q LK LA s).2.1) ∧ Below w.heap.size w w' := by
  by_cases h1 : 65536 < s.size
  · obtain ⟨a1, a2, a3, a4, c1, c2, c3, c4, rfl, _⟩ := h.form
    have e : shp wd LW n Q LK LA s = (2, [], 0) := if_pos h1
    rw [e]
    refine (spec_long wd a1 a2 a3 a4 LW.length n LK.length LA.length c1 c2 c3 c4 s w h1 hs).mono ?_
    rintro e w' ⟨rfl, hb⟩
    exact ⟨_, rfl, World.ownsRow_nil _ _ _ _, hb⟩
  · by_cases h2 : ffb wd LW n Q LK LA = true
    · exact spec_ok ⟨wd, LW, LK, LA⟩ v n Q s w h hf (by omega) h2
    · have e : shp wd LW n Q LK LA s = (1, [], 0) := by unfold shp; rw [if_neg h1, if_neg h2]
      rw [e]
      refine (spec_bad v wd LW n Q LK LA s w h hf (by omega) h2).mono ?_
      rintro e w' ⟨rfl, hb⟩
      exact ⟨_, rfl, World.ownsRow_nil _ _ _ _, hb⟩
end Sha
end Go.Proofs.YtfldomifooihlaaGreatDoor
