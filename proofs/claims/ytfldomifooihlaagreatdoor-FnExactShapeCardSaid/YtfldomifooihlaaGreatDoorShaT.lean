/- Glyphs placed one behind the other, as the program does. -/
import Derived.Test.YtfldomifooihlaaGreatDoorShaQ
import Derived.Test.YtfldomifooihlaaGreatDoorMG
namespace Go.Proofs.YtfldomifooihlaaGreatDoor
namespace Sha
open Go.RowKit Fnt Rul
set_option linter.unusedVariables false
set_option linter.unusedSimpArgs false
/-- While glyphs are placed: the font's own rows, its box, the row of glyphs. -/
structure Pw (w0 wr : World) (fb g m c : Nat) (fc : Array Value) (F : List Int) : Prop where
  bel : Below w0.heap.size w0 wr
  row : FR wr w0.heap.size (.slice (some ⟨g, 0, none⟩) m c) m F
  box : wr.heap[fb]? = some (.cells fc 36 (0, 0))
  fg : fb ≠ g
  lo : w0.heap.size ≤ g
theorem Pw.below {w0 wr w2 : World} {fb g m c : Nat} {fc : Array Value} {F : List Int} (h : Pw w0 wr fb g m c fc F) (hb : Below wr.heap.size wr w2) : Pw w0 w2 fb g m c fc F :=
  ⟨h.bel.trans (hb.mono h.bel.size), h.row.below hb, (hb.block _ (Array.getElem?_eq_some_iff.1 h.box).1).trans h.box, h.fg, h.lo⟩
theorem Pw.set {w0 wr : World} {fb g m c : Nat} {fc : Array Value} {F : List Int} (h : Pw w0 wr fb g m c fc F) (i : Nat) (x : Int) : Pw w0 (wr.setCell ⟨g, i, none⟩ (.int .i64 x)) fb g m c fc (F.set i x) :=
  ⟨h.bel.setCell (p := ⟨g, i, none⟩) h.lo _, h.row.set i x, (Below.heap_setCell _ _ _ fb (fun e => h.fg e)).trans h.box, h.fg, h.lo⟩
theorem five_f {w : World} {fb : Nat} {v0 v1 v2 v3 v4 : Value} (h : w.heap[fb]? = some (.cells #[v0, v1, v2, v3, v4] 36 (0, 0))) : w.cell? ⟨fb, 0, none⟩ = some v0 ∧ w.cell? ⟨fb, 1, none⟩ = some v1 ∧ w.cell? ⟨fb, 2, none⟩ = some v2 ∧ w.cell? ⟨fb, 3, none⟩ = some v3 ∧ w.cell? ⟨fb, 4, none⟩ = some v4 := by
  simp [World.cell?, h]
theorem Pw.lt {w0 wr : World} {fb g m c : Nat} {fc : Array Value} {F : List Int} (h : Pw w0 wr fb g m c fc F) (hm : 0 < m) : g < wr.heap.size := by
  rcases World.ownsRow.lt h.row g rfl with ⟨_, h2⟩
  exact h2
theorem mid_cell (f : Ft) (G : List Gl) (k j : Nat) (hk : k < G.length) (hj : j < 5) : nth (flt (mid f G k)) (k * 5 + j) = nth (cel (gat G k)) j := by
  rw [nth_flt _ k j (by rw [mid_len f G k (by omega)]; exact hk) hj, mid_at f G k hk]
  congr 2
  have := run_len f G k
  simp [gat, List.getD_eq_getElem?_getD, List.getElem?_append_right, this]
theorem base_cell (f : Ft) (G : List Gl) (k bi j : Nat) (hb : bi < k) (hj : j < 5) : nth (flt (mid f G k)) (bi * 5 + j) = nth (cel (gat (run f G k).1 bi)) j := by
  unfold mid
  exact nth_fltA _ _ bi j (by rw [run_len]; exact hb) hj
/-- Where a base stands, or that there is none. -/
def BsV (f : Ft) (G : List Gl) (k g : Nat) (v : Value) : Prop := (v = .pointer none ∧ (run f G k).2.2 = none) ∨ ∃ bi, v = .pointer (some ⟨g, bi * 5, none⟩) ∧ Bs f G k bi
theorem nth_ne (F : List Int) (i j : Nat) (x : Int) (h : i ≠ j) : nth (F.set i x) j = nth F j := by
  simp [nth, List.getD_eq_getElem?_getD, List.getElem?_set, h]
theorem mid_mark (f : Ft) (G : List Gl) (k : Nat) (hk : k < G.length) (hm : Chr.cat (gat G k).1 = 3) : (flt (mid f G k)).set (k * 5 + 3) (pa (run f G k).2.2 (valS f.la (gat G k).1 0)) = flt (mid f G (k + 1)) := by
  have h := flt_setX (run f G k).1 (G.drop (k + 1)) (gat G k) (pa (run f G k).2.2 (valS f.la (gat G k).1 0))
  rw [run_len] at h
  rw [mid_at f G k hk, h, mid_succ]
  congr 3
  unfold one
  rw [if_pos hm]
theorem run_mark (f : Ft) (G : List Gl) (k : Nat) (hm : Chr.cat (gat G k).1 = 3) : (run f G (k + 1)).2 = (run f G k).2 := by
  show (one f (run f G k).2 (gat G k)).2 = _
  unfold one
  rw [if_pos hm]
theorem mid_no (f : Ft) (G : List Gl) (k : Nat) (hk : k < G.length) (hm : ¬ Chr.cat (gat G k).1 = 3) : ((flt (mid f G k)).set (k * 5 + 3) (px f (run f G k).2 (gat G k).1)).set (k * 5 + 4) (valS f.lw (gat G k).1 f.wd) = flt (mid f G (k + 1)) := by
  have h := flt_setX (run f G k).1 (G.drop (k + 1)) (gat G k) (px f (run f G k).2 (gat G k).1)
  rw [run_len] at h
  have h2 := flt_setW (run f G k).1 (G.drop (k + 1)) ((gat G k).1, (gat G k).2.1, (gat G k).2.2.1, px f (run f G k).2 (gat G k).1, (gat G k).2.2.2.2) (valS f.lw (gat G k).1 f.wd)
  rw [run_len] at h2
  rw [mid_at f G k hk, h, h2, mid_succ]
  congr 3
  unfold one
  rw [if_neg hm]
theorem run_no (f : Ft) (G : List Gl) (k : Nat) (hm : ¬ Chr.cat (gat G k).1 = 3) : (run f G (k + 1)).2.1 = wrap64 (px f (run f G k).2 (gat G k).1 + valS f.lw (gat G k).1 f.wd) := by
  show (one f (run f G k).2 (gat G k)).2.1 = _
  unfold one
  rw [if_neg hm]
theorem grown_of {w w2 : World} {r : Option Nat} (hb : Below w.heap.size w w2) : w.grownBy w2 r := ⟨hb.os, hb.tape, hb.output, hb.size, fun k hk _ => hb.block k hk⟩
theorem grown_cell (w : World) (g i : Nat) (x : Value) : w.grownBy (w.setCell ⟨g, i, none⟩ x) (some g) := ⟨rfl, rfl, rfl, by show w.heap.size ≤ (w.heap.modify g _).size; simp, fun k _ hk => Below.heap_setCell _ _ _ k (fun e => hk (by rw [e]))⟩
theorem nth_self (F : List Int) (i : Nat) (x : Int) (h : i < F.length) : nth (F.set i x) i = x := by
  simp [nth, List.getD_eq_getElem?_getD, List.getElem?_set, h]
theorem mid_flen (f : Ft) (G : List Gl) (k : Nat) (h : k ≤ G.length) : (flt (mid f G k)).length = G.length * 5 := by rw [flt_len, mid_len f G k h]
set_option maxRecDepth 100000 in
set_option maxHeartbeats 8000000 in
theorem place_any (f : Ft) (a1 a2 a3 a4 : Option Addr) (n2 c1 c2 c3 c4 B1 B3 B4 g c : Nat) (G : List Gl) (w0 w : World)
    (s1 : SpRow w0 B1 (.slice a1 f.lw.length c1) f.lw) (s3 : Krn.SpRow w0 B3 (.slice a3 f.lk.length c3) f.lk) (s4 : SpRow w0 B4 (.slice a4 f.la.length c4) f.la)
    (l1 : f.lw.length ≤ 1048576) (l3 : f.lk.length ≤ 1048576) (l4 : f.la.length ≤ 1048576) (o1 : okAt f.lw 0 = true) (o3 : Kup f.lk) (o4 : okAt f.la 0 = true)
    (ht : TabAt w0) (hB : Below w0.heap.size w0 w) (hR : FR w w0.heap.size (.slice (some ⟨g, 0, none⟩) G.length c) G.length (flt G)) (hg : w0.heap.size ≤ g) (hgw : g < w.heap.size) (lG : G.length ≤ 1048576) :
    Calls Tryz.prog 28 #[.agg #[.int .i64 f.wd, .slice a1 f.lw.length c1, .slice a2 n2 c2, .slice a3 f.lk.length c3, .slice a4 f.la.length c4], .slice (some ⟨g, 0, none⟩) G.length c] w fun e w' => e = .returned (.int .i64 (run f G G.length).2.1) ∧ Below w0.heap.size w0 w' ∧ FR w' w0.heap.size (.slice (some ⟨g, 0, none⟩) G.length c) G.length (flt (run f G G.length).1) ∧ w.grownBy w' (some g) := by
  have CK := hide (fun ka kb W (hb : Below w0.heap.size w0 W) => kern_any f.wd a1 a2 a3 a4 f.lw.length n2 f.la.length c1 c2 c3 c4 f.lk ka kb B3 W (s3.below hb) l3 o3)
  have CN := hide (fun id W (hb : Below w0.heap.size w0 W) => anch_nil f.wd a1 a2 a3 a4 f.lw.length n2 f.lk.length c1 c2 c3 c4 f.la id B4 W (s4.below hb) l4 o4)
  have CS := hide (fun id X g o W (hb : Below w0.heap.size w0 W) hg hX => anch_some f.wd a1 a2 a3 a4 f.lw.length n2 f.lk.length c1 c2 c3 c4 f.la id X B4 g o W (s4.below hb) l4 o4 hg hX)
  have CV := hide (fun id W (hb : Below w0.heap.size w0 W) => value_any (.slice a1 f.lw.length c1) f.lw id f.wd B1 W (s1.below hb) l1 o1)
  have CC := hide (fun id W (hb : Below w0.heap.size w0 W) => Chr.cat_any id W (ht.below hb))
  clear s1 s3 s4 l1 l3 l4 o1 o3 o4 ht
  obtain ⟨fb, hfb⟩ : ∃ fb, fb = w.heap.size := ⟨_, rfl⟩
  obtain ⟨W0, hW0⟩ : ∃ W0, W0 = w.alloc (.cells #[.int .i64 f.wd, .slice a1 f.lw.length c1, .slice a2 n2 c2, .slice a3 f.lk.length c3, .slice a4 f.la.length c4] 36) := ⟨_, rfl⟩
  have P0 : Pw w0 W0 fb g G.length c #[.int .i64 f.wd, .slice a1 f.lw.length c1, .slice a2 n2 c2, .slice a3 f.lk.length c3, .slice a4 f.la.length c4] (flt (mid f G 0)) := by
    have hb1 : Below w.heap.size w W0 := by rw [hW0]; exact (Below.refl _ _).alloc (Nat.le_refl _) _
    refine ⟨hB.trans (hb1.mono hB.size), ?_, ?_, by omega, hg⟩
    · rw [mid_zero]; exact hR.below hb1
    · rw [hW0, hfb]; exact Frl.heap_new w _
  have HP0 := hide P0
  have HG0 : Hid (w.grownBy W0 (some g)) := hide (by rw [hW0]; exact World.grownBy_alloc w _ (some g))
  clear hB hR P0
  go_enter Tryz.func28, Tryz.ntmps28
  go_upto_region 1 with fail
  rw [← hW0, ← hfb]
  clear hW0 hfb
  go_wp2
  go_loopw [5, 6, 11] (fun x bp i wr => ∃ k : Nat, x = .int .i64 (run f G k).2.1 ∧ BsV f G k g bp ∧ i = .int .i64 (k : Int) ∧ k ≤ G.length ∧ Hid (Pw w0 wr fb g G.length c #[.int .i64 f.wd, .slice a1 f.lw.length c1, .slice a2 n2 c2, .slice a3 f.lk.length c3, .slice a4 f.la.length c4] (flt (mid f G k))) ∧ Hid (w.grownBy wr (some g))) (fun _ _ i _ => G.length - (intOf i).toNat)
  case atStart => exact ⟨0, rfl, .inl ⟨rfl, rfl⟩, rfl, by omega, HP0, HG0⟩
  case round =>
    obtain ⟨k, rfl, hBs, rfl, hk, HP, HG⟩ := hrel
    clear HP0 HG0
    by_cases hlt : k < G.length
    · have hlt' : (k : Int) < (G.length : Int) := by omega
      have hk0 : (0 : Int) ≤ (k : Int) := by omega
      have hP := unhide HP
      have m0 := mid_cell f G k 0 hlt (by omega)
      have r0 := (hP.row.cell (k * 5 + 0) (by omega)).1
      rw [m0] at r0
      have r0' : wr.cell? ⟨g, k * 5, none⟩ = some (.int .i64 (gat G k).1) := r0
      have hzz := hP.bel.size
      have hBI := hBs
      obtain ⟨id, hid⟩ : ∃ id, (gat G k).1 = id := ⟨_, rfl⟩
      rw [hid] at r0'
      have MM := hide (mid_mark f G k hlt)
      have MR := hide (run_mark f G k)
      have NM := hide (mid_no f G k hlt)
      have NR := hide (run_no f G k)
      have NB := hide (@Bs.new f G k)
      have BM := hide (fun bi (h : Bs f G k bi) => h.mark)
      have NN := hide (fun h => @none_mark f G k h)
      rw [hid] at MM MR NM NR NB BM NN
      have CC1 := hide ((unhide CC) id wr hP.bel)
      have HI := hide hid
      clear m0 r0 hid CC
      generalize Chr.cat id = z at *
      by_cases hz : z = 3
      · have tz : (z == 3) = true := by simpa using hz
        have hMM := (unhide MM) hz
        have hMR := (unhide MR) hz
        clear MM MR NM NR NB CV CK
        rcases hBs with ⟨rfl, hno⟩ | ⟨bi, rfl, hbi⟩
        · have hNN := hide ((unhide NN) hno hz)
          rw [hno] at hMM
          have HMM : Hid ((flt (mid f G k)).set (k * 5 + 3) (valS f.la id 0) = flt (mid f G (k + 1))) := hide hMM
          have HMR := hide hMR
          clear hMM hMR hno hz BM NN hBI CS
          go_upto_region 7 with (go_at_call 59; refine (unhide CC1).mono ?_; rintro e w1 ⟨rfl, o, hw1⟩; have hb1 : Below wr.heap.size wr w1 := (by rw [hw1]; exact (Below.refl _ _).alloc (Nat.le_refl _) _); have hP1 := hP.below hb1; have HG1 := hide ((unhide HG).trans (grown_of hb1)); clear hw1 hb1)
          have r1 := (hP1.row.cell (k * 5) (by omega)).1
          have r1 : w1.cell? ⟨g, k * 5, none⟩ = some (.int .i64 id) := r1.trans ((hP.row.cell (k * 5) (by omega)).1.symm.trans r0')
          have KS : (fun w' => w'.cell? ⟨fb, 0, none⟩ = some (.int .i64 f.wd) ∧ w'.cell? ⟨fb, 1, none⟩ = some (.slice a1 f.lw.length c1) ∧ w'.cell? ⟨fb, 2, none⟩ = some (.slice a2 n2 c2) ∧ w'.cell? ⟨fb, 3, none⟩ = some (.slice a3 f.lk.length c3) ∧ w'.cell? ⟨fb, 4, none⟩ = some (.slice a4 f.la.length c4) ∧ w'.cell? ⟨g, k * 5, none⟩ = some (.int .i64 id)) w1 := ⟨(five_f hP1.box).1, (five_f hP1.box).2.1, (five_f hP1.box).2.2.1, (five_f hP1.box).2.2.2.1, (five_f hP1.box).2.2.2.2, r1⟩
          refine wp_region_held_drew (S := fun w' => w'.cell? ⟨fb, 0, none⟩ = some (.int .i64 f.wd) ∧ w'.cell? ⟨fb, 1, none⟩ = some (.slice a1 f.lw.length c1) ∧ w'.cell? ⟨fb, 2, none⟩ = some (.slice a2 n2 c2) ∧ w'.cell? ⟨fb, 3, none⟩ = some (.slice a3 f.lk.length c3) ∧ w'.cell? ⟨fb, 4, none⟩ = some (.slice a4 f.la.length c4) ∧ w'.cell? ⟨g, k * 5, none⟩ = some (.int .i64 id)) (by kernel_rfl) (by first | exact KS | go_keep) (fun hHeld => ?_)
          refine tkF (i := 0) (d := some 23) (v := ?_) rfl rfl (by kernel_rfl) (by kernel_rfl) (by kernel_rfl) (fun _ _ _ h => h) (Or.inl ⟨by rfl, ?_⟩) (by assumption) ?_
          rotate_left
          · intro w hSw; (try dsimp only at hSw); go_simp; try with_reducible rfl
          try simp only [Act.put, List.setIfInBounds_toArray, List.set_cons_zero, List.set_cons_succ]
          refine tkF (i := 1) (d := some 24) (v := ?_) rfl rfl (by kernel_rfl) (by kernel_rfl) (by kernel_rfl) (fun _ _ _ h => h) (Or.inl ⟨by rfl, ?_⟩) (by assumption) ?_
          rotate_left
          · intro w hSw; (try dsimp only at hSw); go_simp; try with_reducible rfl
          try simp only [Act.put, List.setIfInBounds_toArray, List.set_cons_zero, List.set_cons_succ]
          refine tkF (i := 2) (d := some 25) (v := ?_) rfl rfl (by kernel_rfl) (by kernel_rfl) (by kernel_rfl) (fun _ _ _ h => h) (Or.inl ⟨by rfl, ?_⟩) (by assumption) ?_
          rotate_left
          · intro w hSw; (try dsimp only at hSw); go_simp; try with_reducible rfl
          try simp only [Act.put, List.setIfInBounds_toArray, List.set_cons_zero, List.set_cons_succ]
          refine tkF (i := 3) (d := some 26) (v := ?_) rfl rfl (by kernel_rfl) (by kernel_rfl) (by kernel_rfl) (fun _ _ _ h => h) (Or.inl ⟨by rfl, ?_⟩) (by assumption) ?_
          rotate_left
          · intro w hSw; (try dsimp only at hSw); go_simp; try with_reducible rfl
          try simp only [Act.put, List.setIfInBounds_toArray, List.set_cons_zero, List.set_cons_succ]
          refine tkF (i := 4) (d := some 27) (v := ?_) rfl rfl (by kernel_rfl) (by kernel_rfl) (by kernel_rfl) (fun _ _ _ h => h) (Or.inl ⟨by rfl, ?_⟩) (by assumption) ?_
          rotate_left
          · intro w hSw; (try dsimp only at hSw); go_simp; try with_reducible rfl
          try simp only [Act.put, List.setIfInBounds_toArray, List.set_cons_zero, List.set_cons_succ]
          refine tkF (i := 5) (d := some 28) (v := ?_) rfl rfl (by kernel_rfl) (by kernel_rfl) (by kernel_rfl) (fun _ _ _ h => h) (Or.inl ⟨by rfl, ?_⟩) (by assumption) ?_
          rotate_left
          · intro w hSw; (try dsimp only at hSw); go_simp; try with_reducible rfl
          try simp only [Act.put, List.setIfInBounds_toArray, List.set_cons_zero, List.set_cons_succ]
          refine tkF (i := 6) (d := some 29) (v := ?_) rfl rfl (by kernel_rfl) (by kernel_rfl) (by kernel_rfl) (fun _ _ _ h => h) (Or.inl ⟨by rfl, ?_⟩) (by assumption) ?_
          rotate_left
          · intro w hSw; (try dsimp only at hSw); go_simp; try with_reducible rfl
          try simp only [Act.put, List.setIfInBounds_toArray, List.set_cons_zero, List.set_cons_succ]
          refine wpAnyH_ready (rs := [7]) (by kernel_rfl) (by simp) (AllReadyH.cons rfl (fun K hK => ?_) AllReadyH.nil)
          go_simp
          go_at_call 60
          refine ((unhide CN) _ _ (hP1.bel.trans ((drew_below w1).mono hP1.bel.size))).mono ?_
          rintro e w2 ⟨rfl, hb2⟩
          have hb2' := (drew_below w1).trans hb2
          have hP2 := hP1.below hb2'
          have HG2 := hide ((unhide HG1).trans (grown_of hb2'))
          have r2 := (hb2'.cell (p := ⟨g, k * 5, none⟩) (hP1.lt (by omega))).trans r1
          have KS2 : (fun w' => w'.cell? ⟨fb, 0, none⟩ = some (.int .i64 f.wd) ∧ w'.cell? ⟨fb, 1, none⟩ = some (.slice a1 f.lw.length c1) ∧ w'.cell? ⟨fb, 2, none⟩ = some (.slice a2 n2 c2) ∧ w'.cell? ⟨fb, 3, none⟩ = some (.slice a3 f.lk.length c3) ∧ w'.cell? ⟨fb, 4, none⟩ = some (.slice a4 f.la.length c4) ∧ w'.cell? ⟨g, k * 5, none⟩ = some (.int .i64 id)) w2 := ⟨(five_f hP2.box).1, (five_f hP2.box).2.1, (five_f hP2.box).2.2.1, (five_f hP2.box).2.2.2.1, (five_f hP2.box).2.2.2.2, r2⟩
          have e3 := hP2.row.cell (k * 5 + 3) (by omega)
          have e3c := e3.1
          have e3f := e3.2
          have hP3 := hP2.set (k * 5 + 3) (valS f.la id 0)
          have HG3 := hide ((unhide HG2).trans (grown_cell w2 g (k * 5 + 3) (.int .i64 (valS f.la id 0))))
          have r3 := (hP3.row.cell (k * 5) (by omega)).1
          rw [nth_ne _ _ _ _ (by omega)] at r3
          have r3' := r3.trans ((hP2.row.cell (k * 5) (by omega)).1.symm.trans r2)
          have KS3 : (fun w' => w'.cell? ⟨fb, 0, none⟩ = some (.int .i64 f.wd) ∧ w'.cell? ⟨fb, 1, none⟩ = some (.slice a1 f.lw.length c1) ∧ w'.cell? ⟨fb, 2, none⟩ = some (.slice a2 n2 c2) ∧ w'.cell? ⟨fb, 3, none⟩ = some (.slice a3 f.lk.length c3) ∧ w'.cell? ⟨fb, 4, none⟩ = some (.slice a4 f.la.length c4) ∧ w'.cell? ⟨g, k * 5, none⟩ = some (.int .i64 id)) (w2.setCell ⟨g, k * 5 + 3, none⟩ (.int .i64 (valS f.la id 0))) := ⟨(five_f hP3.box).1, (five_f hP3.box).2.1, (five_f hP3.box).2.2.1, (five_f hP3.box).2.2.2.1, (five_f hP3.box).2.2.2.2, r3'⟩
          clear hb2 hb2' e3 r3
          try go_wp2_with fail
          refine hK.out _ _ KS2 (fun hHeld1 => ?_)
          clear hK K
          try simp only [Act.put, List.setIfInBounds_toArray, List.set_cons_zero, List.set_cons_succ]
          refine tkF (i := 8) (d := some 31) (v := ?_) rfl rfl (by kernel_rfl) (by kernel_rfl) (by kernel_rfl) (fun _ _ _ h => h) (Or.inl ⟨by rfl, ?_⟩) (by assumption) ?_
          rotate_left
          · intro w hSw; (try dsimp only at hSw); go_simp; try with_reducible rfl
          try simp only [Act.put, List.setIfInBounds_toArray, List.set_cons_zero, List.set_cons_succ]
          refine tkF (i := 9) (d := some 32) (v := ?_) rfl rfl (by kernel_rfl) (by kernel_rfl) (by kernel_rfl) (fun _ _ _ h => h) (Or.inl ⟨by rfl, ?_⟩) (by assumption) ?_
          rotate_left
          · intro w hSw; (try dsimp only at hSw); go_simp; try with_reducible rfl
          try simp only [Act.put, List.setIfInBounds_toArray, List.set_cons_zero, List.set_cons_succ]
          refine wpAnyH_ready (rs := [10]) (by kernel_rfl) (by simp) (AllReadyH.cons rfl (fun K hK => ?_) AllReadyH.nil)
          go_simp
          try go_wp2_with fail
          refine hK.out _ _ KS3 (fun hHeld2 => ?_)
          clear hK K
          try simp only [Act.put, List.setIfInBounds_toArray, List.set_cons_zero, List.set_cons_succ]
          refine wpAnyH_done (by kernel_rfl) ?_ _
          have HP3 := hide hP3
          clear hP3 hP2 KS KS2 KS3 hHeld hHeld1 hHeld2 e3c e3f
          generalize w2.setCell ⟨g, k * 5 + 3, none⟩ (.int .i64 (valS f.la id 0)) = w3 at *
          go_wp2
          go_roundw
          case rel => exact ⟨k + 1, by rw [unhide HMR], .inl ⟨rfl, unhide hNN⟩, by go_num, by omega, hide (by rw [← unhide HMM]; exact unhide HP3), HG3⟩
          case measure => simp [intOf]; omega
        · have hBM := hide ((unhide BM) bi hbi hz)
          obtain ⟨hbk, b, hb1, hb2, hb3⟩ := hbi
          rw [hb1] at hMM
          have HMM : Hid ((flt (mid f G k)).set (k * 5 + 3) (wrap64 (b.2 + valS f.la id 0)) = flt (mid f G (k + 1))) := hide hMM
          have HMR := hide hMR
          have HB3 : Hid (nth (flt (mid f G k)) (bi * 5 + 3) = b.2) := hide (by rw [base_cell f G k bi 3 hbk (by omega)]; exact hb3)
          clear hMM hMR hb1 hb2 hb3 hz BM NN hBI CN
          go_upto_region 7 with (go_at_call 59; refine (unhide CC1).mono ?_; rintro e w1 ⟨rfl, o, hw1⟩; have hb1 : Below wr.heap.size wr w1 := (by rw [hw1]; exact (Below.refl _ _).alloc (Nat.le_refl _) _); have hP1 := hP.below hb1; have HG1 := hide ((unhide HG).trans (grown_of hb1)); clear hw1 hb1)
          have r1 := (hP1.row.cell (k * 5) (by omega)).1
          have r1 : w1.cell? ⟨g, k * 5, none⟩ = some (.int .i64 id) := r1.trans ((hP.row.cell (k * 5) (by omega)).1.symm.trans r0')
          have x1 := (hP1.row.cell (bi * 5 + 3) (by omega)).1
          rw [unhide HB3] at x1
          have KS : (fun w' => w'.cell? ⟨fb, 0, none⟩ = some (.int .i64 f.wd) ∧ w'.cell? ⟨fb, 1, none⟩ = some (.slice a1 f.lw.length c1) ∧ w'.cell? ⟨fb, 2, none⟩ = some (.slice a2 n2 c2) ∧ w'.cell? ⟨fb, 3, none⟩ = some (.slice a3 f.lk.length c3) ∧ w'.cell? ⟨fb, 4, none⟩ = some (.slice a4 f.la.length c4) ∧ w'.cell? ⟨g, k * 5, none⟩ = some (.int .i64 id)) w1 := ⟨(five_f hP1.box).1, (five_f hP1.box).2.1, (five_f hP1.box).2.2.1, (five_f hP1.box).2.2.2.1, (five_f hP1.box).2.2.2.2, r1⟩
          refine wp_region_held_drew (S := fun w' => w'.cell? ⟨fb, 0, none⟩ = some (.int .i64 f.wd) ∧ w'.cell? ⟨fb, 1, none⟩ = some (.slice a1 f.lw.length c1) ∧ w'.cell? ⟨fb, 2, none⟩ = some (.slice a2 n2 c2) ∧ w'.cell? ⟨fb, 3, none⟩ = some (.slice a3 f.lk.length c3) ∧ w'.cell? ⟨fb, 4, none⟩ = some (.slice a4 f.la.length c4) ∧ w'.cell? ⟨g, k * 5, none⟩ = some (.int .i64 id)) (by kernel_rfl) (by first | exact KS | go_keep) (fun hHeld => ?_)
          refine tkF (i := 0) (d := some 23) (v := ?_) rfl rfl (by kernel_rfl) (by kernel_rfl) (by kernel_rfl) (fun _ _ _ h => h) (Or.inl ⟨by rfl, ?_⟩) (by assumption) ?_
          rotate_left
          · intro w hSw; (try dsimp only at hSw); go_simp; try with_reducible rfl
          try simp only [Act.put, List.setIfInBounds_toArray, List.set_cons_zero, List.set_cons_succ]
          refine tkF (i := 1) (d := some 24) (v := ?_) rfl rfl (by kernel_rfl) (by kernel_rfl) (by kernel_rfl) (fun _ _ _ h => h) (Or.inl ⟨by rfl, ?_⟩) (by assumption) ?_
          rotate_left
          · intro w hSw; (try dsimp only at hSw); go_simp; try with_reducible rfl
          try simp only [Act.put, List.setIfInBounds_toArray, List.set_cons_zero, List.set_cons_succ]
          refine tkF (i := 2) (d := some 25) (v := ?_) rfl rfl (by kernel_rfl) (by kernel_rfl) (by kernel_rfl) (fun _ _ _ h => h) (Or.inl ⟨by rfl, ?_⟩) (by assumption) ?_
          rotate_left
          · intro w hSw; (try dsimp only at hSw); go_simp; try with_reducible rfl
          try simp only [Act.put, List.setIfInBounds_toArray, List.set_cons_zero, List.set_cons_succ]
          refine tkF (i := 3) (d := some 26) (v := ?_) rfl rfl (by kernel_rfl) (by kernel_rfl) (by kernel_rfl) (fun _ _ _ h => h) (Or.inl ⟨by rfl, ?_⟩) (by assumption) ?_
          rotate_left
          · intro w hSw; (try dsimp only at hSw); go_simp; try with_reducible rfl
          try simp only [Act.put, List.setIfInBounds_toArray, List.set_cons_zero, List.set_cons_succ]
          refine tkF (i := 4) (d := some 27) (v := ?_) rfl rfl (by kernel_rfl) (by kernel_rfl) (by kernel_rfl) (fun _ _ _ h => h) (Or.inl ⟨by rfl, ?_⟩) (by assumption) ?_
          rotate_left
          · intro w hSw; (try dsimp only at hSw); go_simp; try with_reducible rfl
          try simp only [Act.put, List.setIfInBounds_toArray, List.set_cons_zero, List.set_cons_succ]
          refine tkF (i := 5) (d := some 28) (v := ?_) rfl rfl (by kernel_rfl) (by kernel_rfl) (by kernel_rfl) (fun _ _ _ h => h) (Or.inl ⟨by rfl, ?_⟩) (by assumption) ?_
          rotate_left
          · intro w hSw; (try dsimp only at hSw); go_simp; try with_reducible rfl
          try simp only [Act.put, List.setIfInBounds_toArray, List.set_cons_zero, List.set_cons_succ]
          refine tkF (i := 6) (d := some 29) (v := ?_) rfl rfl (by kernel_rfl) (by kernel_rfl) (by kernel_rfl) (fun _ _ _ h => h) (Or.inl ⟨by rfl, ?_⟩) (by assumption) ?_
          rotate_left
          · intro w hSw; (try dsimp only at hSw); go_simp; try with_reducible rfl
          try simp only [Act.put, List.setIfInBounds_toArray, List.set_cons_zero, List.set_cons_succ]
          refine wpAnyH_ready (rs := [7]) (by kernel_rfl) (by simp) (AllReadyH.cons rfl (fun K hK => ?_) AllReadyH.nil)
          go_simp
          go_at_call 60
          refine ((unhide CS) _ b.2 g (bi * 5) _ (hP1.bel.trans ((drew_below w1).mono hP1.bel.size)) (hP1.lt (by omega)) x1).mono ?_
          rintro e w2 ⟨rfl, hb2⟩
          have hb2' := (drew_below w1).trans hb2
          have hP2 := hP1.below hb2'
          have HG2 := hide ((unhide HG1).trans (grown_of hb2'))
          have r2 := (hb2'.cell (p := ⟨g, k * 5, none⟩) (hP1.lt (by omega))).trans r1
          have KS2 : (fun w' => w'.cell? ⟨fb, 0, none⟩ = some (.int .i64 f.wd) ∧ w'.cell? ⟨fb, 1, none⟩ = some (.slice a1 f.lw.length c1) ∧ w'.cell? ⟨fb, 2, none⟩ = some (.slice a2 n2 c2) ∧ w'.cell? ⟨fb, 3, none⟩ = some (.slice a3 f.lk.length c3) ∧ w'.cell? ⟨fb, 4, none⟩ = some (.slice a4 f.la.length c4) ∧ w'.cell? ⟨g, k * 5, none⟩ = some (.int .i64 id)) w2 := ⟨(five_f hP2.box).1, (five_f hP2.box).2.1, (five_f hP2.box).2.2.1, (five_f hP2.box).2.2.2.1, (five_f hP2.box).2.2.2.2, r2⟩
          have e3 := hP2.row.cell (k * 5 + 3) (by omega)
          have e3c := e3.1
          have e3f := e3.2
          have hP3 := hP2.set (k * 5 + 3) (wrap64 (b.2 + valS f.la id 0))
          have HG3 := hide ((unhide HG2).trans (grown_cell w2 g (k * 5 + 3) (.int .i64 (wrap64 (b.2 + valS f.la id 0)))))
          have r3 := (hP3.row.cell (k * 5) (by omega)).1
          rw [nth_ne _ _ _ _ (by omega)] at r3
          have r3' := r3.trans ((hP2.row.cell (k * 5) (by omega)).1.symm.trans r2)
          have KS3 : (fun w' => w'.cell? ⟨fb, 0, none⟩ = some (.int .i64 f.wd) ∧ w'.cell? ⟨fb, 1, none⟩ = some (.slice a1 f.lw.length c1) ∧ w'.cell? ⟨fb, 2, none⟩ = some (.slice a2 n2 c2) ∧ w'.cell? ⟨fb, 3, none⟩ = some (.slice a3 f.lk.length c3) ∧ w'.cell? ⟨fb, 4, none⟩ = some (.slice a4 f.la.length c4) ∧ w'.cell? ⟨g, k * 5, none⟩ = some (.int .i64 id)) (w2.setCell ⟨g, k * 5 + 3, none⟩ (.int .i64 (wrap64 (b.2 + valS f.la id 0)))) := ⟨(five_f hP3.box).1, (five_f hP3.box).2.1, (five_f hP3.box).2.2.1, (five_f hP3.box).2.2.2.1, (five_f hP3.box).2.2.2.2, r3'⟩
          clear hb2 hb2' e3 r3
          try go_wp2_with fail
          refine hK.out _ _ KS2 (fun hHeld1 => ?_)
          clear hK K
          try simp only [Act.put, List.setIfInBounds_toArray, List.set_cons_zero, List.set_cons_succ]
          refine tkF (i := 8) (d := some 31) (v := ?_) rfl rfl (by kernel_rfl) (by kernel_rfl) (by kernel_rfl) (fun _ _ _ h => h) (Or.inl ⟨by rfl, ?_⟩) (by assumption) ?_
          rotate_left
          · intro w hSw; (try dsimp only at hSw); go_simp; try with_reducible rfl
          try simp only [Act.put, List.setIfInBounds_toArray, List.set_cons_zero, List.set_cons_succ]
          refine tkF (i := 9) (d := some 32) (v := ?_) rfl rfl (by kernel_rfl) (by kernel_rfl) (by kernel_rfl) (fun _ _ _ h => h) (Or.inl ⟨by rfl, ?_⟩) (by assumption) ?_
          rotate_left
          · intro w hSw; (try dsimp only at hSw); go_simp; try with_reducible rfl
          try simp only [Act.put, List.setIfInBounds_toArray, List.set_cons_zero, List.set_cons_succ]
          refine wpAnyH_ready (rs := [10]) (by kernel_rfl) (by simp) (AllReadyH.cons rfl (fun K hK => ?_) AllReadyH.nil)
          go_simp
          try go_wp2_with fail
          refine hK.out _ _ KS3 (fun hHeld2 => ?_)
          clear hK K
          try simp only [Act.put, List.setIfInBounds_toArray, List.set_cons_zero, List.set_cons_succ]
          refine wpAnyH_done (by kernel_rfl) ?_ _
          have HP3 := hide hP3
          clear hP3 hP2 KS KS2 KS3 hHeld hHeld1 hHeld2 e3c e3f
          generalize w2.setCell ⟨g, k * 5 + 3, none⟩ (.int .i64 (wrap64 (b.2 + valS f.la id 0))) = w3 at *
          go_wp2
          go_roundw
          case rel => exact ⟨k + 1, by rw [unhide HMR], .inr ⟨bi, rfl, unhide hBM⟩, by go_num, by omega, hide (by rw [← unhide HMM]; exact unhide HP3), HG3⟩
          case measure => simp [intOf]; omega
      · have tz : (z == 3) = false := by simpa using hz
        have hNM := (unhide NM) hz
        have hNR := (unhide NR) hz
        have hNB := hide ((unhide NB) hz)
        clear MM MR NM NR NB CN CS BM NN
        rcases hBs with ⟨rfl, hno⟩ | ⟨bi, rfl, hbi⟩
        · have ep : px f (run f G k).2 id = (run f G k).2.1 := by unfold px; rw [hno]
          rw [ep] at hNM hNR
          have HNM := hide hNM
          have HNR := hide hNR
          clear hNM hNR ep hno hz hBI CK
          generalize (run f G k).2.1 = x at *
          go_upto_region 10 with (go_at_call 59; refine (unhide CC1).mono ?_; rintro e w1 ⟨rfl, o, hw1⟩; have hb1 : Below wr.heap.size wr w1 := (by rw [hw1]; exact (Below.refl _ _).alloc (Nat.le_refl _) _); have hP1 := hP.below hb1; have HG1 := hide ((unhide HG).trans (grown_of hb1)); clear hw1 hb1)
          have r1 := (hP1.row.cell (k * 5) (by omega)).1
          have r1 : w1.cell? ⟨g, k * 5, none⟩ = some (.int .i64 id) := r1.trans ((hP.row.cell (k * 5) (by omega)).1.symm.trans r0')
          have e3 := hP1.row.cell (k * 5 + 3) (by omega)
          have e3c := e3.1
          have e3f := e3.2
          have hPB := hP1.set (k * 5 + 3) x
          have HGB := hide ((unhide HG1).trans (grown_cell w1 g (k * 5 + 3) (.int .i64 x)))
          have rB0 := (hPB.row.cell (k * 5) (by omega)).1
          rw [nth_ne _ _ _ _ (by omega)] at rB0
          have rB := rB0.trans ((hP1.row.cell (k * 5) (by omega)).1.symm.trans r1)
          clear e3 rB0
          go_upto_region 11 with fail
          clear e3c e3f
          generalize w1.setCell ⟨g, k * 5 + 3, none⟩ (.int .i64 x) = wB at *
          have KB : (fun w' => w'.cell? ⟨fb, 0, none⟩ = some (.int .i64 f.wd) ∧ w'.cell? ⟨fb, 1, none⟩ = some (.slice a1 f.lw.length c1) ∧ w'.cell? ⟨fb, 2, none⟩ = some (.slice a2 n2 c2) ∧ w'.cell? ⟨fb, 3, none⟩ = some (.slice a3 f.lk.length c3) ∧ w'.cell? ⟨fb, 4, none⟩ = some (.slice a4 f.la.length c4) ∧ w'.cell? ⟨g, k * 5, none⟩ = some (.int .i64 id)) wB := ⟨(five_f hPB.box).1, (five_f hPB.box).2.1, (five_f hPB.box).2.2.1, (five_f hPB.box).2.2.2.1, (five_f hPB.box).2.2.2.2, rB⟩
          refine wp_region_held_drew (S := fun w' => w'.cell? ⟨fb, 0, none⟩ = some (.int .i64 f.wd) ∧ w'.cell? ⟨fb, 1, none⟩ = some (.slice a1 f.lw.length c1) ∧ w'.cell? ⟨fb, 2, none⟩ = some (.slice a2 n2 c2) ∧ w'.cell? ⟨fb, 3, none⟩ = some (.slice a3 f.lk.length c3) ∧ w'.cell? ⟨fb, 4, none⟩ = some (.slice a4 f.la.length c4) ∧ w'.cell? ⟨g, k * 5, none⟩ = some (.int .i64 id)) (by kernel_rfl) (by first | exact KB | go_keep) (fun hHeld => ?_)
          refine tkF (i := 0) (d := some 51) (v := ?_) rfl rfl (by kernel_rfl) (by kernel_rfl) (by kernel_rfl) (fun _ _ _ h => h) (Or.inl ⟨by rfl, ?_⟩) (by assumption) ?_
          rotate_left
          · intro w hSw; (try dsimp only at hSw); go_simp; try with_reducible rfl
          try simp only [Act.put, List.setIfInBounds_toArray, List.set_cons_zero, List.set_cons_succ]
          refine tkF (i := 1) (d := some 52) (v := ?_) rfl rfl (by kernel_rfl) (by kernel_rfl) (by kernel_rfl) (fun _ _ _ h => h) (Or.inl ⟨by rfl, ?_⟩) (by assumption) ?_
          rotate_left
          · intro w hSw; (try dsimp only at hSw); go_simp; try with_reducible rfl
          try simp only [Act.put, List.setIfInBounds_toArray, List.set_cons_zero, List.set_cons_succ]
          refine tkF (i := 2) (d := some 53) (v := ?_) rfl rfl (by kernel_rfl) (by kernel_rfl) (by kernel_rfl) (fun _ _ _ h => h) (Or.inl ⟨by rfl, ?_⟩) (by assumption) ?_
          rotate_left
          · intro w hSw; (try dsimp only at hSw); go_simp; try with_reducible rfl
          try simp only [Act.put, List.setIfInBounds_toArray, List.set_cons_zero, List.set_cons_succ]
          refine tkF (i := 3) (d := some 54) (v := ?_) rfl rfl (by kernel_rfl) (by kernel_rfl) (by kernel_rfl) (fun _ _ _ h => h) (Or.inl ⟨by rfl, ?_⟩) (by assumption) ?_
          rotate_left
          · intro w hSw; (try dsimp only at hSw); go_simp; try with_reducible rfl
          try simp only [Act.put, List.setIfInBounds_toArray, List.set_cons_zero, List.set_cons_succ]
          refine tkF (i := 4) (d := some 55) (v := ?_) rfl rfl (by kernel_rfl) (by kernel_rfl) (by kernel_rfl) (fun _ _ _ h => h) (Or.inl ⟨by rfl, ?_⟩) (by assumption) ?_
          rotate_left
          · intro w hSw; (try dsimp only at hSw); go_simp; try with_reducible rfl
          try simp only [Act.put, List.setIfInBounds_toArray, List.set_cons_zero, List.set_cons_succ]
          refine tkF (i := 5) (d := some 56) (v := ?_) rfl rfl (by kernel_rfl) (by kernel_rfl) (by kernel_rfl) (fun _ _ _ h => h) (Or.inl ⟨by rfl, ?_⟩) (by assumption) ?_
          rotate_left
          · intro w hSw; (try dsimp only at hSw); go_simp; try with_reducible rfl
          try simp only [Act.put, List.setIfInBounds_toArray, List.set_cons_zero, List.set_cons_succ]
          refine tkF (i := 6) (d := some 57) (v := ?_) rfl rfl (by kernel_rfl) (by kernel_rfl) (by kernel_rfl) (fun _ _ _ h => h) (Or.inl ⟨by rfl, ?_⟩) (by assumption) ?_
          rotate_left
          · intro w hSw; (try dsimp only at hSw); go_simp; try with_reducible rfl
          try simp only [Act.put, List.setIfInBounds_toArray, List.set_cons_zero, List.set_cons_succ]
          refine tkF (i := 7) (d := some 58) (v := ?_) rfl rfl (by kernel_rfl) (by kernel_rfl) (by kernel_rfl) (fun _ _ _ h => h) (Or.inl ⟨by rfl, ?_⟩) (by assumption) ?_
          rotate_left
          · intro w hSw; (try dsimp only at hSw); go_simp; try with_reducible rfl
          try simp only [Act.put, List.setIfInBounds_toArray, List.set_cons_zero, List.set_cons_succ]
          refine tkF (i := 8) (d := some 59) (v := ?_) rfl rfl (by kernel_rfl) (by kernel_rfl) (by kernel_rfl) (fun _ _ _ h => h) (Or.inl ⟨by rfl, ?_⟩) (by assumption) ?_
          rotate_left
          · intro w hSw; (try dsimp only at hSw); go_simp; try with_reducible rfl
          try simp only [Act.put, List.setIfInBounds_toArray, List.set_cons_zero, List.set_cons_succ]
          refine wpAnyH_ready (rs := [9]) (by kernel_rfl) (by simp) (AllReadyH.cons rfl (fun K hK => ?_) AllReadyH.nil)
          go_simp
          go_at_call 62
          refine ((unhide CV) _ _ (hPB.bel.trans ((drew_below wB).mono hPB.bel.size))).mono ?_
          rintro e w6 ⟨rfl, hb6⟩
          have hb6' := (drew_below wB).trans hb6
          have hP6 := hPB.below hb6'
          have HG6 := hide ((unhide HGB).trans (grown_of hb6'))
          have r6 := (hb6'.cell (p := ⟨g, k * 5, none⟩) (hPB.lt (by omega))).trans rB
          have K6 : (fun w' => w'.cell? ⟨fb, 0, none⟩ = some (.int .i64 f.wd) ∧ w'.cell? ⟨fb, 1, none⟩ = some (.slice a1 f.lw.length c1) ∧ w'.cell? ⟨fb, 2, none⟩ = some (.slice a2 n2 c2) ∧ w'.cell? ⟨fb, 3, none⟩ = some (.slice a3 f.lk.length c3) ∧ w'.cell? ⟨fb, 4, none⟩ = some (.slice a4 f.la.length c4) ∧ w'.cell? ⟨g, k * 5, none⟩ = some (.int .i64 id)) w6 := ⟨(five_f hP6.box).1, (five_f hP6.box).2.1, (five_f hP6.box).2.2.1, (five_f hP6.box).2.2.2.1, (five_f hP6.box).2.2.2.2, r6⟩
          have e4 := hP6.row.cell (k * 5 + 4) (by omega)
          have e4c := e4.1
          have e4f := e4.2
          have hP7 := hP6.set (k * 5 + 4) (valS f.lw id f.wd)
          have HG7 := hide ((unhide HG6).trans (grown_cell w6 g (k * 5 + 4) (.int .i64 (valS f.lw id f.wd))))
          have r7 := (hP7.row.cell (k * 5) (by omega)).1
          rw [nth_ne _ _ _ _ (by omega)] at r7
          have r7' := r7.trans ((hP6.row.cell (k * 5) (by omega)).1.symm.trans r6)
          have K7 : (fun w' => w'.cell? ⟨fb, 0, none⟩ = some (.int .i64 f.wd) ∧ w'.cell? ⟨fb, 1, none⟩ = some (.slice a1 f.lw.length c1) ∧ w'.cell? ⟨fb, 2, none⟩ = some (.slice a2 n2 c2) ∧ w'.cell? ⟨fb, 3, none⟩ = some (.slice a3 f.lk.length c3) ∧ w'.cell? ⟨fb, 4, none⟩ = some (.slice a4 f.la.length c4) ∧ w'.cell? ⟨g, k * 5, none⟩ = some (.int .i64 id)) (w6.setCell ⟨g, k * 5 + 4, none⟩ (.int .i64 (valS f.lw id f.wd))) := ⟨(five_f hP7.box).1, (five_f hP7.box).2.1, (five_f hP7.box).2.2.1, (five_f hP7.box).2.2.2.1, (five_f hP7.box).2.2.2.2, r7'⟩
          have e5 := (hP7.row.cell (k * 5 + 4) (by omega)).1
          rw [nth_self _ _ _ (by rw [List.length_set, mid_flen f G k (by omega)]; omega)] at e5
          clear hb6 hb6' e4 r7
          try go_wp2_with fail
          refine hK.out _ _ K6 (fun hHeld1 => ?_)
          clear hK K
          try simp only [Act.put, List.setIfInBounds_toArray, List.set_cons_zero, List.set_cons_succ]
          refine tkF (i := 10) (d := some 61) (v := ?_) rfl rfl (by kernel_rfl) (by kernel_rfl) (by kernel_rfl) (fun _ _ _ h => h) (Or.inl ⟨by rfl, ?_⟩) (by assumption) ?_
          rotate_left
          · intro w hSw; (try dsimp only at hSw); go_simp; try with_reducible rfl
          try simp only [Act.put, List.setIfInBounds_toArray, List.set_cons_zero, List.set_cons_succ]
          refine tkF (i := 11) (d := some 62) (v := ?_) rfl rfl (by kernel_rfl) (by kernel_rfl) (by kernel_rfl) (fun _ _ _ h => h) (Or.inl ⟨by rfl, ?_⟩) (by assumption) ?_
          rotate_left
          · intro w hSw; (try dsimp only at hSw); go_simp; try with_reducible rfl
          try simp only [Act.put, List.setIfInBounds_toArray, List.set_cons_zero, List.set_cons_succ]
          refine wpAnyH_ready (rs := [12]) (by kernel_rfl) (by simp) (AllReadyH.cons rfl (fun K hK => ?_) AllReadyH.nil)
          go_simp
          try go_wp2_with fail
          refine hK.out _ _ K7 (fun hHeld2 => ?_)
          clear hK K
          try simp only [Act.put, List.setIfInBounds_toArray, List.set_cons_zero, List.set_cons_succ]
          refine wpAnyH_done (by kernel_rfl) ?_ _
          clear e4c e4f
          generalize w6.setCell ⟨g, k * 5 + 4, none⟩ (.int .i64 (valS f.lw id f.wd)) = w7 at *
          have HP7 := hide hP7
          clear hP7 hP6 hPB KB K6 K7 hHeld hHeld1 hHeld2
          go_wp2
          go_roundw
          case rel => exact ⟨k + 1, by rw [unhide HNR], .inr ⟨k, rfl, unhide hNB⟩, by go_num, by omega, hide (by rw [← unhide HNM]; exact unhide HP7), HG7⟩
          case measure => simp [intOf]; omega
        · obtain ⟨hbk, b, hb1, hb2, hb3⟩ := hbi
          have ep : px f (run f G k).2 id = wrap64 ((run f G k).2.1 + kerS f.lk b.1 id) := by unfold px; rw [hb1]
          rw [ep] at hNM hNR
          have HNM := hide hNM
          have HNR := hide hNR
          have HB0 : Hid (nth (flt (mid f G k)) (bi * 5) = b.1) := hide (by have := base_cell f G k bi 0 hbk (by omega); rw [Nat.add_zero] at this; rw [this]; exact hb2)
          clear hNM hNR ep hb1 hb2 hb3 hz hBI
          generalize (run f G k).2.1 = x at *
          go_upto_region 9 with (go_at_call 59; refine (unhide CC1).mono ?_; rintro e w1 ⟨rfl, o, hw1⟩; have hb1 : Below wr.heap.size wr w1 := (by rw [hw1]; exact (Below.refl _ _).alloc (Nat.le_refl _) _); have hP1 := hP.below hb1; have HG1 := hide ((unhide HG).trans (grown_of hb1)); clear hw1 hb1)
          have r1 := (hP1.row.cell (k * 5) (by omega)).1
          have r1 : w1.cell? ⟨g, k * 5, none⟩ = some (.int .i64 id) := r1.trans ((hP.row.cell (k * 5) (by omega)).1.symm.trans r0')
          have rb1 := (hP1.row.cell (bi * 5) (by omega)).1
          rw [unhide HB0] at rb1
          have KR : (fun w' => w'.cell? ⟨fb, 0, none⟩ = some (.int .i64 f.wd) ∧ w'.cell? ⟨fb, 1, none⟩ = some (.slice a1 f.lw.length c1) ∧ w'.cell? ⟨fb, 2, none⟩ = some (.slice a2 n2 c2) ∧ w'.cell? ⟨fb, 3, none⟩ = some (.slice a3 f.lk.length c3) ∧ w'.cell? ⟨fb, 4, none⟩ = some (.slice a4 f.la.length c4) ∧ w'.cell? ⟨g, k * 5, none⟩ = some (.int .i64 id) ∧ w'.cell? ⟨g, bi * 5, none⟩ = some (.int .i64 b.1)) w1 := ⟨(five_f hP1.box).1, (five_f hP1.box).2.1, (five_f hP1.box).2.2.1, (five_f hP1.box).2.2.2.1, (five_f hP1.box).2.2.2.2, r1, rb1⟩
          refine wp_region_held_drew (S := fun w' => w'.cell? ⟨fb, 0, none⟩ = some (.int .i64 f.wd) ∧ w'.cell? ⟨fb, 1, none⟩ = some (.slice a1 f.lw.length c1) ∧ w'.cell? ⟨fb, 2, none⟩ = some (.slice a2 n2 c2) ∧ w'.cell? ⟨fb, 3, none⟩ = some (.slice a3 f.lk.length c3) ∧ w'.cell? ⟨fb, 4, none⟩ = some (.slice a4 f.la.length c4) ∧ w'.cell? ⟨g, k * 5, none⟩ = some (.int .i64 id) ∧ w'.cell? ⟨g, bi * 5, none⟩ = some (.int .i64 b.1)) (by kernel_rfl) (by first | exact KR | go_keep) (fun hHeld => ?_)
          refine tkF (i := 0) (d := some 35) (v := ?_) rfl rfl (by kernel_rfl) (by kernel_rfl) (by kernel_rfl) (fun _ _ _ h => h) (Or.inl ⟨by rfl, ?_⟩) (by assumption) ?_
          rotate_left
          · intro w hSw; (try dsimp only at hSw); go_simp; try with_reducible rfl
          try simp only [Act.put, List.setIfInBounds_toArray, List.set_cons_zero, List.set_cons_succ]
          refine tkF (i := 1) (d := some 36) (v := ?_) rfl rfl (by kernel_rfl) (by kernel_rfl) (by kernel_rfl) (fun _ _ _ h => h) (Or.inl ⟨by rfl, ?_⟩) (by assumption) ?_
          rotate_left
          · intro w hSw; (try dsimp only at hSw); go_simp; try with_reducible rfl
          try simp only [Act.put, List.setIfInBounds_toArray, List.set_cons_zero, List.set_cons_succ]
          refine tkF (i := 2) (d := some 37) (v := ?_) rfl rfl (by kernel_rfl) (by kernel_rfl) (by kernel_rfl) (fun _ _ _ h => h) (Or.inl ⟨by rfl, ?_⟩) (by assumption) ?_
          rotate_left
          · intro w hSw; (try dsimp only at hSw); go_simp; try with_reducible rfl
          try simp only [Act.put, List.setIfInBounds_toArray, List.set_cons_zero, List.set_cons_succ]
          refine tkF (i := 3) (d := some 38) (v := ?_) rfl rfl (by kernel_rfl) (by kernel_rfl) (by kernel_rfl) (fun _ _ _ h => h) (Or.inl ⟨by rfl, ?_⟩) (by assumption) ?_
          rotate_left
          · intro w hSw; (try dsimp only at hSw); go_simp; try with_reducible rfl
          try simp only [Act.put, List.setIfInBounds_toArray, List.set_cons_zero, List.set_cons_succ]
          refine tkF (i := 4) (d := some 39) (v := ?_) rfl rfl (by kernel_rfl) (by kernel_rfl) (by kernel_rfl) (fun _ _ _ h => h) (Or.inl ⟨by rfl, ?_⟩) (by assumption) ?_
          rotate_left
          · intro w hSw; (try dsimp only at hSw); go_simp; try with_reducible rfl
          try simp only [Act.put, List.setIfInBounds_toArray, List.set_cons_zero, List.set_cons_succ]
          refine tkF (i := 5) (d := some 40) (v := ?_) rfl rfl (by kernel_rfl) (by kernel_rfl) (by kernel_rfl) (fun _ _ _ h => h) (Or.inl ⟨by rfl, ?_⟩) (by assumption) ?_
          rotate_left
          · intro w hSw; (try dsimp only at hSw); go_simp; try with_reducible rfl
          try simp only [Act.put, List.setIfInBounds_toArray, List.set_cons_zero, List.set_cons_succ]
          refine tkF (i := 6) (d := some 41) (v := ?_) rfl rfl (by kernel_rfl) (by kernel_rfl) (by kernel_rfl) (fun _ _ _ h => h) (Or.inl ⟨by rfl, ?_⟩) (by assumption) ?_
          rotate_left
          · intro w hSw; (try dsimp only at hSw); go_simp; try with_reducible rfl
          try simp only [Act.put, List.setIfInBounds_toArray, List.set_cons_zero, List.set_cons_succ]
          refine tkF (i := 7) (d := some 42) (v := ?_) rfl rfl (by kernel_rfl) (by kernel_rfl) (by kernel_rfl) (fun _ _ _ h => h) (Or.inl ⟨by rfl, ?_⟩) (by assumption) ?_
          rotate_left
          · intro w hSw; (try dsimp only at hSw); go_simp; try with_reducible rfl
          try simp only [Act.put, List.setIfInBounds_toArray, List.set_cons_zero, List.set_cons_succ]
          refine tkF (i := 8) (d := some 43) (v := ?_) rfl rfl (by kernel_rfl) (by kernel_rfl) (by kernel_rfl) (fun _ _ _ h => h) (Or.inl ⟨by rfl, ?_⟩) (by assumption) ?_
          rotate_left
          · intro w hSw; (try dsimp only at hSw); go_simp; try with_reducible rfl
          try simp only [Act.put, List.setIfInBounds_toArray, List.set_cons_zero, List.set_cons_succ]
          refine tkF (i := 9) (d := some 44) (v := ?_) rfl rfl (by kernel_rfl) (by kernel_rfl) (by kernel_rfl) (fun _ _ _ h => h) (Or.inl ⟨by rfl, ?_⟩) (by assumption) ?_
          rotate_left
          · intro w hSw; (try dsimp only at hSw); go_simp; try with_reducible rfl
          try simp only [Act.put, List.setIfInBounds_toArray, List.set_cons_zero, List.set_cons_succ]
          refine wpAnyH_ready (rs := [10]) (by kernel_rfl) (by simp) (AllReadyH.cons rfl (fun K hK => ?_) AllReadyH.nil)
          go_simp
          go_at_call 61
          refine ((unhide CK) _ _ _ (hP1.bel.trans ((drew_below w1).mono hP1.bel.size))).mono ?_
          rintro e w4 ⟨rfl, hb4⟩
          have hb4' := (drew_below w1).trans hb4
          have hP4 := hP1.below hb4'
          have HG4 := hide ((unhide HG1).trans (grown_of hb4'))
          have r4 := (hb4'.cell (p := ⟨g, k * 5, none⟩) (hP1.lt (by omega))).trans r1
          have rb4 := (hb4'.cell (p := ⟨g, bi * 5, none⟩) (hP1.lt (by omega))).trans rb1
          have K4 : (fun w' => w'.cell? ⟨fb, 0, none⟩ = some (.int .i64 f.wd) ∧ w'.cell? ⟨fb, 1, none⟩ = some (.slice a1 f.lw.length c1) ∧ w'.cell? ⟨fb, 2, none⟩ = some (.slice a2 n2 c2) ∧ w'.cell? ⟨fb, 3, none⟩ = some (.slice a3 f.lk.length c3) ∧ w'.cell? ⟨fb, 4, none⟩ = some (.slice a4 f.la.length c4) ∧ w'.cell? ⟨g, k * 5, none⟩ = some (.int .i64 id) ∧ w'.cell? ⟨g, bi * 5, none⟩ = some (.int .i64 b.1)) w4 := ⟨(five_f hP4.box).1, (five_f hP4.box).2.1, (five_f hP4.box).2.2.1, (five_f hP4.box).2.2.2.1, (five_f hP4.box).2.2.2.2, r4, rb4⟩
          clear hb4 hb4'
          try go_wp2_with fail
          refine hK.out _ _ K4 (fun hHeld1 => ?_)
          clear hK K
          try simp only [Act.put, List.setIfInBounds_toArray, List.set_cons_zero, List.set_cons_succ]
          refine tkF (i := 11) (d := some 46) (v := ?_) rfl rfl (by kernel_rfl) (by kernel_rfl) (by kernel_rfl) (fun _ _ _ h => h) (Or.inl ⟨by rfl, ?_⟩) (by assumption) ?_
          rotate_left
          · intro w hSw; (try dsimp only at hSw); go_simp; try with_reducible rfl
          try simp only [Act.put, List.setIfInBounds_toArray, List.set_cons_zero, List.set_cons_succ]
          refine tkF (i := 12) (d := some 5) (v := ?_) rfl rfl (by kernel_rfl) (by kernel_rfl) (by kernel_rfl) (fun _ _ _ h => h) (Or.inl ⟨by rfl, ?_⟩) (by assumption) ?_
          rotate_left
          · intro w hSw; (try dsimp only at hSw); go_simp; try with_reducible rfl
          try simp only [Act.put, List.setIfInBounds_toArray, List.set_cons_zero, List.set_cons_succ]
          refine wpAnyH_done (by kernel_rfl) ?_ _
          clear KR K4 hHeld hHeld1
          go_upto_region 10 with fail
          have e3 := hP4.row.cell (k * 5 + 3) (by omega)
          have e3c := e3.1
          have e3f := e3.2
          have hPB := hP4.set (k * 5 + 3) (wrap64 (x + kerS f.lk b.1 id))
          have HGB := hide ((unhide HG4).trans (grown_cell w4 g (k * 5 + 3) (.int .i64 (wrap64 (x + kerS f.lk b.1 id)))))
          have rB0 := (hPB.row.cell (k * 5) (by omega)).1
          rw [nth_ne _ _ _ _ (by omega)] at rB0
          have rB := rB0.trans ((hP4.row.cell (k * 5) (by omega)).1.symm.trans r4)
          clear e3 rB0
          go_upto_region 11 with fail
          clear e3c e3f
          generalize w4.setCell ⟨g, k * 5 + 3, none⟩ (.int .i64 (wrap64 (x + kerS f.lk b.1 id))) = wB at *
          have KB : (fun w' => w'.cell? ⟨fb, 0, none⟩ = some (.int .i64 f.wd) ∧ w'.cell? ⟨fb, 1, none⟩ = some (.slice a1 f.lw.length c1) ∧ w'.cell? ⟨fb, 2, none⟩ = some (.slice a2 n2 c2) ∧ w'.cell? ⟨fb, 3, none⟩ = some (.slice a3 f.lk.length c3) ∧ w'.cell? ⟨fb, 4, none⟩ = some (.slice a4 f.la.length c4) ∧ w'.cell? ⟨g, k * 5, none⟩ = some (.int .i64 id)) wB := ⟨(five_f hPB.box).1, (five_f hPB.box).2.1, (five_f hPB.box).2.2.1, (five_f hPB.box).2.2.2.1, (five_f hPB.box).2.2.2.2, rB⟩
          refine wp_region_held_drew (S := fun w' => w'.cell? ⟨fb, 0, none⟩ = some (.int .i64 f.wd) ∧ w'.cell? ⟨fb, 1, none⟩ = some (.slice a1 f.lw.length c1) ∧ w'.cell? ⟨fb, 2, none⟩ = some (.slice a2 n2 c2) ∧ w'.cell? ⟨fb, 3, none⟩ = some (.slice a3 f.lk.length c3) ∧ w'.cell? ⟨fb, 4, none⟩ = some (.slice a4 f.la.length c4) ∧ w'.cell? ⟨g, k * 5, none⟩ = some (.int .i64 id)) (by kernel_rfl) (by first | exact KB | go_keep) (fun hHeld => ?_)
          refine tkF (i := 0) (d := some 51) (v := ?_) rfl rfl (by kernel_rfl) (by kernel_rfl) (by kernel_rfl) (fun _ _ _ h => h) (Or.inl ⟨by rfl, ?_⟩) (by assumption) ?_
          rotate_left
          · intro w hSw; (try dsimp only at hSw); go_simp; try with_reducible rfl
          try simp only [Act.put, List.setIfInBounds_toArray, List.set_cons_zero, List.set_cons_succ]
          refine tkF (i := 1) (d := some 52) (v := ?_) rfl rfl (by kernel_rfl) (by kernel_rfl) (by kernel_rfl) (fun _ _ _ h => h) (Or.inl ⟨by rfl, ?_⟩) (by assumption) ?_
          rotate_left
          · intro w hSw; (try dsimp only at hSw); go_simp; try with_reducible rfl
          try simp only [Act.put, List.setIfInBounds_toArray, List.set_cons_zero, List.set_cons_succ]
          refine tkF (i := 2) (d := some 53) (v := ?_) rfl rfl (by kernel_rfl) (by kernel_rfl) (by kernel_rfl) (fun _ _ _ h => h) (Or.inl ⟨by rfl, ?_⟩) (by assumption) ?_
          rotate_left
          · intro w hSw; (try dsimp only at hSw); go_simp; try with_reducible rfl
          try simp only [Act.put, List.setIfInBounds_toArray, List.set_cons_zero, List.set_cons_succ]
          refine tkF (i := 3) (d := some 54) (v := ?_) rfl rfl (by kernel_rfl) (by kernel_rfl) (by kernel_rfl) (fun _ _ _ h => h) (Or.inl ⟨by rfl, ?_⟩) (by assumption) ?_
          rotate_left
          · intro w hSw; (try dsimp only at hSw); go_simp; try with_reducible rfl
          try simp only [Act.put, List.setIfInBounds_toArray, List.set_cons_zero, List.set_cons_succ]
          refine tkF (i := 4) (d := some 55) (v := ?_) rfl rfl (by kernel_rfl) (by kernel_rfl) (by kernel_rfl) (fun _ _ _ h => h) (Or.inl ⟨by rfl, ?_⟩) (by assumption) ?_
          rotate_left
          · intro w hSw; (try dsimp only at hSw); go_simp; try with_reducible rfl
          try simp only [Act.put, List.setIfInBounds_toArray, List.set_cons_zero, List.set_cons_succ]
          refine tkF (i := 5) (d := some 56) (v := ?_) rfl rfl (by kernel_rfl) (by kernel_rfl) (by kernel_rfl) (fun _ _ _ h => h) (Or.inl ⟨by rfl, ?_⟩) (by assumption) ?_
          rotate_left
          · intro w hSw; (try dsimp only at hSw); go_simp; try with_reducible rfl
          try simp only [Act.put, List.setIfInBounds_toArray, List.set_cons_zero, List.set_cons_succ]
          refine tkF (i := 6) (d := some 57) (v := ?_) rfl rfl (by kernel_rfl) (by kernel_rfl) (by kernel_rfl) (fun _ _ _ h => h) (Or.inl ⟨by rfl, ?_⟩) (by assumption) ?_
          rotate_left
          · intro w hSw; (try dsimp only at hSw); go_simp; try with_reducible rfl
          try simp only [Act.put, List.setIfInBounds_toArray, List.set_cons_zero, List.set_cons_succ]
          refine tkF (i := 7) (d := some 58) (v := ?_) rfl rfl (by kernel_rfl) (by kernel_rfl) (by kernel_rfl) (fun _ _ _ h => h) (Or.inl ⟨by rfl, ?_⟩) (by assumption) ?_
          rotate_left
          · intro w hSw; (try dsimp only at hSw); go_simp; try with_reducible rfl
          try simp only [Act.put, List.setIfInBounds_toArray, List.set_cons_zero, List.set_cons_succ]
          refine tkF (i := 8) (d := some 59) (v := ?_) rfl rfl (by kernel_rfl) (by kernel_rfl) (by kernel_rfl) (fun _ _ _ h => h) (Or.inl ⟨by rfl, ?_⟩) (by assumption) ?_
          rotate_left
          · intro w hSw; (try dsimp only at hSw); go_simp; try with_reducible rfl
          try simp only [Act.put, List.setIfInBounds_toArray, List.set_cons_zero, List.set_cons_succ]
          refine wpAnyH_ready (rs := [9]) (by kernel_rfl) (by simp) (AllReadyH.cons rfl (fun K hK => ?_) AllReadyH.nil)
          go_simp
          go_at_call 62
          refine ((unhide CV) _ _ (hPB.bel.trans ((drew_below wB).mono hPB.bel.size))).mono ?_
          rintro e w6 ⟨rfl, hb6⟩
          have hb6' := (drew_below wB).trans hb6
          have hP6 := hPB.below hb6'
          have HG6 := hide ((unhide HGB).trans (grown_of hb6'))
          have r6 := (hb6'.cell (p := ⟨g, k * 5, none⟩) (hPB.lt (by omega))).trans rB
          have K6 : (fun w' => w'.cell? ⟨fb, 0, none⟩ = some (.int .i64 f.wd) ∧ w'.cell? ⟨fb, 1, none⟩ = some (.slice a1 f.lw.length c1) ∧ w'.cell? ⟨fb, 2, none⟩ = some (.slice a2 n2 c2) ∧ w'.cell? ⟨fb, 3, none⟩ = some (.slice a3 f.lk.length c3) ∧ w'.cell? ⟨fb, 4, none⟩ = some (.slice a4 f.la.length c4) ∧ w'.cell? ⟨g, k * 5, none⟩ = some (.int .i64 id)) w6 := ⟨(five_f hP6.box).1, (five_f hP6.box).2.1, (five_f hP6.box).2.2.1, (five_f hP6.box).2.2.2.1, (five_f hP6.box).2.2.2.2, r6⟩
          have e4 := hP6.row.cell (k * 5 + 4) (by omega)
          have e4c := e4.1
          have e4f := e4.2
          have hP7 := hP6.set (k * 5 + 4) (valS f.lw id f.wd)
          have HG7 := hide ((unhide HG6).trans (grown_cell w6 g (k * 5 + 4) (.int .i64 (valS f.lw id f.wd))))
          have r7 := (hP7.row.cell (k * 5) (by omega)).1
          rw [nth_ne _ _ _ _ (by omega)] at r7
          have r7' := r7.trans ((hP6.row.cell (k * 5) (by omega)).1.symm.trans r6)
          have K7 : (fun w' => w'.cell? ⟨fb, 0, none⟩ = some (.int .i64 f.wd) ∧ w'.cell? ⟨fb, 1, none⟩ = some (.slice a1 f.lw.length c1) ∧ w'.cell? ⟨fb, 2, none⟩ = some (.slice a2 n2 c2) ∧ w'.cell? ⟨fb, 3, none⟩ = some (.slice a3 f.lk.length c3) ∧ w'.cell? ⟨fb, 4, none⟩ = some (.slice a4 f.la.length c4) ∧ w'.cell? ⟨g, k * 5, none⟩ = some (.int .i64 id)) (w6.setCell ⟨g, k * 5 + 4, none⟩ (.int .i64 (valS f.lw id f.wd))) := ⟨(five_f hP7.box).1, (five_f hP7.box).2.1, (five_f hP7.box).2.2.1, (five_f hP7.box).2.2.2.1, (five_f hP7.box).2.2.2.2, r7'⟩
          have e5 := (hP7.row.cell (k * 5 + 4) (by omega)).1
          rw [nth_self _ _ _ (by rw [List.length_set, mid_flen f G k (by omega)]; omega)] at e5
          clear hb6 hb6' e4 r7
          try go_wp2_with fail
          refine hK.out _ _ K6 (fun hHeld1 => ?_)
          clear hK K
          try simp only [Act.put, List.setIfInBounds_toArray, List.set_cons_zero, List.set_cons_succ]
          refine tkF (i := 10) (d := some 61) (v := ?_) rfl rfl (by kernel_rfl) (by kernel_rfl) (by kernel_rfl) (fun _ _ _ h => h) (Or.inl ⟨by rfl, ?_⟩) (by assumption) ?_
          rotate_left
          · intro w hSw; (try dsimp only at hSw); go_simp; try with_reducible rfl
          try simp only [Act.put, List.setIfInBounds_toArray, List.set_cons_zero, List.set_cons_succ]
          refine tkF (i := 11) (d := some 62) (v := ?_) rfl rfl (by kernel_rfl) (by kernel_rfl) (by kernel_rfl) (fun _ _ _ h => h) (Or.inl ⟨by rfl, ?_⟩) (by assumption) ?_
          rotate_left
          · intro w hSw; (try dsimp only at hSw); go_simp; try with_reducible rfl
          try simp only [Act.put, List.setIfInBounds_toArray, List.set_cons_zero, List.set_cons_succ]
          refine wpAnyH_ready (rs := [12]) (by kernel_rfl) (by simp) (AllReadyH.cons rfl (fun K hK => ?_) AllReadyH.nil)
          go_simp
          try go_wp2_with fail
          refine hK.out _ _ K7 (fun hHeld2 => ?_)
          clear hK K
          try simp only [Act.put, List.setIfInBounds_toArray, List.set_cons_zero, List.set_cons_succ]
          refine wpAnyH_done (by kernel_rfl) ?_ _
          clear e4c e4f
          generalize w6.setCell ⟨g, k * 5 + 4, none⟩ (.int .i64 (valS f.lw id f.wd)) = w7 at *
          have HP7 := hide hP7
          clear hP7 hP6 hPB KB K6 K7 hHeld hHeld1 hHeld2
          go_wp2
          go_roundw
          case rel => exact ⟨k + 1, by rw [unhide HNR], .inr ⟨k, rfl, unhide hNB⟩, by go_num, by omega, hide (by rw [← unhide HNM]; exact unhide HP7), HG7⟩
          case measure => simp [intOf]; omega
    · obtain rfl : k = G.length := by omega
      have hge : ¬ (G.length : Int) < (G.length : Int) := by omega
      have hP := unhide HP
      have HE := hide (And.intro hP.bel hP.row)
      clear hP HP
      go_wp2
      go_ret
      exact ⟨rfl, (unhide HE).1, by have := (unhide HE).2; rw [mid_all] at this; exact this, unhide HG⟩
end Sha
end Go.Proofs.YtfldomifooihlaaGreatDoor
