/- What the program lays: a glyph more, what is held back let go. -/
import Derived.Test.YthmbnlgcfibjeaaDoorGlyM
import Derived.Test.YthmbnlgcfibjeaaDoorChrI
import Derived.Deep.Cut
namespace Go.Proofs.YthmbnlgcfibjeaaDoor.Gly
open Go.RowKit Chr
set_option linter.unusedVariables false
theorem isVwa_any (p : Int) (w : World) : Calls Tryd.prog 21 #[.int .i64 p] w fun e w' => e = .returned (.bool (vwa p)) ∧ w' = w := by
  have C := hide (fun W => cw_any p 1568 1579 W)
  have HR : Hid (vwa p = ((decide (1568 ≤ p) && decide (p ≤ 1579)) && decide (p.tmod 2 = 0))) := hide rfl
  cases q : (decide (1568 ≤ p) && decide (p ≤ 1579))
  · rw [q] at HR C
    go_enter Tryd.func21, Tryd.ntmps21
    go_wp2_with (go_at_call 34; refine ((unhide C) _).mono ?_; rintro e w' ⟨rfl, rfl⟩)
    go_ret
    exact ⟨by rw [unhide HR]; rfl, rfl⟩
  · have hp : 1568 ≤ p ∧ p ≤ 1579 := by simpa using q
    rw [q] at HR C
    have hm : p.tmod 2 = 0 ∨ p.tmod 2 = 1 := by rw [Int.tmod_eq_emod_of_nonneg (by omega)]; omega
    rcases hm with e | e
    · rw [e] at HR
      go_enter Tryd.func21, Tryd.ntmps21
      go_wp2_with (go_at_call 34; refine ((unhide C) _).mono ?_; rintro e w' ⟨rfl, rfl⟩)
      go_ret
      exact ⟨by rw [unhide HR]; rfl, rfl⟩
    · rw [e] at HR
      go_enter Tryd.func21, Tryd.ntmps21
      go_wp2_with (go_at_call 34; refine ((unhide C) _).mono ?_; rintro e w' ⟨rfl, rfl⟩)
      go_ret
      exact ⟨by rw [unhide HR]; rfl, rfl⟩
theorem isCon_any (p : Int) (w : World) : Calls Tryd.prog 22 #[.int .i64 p] w fun e w' => e = .returned (.bool (con p)) ∧ w' = w := by
  go_enter Tryd.func22, Tryd.ntmps22
  go_wp2_with (go_at_call 34; refine (cw_any _ _ _ _).mono ?_; rintro e w' ⟨rfl, rfl⟩)
  go_ret
  exact ⟨rfl, rfl⟩
theorem isBin_any (p : Int) (w : World) : Calls Tryd.prog 23 #[.int .i64 p] w fun e w' => e = .returned (.bool (bin p)) ∧ w' = w := by
  have HR : Hid (bin p = (p == 1584 || p == 1585)) := hide rfl
  cases q : (p == 1584)
  · rw [q] at HR
    go_enter Tryd.func23, Tryd.ntmps23
    go_wp2
    go_ret
    exact ⟨by rw [unhide HR]; rfl, rfl⟩
  · rw [q] at HR
    go_enter Tryd.func23, Tryd.ntmps23
    go_wp2
    go_ret
    exact ⟨by rw [unhide HR]; rfl, rfl⟩
theorem one_cells (L : List Int) : ∀ u ∈ L.map (Value.int .i64), u.oneCell' = true := by
  intro u hu
  obtain ⟨x, _, rfl⟩ := List.mem_map.1 hu
  rfl
theorem GR.news {w : World} {B b c n : Nat} {G : List (Int × Int × Int)} (h : GR w B (.slice (some ⟨b, 0, none⟩) n c) G) (hn : n = G.length) : ∀ j u, ((flt G).map (Value.int .i64))[j]? = some u → w.cell? ((⟨b, 0, none⟩ : Addr).add j) = some u := by
  subst hn
  intro j u hu
  have hj : j < (flt G).length := by
    have := (List.getElem?_eq_some_iff.1 hu).1
    simpa using this
  have e := flt_len G
  have c := World.ownsRow.cellAt h j (by omega)
  rw [hu] at c
  have ea : (⟨b, 0, none⟩ : Addr).add j = ⟨b, j, none⟩ := by
    simp [Addr.add]
    omega
  rw [ea]
  exact c
theorem grown_refl (w : World) (r : Option Nat) : w.grownBy w r := ⟨rfl, rfl, rfl, Nat.le_refl _, fun _ _ _ => rfl⟩
theorem drew_bel (w : World) : Below w.heap.size w w.drew := ⟨rfl, rfl, rfl, Nat.le_refl _, fun _ _ => rfl⟩
theorem drewN_bel (w : World) (n : Nat) : Below w.heap.size w (w.drewN n) := bdrew (Below.refl _ _) n
theorem GR.app {w : World} {B n : Nat} {v : Value} {G H : List (Int × Int × Int)} (h : w.ownsRow B 30 5 v n ((flt G).map (Value.int .i64) ++ (flt H).map (Value.int .i64))) (hn : n = G.length + H.length) : GR w B v (G ++ H) := by
  unfold GR
  rw [flt_app, List.map_append, List.length_append, ← hn]
  exact h
set_option maxHeartbeats 2000000 in
set_option maxRecDepth 100000 in
theorem settle_any (w0 w : World) (g : Nat) (lv hv : Value) (s : St) (h : BS w0 w g lv hv s) (hl : s.laid.length + s.held.length ≤ 65536) :
    Calls Tryd.prog 12 #[.pointer (some ⟨g, 0, none⟩)] w fun e w' => e = .returned (.tuple #[]) ∧ (∃ lv' hv', BS w0 w' g lv' hv' (settle s)) ∧ w.heap.size ≤ w'.heap.size ∧ ∀ k, k < w.heap.size → k ≠ g → lv.ownBlock ≠ some k → w'.heap[k]? = w.heap[k]? := by
  obtain ⟨i0, hi, hz0, hz1, hz2⟩ := info_parts infoG
  obtain ⟨L, H, d⟩ := s
  have h1 := h.below (drewN_bel w 1)
  have H1 := hide h1
  have hgl := h.lt
  obtain ⟨c0, c1, _, cf⟩ := box3 h.bx
  have cf0 := cf 0
  obtain ⟨ha, hc, rfl, hh⟩ := h.ho.form
  obtain ⟨la, lc, rfl, _⟩ := h.lo.form
  have HH := hide h
  clear h h1 cf
  dsimp only at hl c0 c1
  rcases hh with ⟨rfl, rfl, e⟩ | ⟨b, rfl, hbc, hbw, hbl⟩
  · dsimp only at e
    subst e
    have T1 := hide (((unhide HH).putL (unhide HH).lo (grown_refl _ _) (fun k e => .inl e)).below (drew_bel _))
    have F1 : Hid (∀ k, k ≠ g → (w.setCell ⟨g, 0, none⟩ (.slice la L.length lc)).drew.heap[k]? = w.heap[k]?) := hide (fun k hk => heap_setCell_other w ⟨g, 0, none⟩ k _ hk)
    have Z1 : (w.setCell ⟨g, 0, none⟩ (.slice la L.length lc)).drew.heap.size = w.heap.size := by simp [World.drew]
    go_enter Tryd.func12, Tryd.ntmps12
    go_upto_region 0 with fail
    go_region_law (refine step_appN rfl (.tmp 6) (.tmp 10) 22 rfl w0.heap.size 30 i0 5 Tryd.underlying22 hi _ L.length ((flt L).map (Value.int .i64)) (by simp [Act.eval]) (unhide H1).lo (by simp [Act.eval]) ?_)
    all_goals
      clear HH H1 c0 c1 cf0
      go_upto_region 1 with fail
      generalize (w.setCell ⟨g, 0, none⟩ (.slice la L.length lc)).drew = wa at *
      obtain ⟨_, e1, _, ef⟩ := box3 (unhide T1).bx
      have ef1 := ef 1
      have T2 := hide ((unhide T1).putH (GR.nil wa _) (grown_refl _ _) (fun k e => by simp [Value.ownBlock] at e))
      obtain ⟨_, _, q2, qf⟩ := box3 (unhide T2).bx
      have qf2 := qf 2
      have T3 := hide ((unhide T2).setB false)
      clear ef qf
      go_wp2
      go_end0
      refine ⟨rfl, ⟨_, _, by unfold settle; simpa using unhide T3⟩, by simp [Z1], fun k h1 h2 h3 => ?_⟩
      rw [heap_setCell_other _ ⟨g, 2, none⟩ k _ h2, heap_setCell_other _ ⟨g, 1, none⟩ k _ h2]
      exact unhide F1 k h2
  · go_enter Tryd.func12, Tryd.ntmps12
    go_upto_region 0 with fail
    go_region_law (refine step_appG rfl (.tmp 6) (.tmp 10) 22 rfl w0.heap.size 30 i0 (.agg #[.int .i64 0, .int .i64 0, .int .i64 0, .int .i64 0, .int .i64 0]) 5 40 Tryd.underlying22 hi hz0 hz1 hz2 rfl (by decide) (.slice la L.length lc) L.length ((flt L).map (Value.int .i64)) (by simp [Act.eval]) (unhide H1).lo ⟨b, 0, none⟩ H.length hc ((flt H).map (Value.int .i64)) (by simp [Act.eval]) (by simp [flt_len]) ((unhide H1).ho.news rfl) (one_cells _) (by unfold maxLen; omega) (by omega) (by have := (unhide H1).sz; exact this) ?_; intro v' w3 hown' hgrow hblk; have T1 := hide ((unhide H1).putL (GR.app hown' rfl) hgrow hblk); have G1 := hide hgrow; obtain ⟨va, vc, rfl, hva⟩ := GR.form (GR.app hown' rfl); have bx3 := box3 ((hgrow.block g (unhide H1).lt (fun e => (unhide H1).nl e.symm)).trans (unhide H1).bx); have d0 := bx3.1; have df := bx3.2.2.2 0)
    all_goals
      rw [List.length_append] at T1
      have F1 : Hid (∀ k, k < w.heap.size → k ≠ g → (Value.slice la L.length lc).ownBlock ≠ some k → (w3.setCell ⟨g, 0, none⟩ (.slice va (L.length + H.length) vc)).heap[k]? = w.heap[k]?) := hide (fun k h1 h2 h3 => (heap_setCell_other w3 ⟨g, 0, none⟩ k _ h2).trans ((unhide G1).block k h1 (fun e => h3 e.symm)))
      have Z1 : w.heap.size ≤ (w3.setCell ⟨g, 0, none⟩ (.slice va (L.length + H.length) vc)).heap.size := by
        have := (unhide G1).size
        simpa using this
      clear HH H1 c0 c1 cf0 bx3 d0 df hown' hgrow hblk hva G1
      go_upto_region 1 with fail
      generalize w3.setCell ⟨g, 0, none⟩ (.slice va (L.length + H.length) vc) = wa at *
      obtain ⟨_, e1, _, ef⟩ := box3 (unhide T1).bx
      have ef1 := ef 1
      have T2 := hide ((unhide T1).cutH)
      obtain ⟨_, _, q2, qf⟩ := box3 (unhide T2).bx
      have qf2 := qf 2
      have T3 := hide ((unhide T2).setB false)
      clear ef qf
      go_wp2
      go_end0
      refine ⟨rfl, ⟨_, _, unhide T3⟩, by simp; exact Z1, fun k h1 h2 h3 => ?_⟩
      rw [heap_setCell_other _ ⟨g, 2, none⟩ k _ h2, heap_setCell_other _ ⟨g, 1, none⟩ k _ h2]
      exact unhide F1 k h1 h2 h3
end Go.Proofs.YthmbnlgcfibjeaaDoor.Gly
