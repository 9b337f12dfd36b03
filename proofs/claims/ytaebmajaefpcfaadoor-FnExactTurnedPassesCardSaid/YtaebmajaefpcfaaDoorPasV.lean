/- TurnedPasses of the specification. -/
import Derived.Test.YtaebmajaefpcfaaDoorPasT
import Derived.Test.YtaebmajaefpcfaaDoorPasS
namespace Go.Proofs.YtaebmajaefpcfaaDoor.Pas
open Go.RowKit
set_option linter.unusedVariables false
theorem empty_eq {b : ByteArray} (h : b.size = 0) : (b.toList == ([] : List UInt8)) = true := by rw [empty_iff h, Go.ByteArray.toList_eq]; rfl
theorem empty_ne {b : ByteArray} (h : ¬ b.size = 0) : (b.toList == ([] : List UInt8)) = false := by
  rw [beq_eq_false_iff_ne]
  intro e
  apply h
  rw [Go.ByteArray.toList_eq] at e
  have := congrArg List.length e
  show b.data.size = 0
  simpa using this
/-- The row of a pass grows by a rule. -/
theorem rux_snoc {q : Nat} {w2 : World} {u' : Value} {L : List Ru} {k : Nat} {xs : List Value} (hx : Has xs (tr L k) (tr L k).length) (hxl : xs.length = (tr L k).length * 5) (ho : w2.ownsRow q 39 5 u' (k + 1) (xs ++ cells5 (trn (gr L k)))) : RuX q w2 u' (tr L (k + 1)) := by
  refine ⟨_, hx.snoc hxl, ?_⟩
  rw [tr_len]
  exact ho
theorem own_form {w : World} {B : Nat} {e : TypeId} {s : Nat} {v : Value} {n : Nat} {xs : List Value} (h : w.ownsRow B e s v (n + 1) xs) : ∃ g cap, v = .slice (some ⟨g, 0, none⟩) (n + 1) cap := by
  rcases h.2 with ⟨_, h'⟩ | ⟨g, cap, cur, hv, _⟩
  · omega
  · exact ⟨g, cap, hv⟩
theorem grown_bel {w w' : World} {r : Option Nat} {B : Nat} (h : w.grownBy w' r) (hB : ∀ k, r = some k → B ≤ k) (hs : B ≤ w.heap.size) : Below B w w' := (Below.refl B w).grown h hs hB
set_option maxRecDepth 100000 in
set_option maxHeartbeats 8000000 in
theorem l13Turned_any (v : Value) (P : List Pa) (B : Nat) (w : World) (hv : PaAt B w v P) (hs : Small P) :
    Calls Tryd.prog 22 #[v] w fun e w' => (∃ u z, e = .returned (.tuple #[u, .bool z]) ∧ z = canA P ∧ (canA P = true → PaG w.heap.size w'.heap.size w' u (tl P (down P.length P.length)))) ∧ Below w.heap.size w w' := by
  obtain ⟨i0, hi, hz0, hz1, hz2⟩ := info_parts infoWr
  obtain ⟨j0, hj, hy0, hy1, hy2⟩ := info_parts infoPass
  obtain ⟨a, cap, rfl, hv⟩ := hv
  have hl := hs.1
  have HV := hide hv
  have HS := hide hs
  clear hv hs
  have HN := hide (fun i (h : i < P.length) (h2 : canR (gp P i).1 (gp P i).1.length = false) => canA_no h h2)
  have HY := hide (fun h => canA_yes (P := P) h)
  have B0 := hide (al1 w (.cells #[] 37))
  have G0 : Hid (PaG w.heap.size (w.alloc (.cells #[] 37)).heap.size (w.alloc (.cells #[] 37)) (.slice (some ⟨w.heap.size, 0, none⟩) 0 0) (tl P (down P.length 0))) := hide ⟨fun _ => none, [], World.ownsRow_lit w #[] 0 (Nat.le_refl _) (by unfold maxLen; omega) rfl, fun k e => by cases e; exact ⟨by simp, fun i hi => by simp [tl, down] at hi⟩, fun i hi => by simp [tl, down] at hi, fun i j k hi => by simp [tl, down] at hi⟩
  go_enter Tryd.func22, Tryd.ntmps22
  go_wp2
  go_loopw [4, 5] (fun ov iv wr => ∃ (z : Int) (m : Nat), m ≤ P.length ∧ iv = .int .i64 z ∧ z = (P.length : Int) - 1 - m ∧ Hid (PaG w.heap.size wr.heap.size wr ov (tl P (down P.length m))) ∧ Hid (∀ j, j < m → canR (gp P (P.length - 1 - j)).1 (gp P (P.length - 1 - j)).1.length = true) ∧ Hid (Below w.heap.size w wr)) (fun _ iv _ => (intOf iv + 1).toNat)
  case atStart => exact ⟨_, 0, Nat.zero_le _, rfl, by simp, G0, hide (fun j hj => by omega), B0⟩
  case round =>
    obtain ⟨z, m, hm, rfl, hz, HG, HC, HB⟩ := hrel
    clear G0 B0
    by_cases hlt : m < P.length
    · obtain ⟨i, rfl⟩ : ∃ i : Nat, z = (i : Int) := ⟨P.length - 1 - m, by omega⟩
      have hil : i < P.length := by omega
      have him : P.length - 1 - m = i := by omega
      have hge : (0 : Int) ≤ (i : Int) := by omega
      have hil' : (i : Int) < (P.length : Int) := by omega
      rcases unhide HV with h' | ⟨b, off, rfl, _, hbs, hc⟩
      · rw [h'] at hlt; simp at hlt
      obtain ⟨u0, c1, hu, c2⟩ := hc i hil
      have d1 := ((unhide HB).cell (p := ⟨b, off + i * 2, none⟩) hbs).trans c1
      have d2 := ((unhide HB).cell (p := ⟨b, off + i * 2 + 1, none⟩) hbs).trans c2
      have C1 := hide c1
      have hBs := (unhide HB).size
      have hLl := ((unhide HS).2 i hil).1
      have HU := hide hu
      obtain ⟨ua, uc, hue⟩ := hu.form
      have HNo := hide (fun h => (unhide HN) i hil h)
      have HSn : Hid (tl P (down P.length (m + 1)) = tl P (down P.length m) ++ [(tr (gp P i).1 (gp P i).1.length, (gp P i).2)]) := hide (by rw [down_succ, tl_snoc, him]; rfl)
      have HC2 := hide (fun (h : canR (gp P i).1 (gp P i).1.length = true) => (show ∀ j, j < m + 1 → canR (gp P (P.length - 1 - j)).1 (gp P (P.length - 1 - j)).1.length = true from fun j hj => by
        by_cases e : j = m
        · subst e; rw [him]; exact h
        · exact (unhide HC) j (by omega)))
      have HZ := hide hz
      clear c1 c2 hu hc him hz
      generalize (gp P i).1 = L at *
      generalize (gp P i).2 = g at *
      subst hue
      obtain ⟨wo, rfl⟩ : ∃ wo : World, wo = wr := ⟨wr, rfl⟩
      have K0 := hide (heap_new wo (.cells #[.slice none 0 0, .int .i64 g] 37))
      have Bq := hide (al1 wo (.cells #[.slice none 0 0, .int .i64 g] 37))
      go_wp2
      go_loopw [7] (fun kv wx => ∃ (k : Nat) (u : Value), k ≤ L.length ∧ kv = .int .i64 k ∧ Hid (canR L k = true) ∧ Hid (RuX (wo.heap.size + 1) wx u (tr L k)) ∧ Hid (wx.heap[wo.heap.size]? = some (.cells #[u, .int .i64 g] 37 (0, 0))) ∧ Hid (Below wo.heap.size wo wx)) (fun kv _ => L.length - (intOf kv).toNat)
      case atStart => exact ⟨0, _, Nat.zero_le _, rfl, hide rfl, hide (RuX.nil _ _), K0, Bq⟩
      case round =>
        obtain ⟨k, u, hk, rfl, HK, HR, HQ, HX⟩ := hrel
        clear K0 Bq d1 d2
        have B1 := hide ((unhide HB).trans ((unhide HX).mono hBs))
        have e1 := ((unhide B1).cell (p := ⟨b, off + i * 2, none⟩) hbs).trans (unhide C1)
        have hxs := (unhide HX).size
        have hql : wo.heap.size < wr.heap.size := (Array.getElem?_eq_some_iff.1 (unhide HQ)).1
        obtain ⟨q0, q1, q2, q3⟩ := two_cells (unhide HQ)
        by_cases hkl : k < L.length
        · have hkl' : (k : Int) < (L.length : Int) := by omega
          have h0k : (0 : Int) ≤ (k : Int) := by omega
          obtain ⟨_, _, he, hu⟩ := unhide HU
          injection he with he1 he2 he3
          clear he2 he3
          rcases hu with h' | ⟨b2, o2, hua, _, hb2s, hc2⟩
          · rw [h'] at hkl; simp at hkl
          rw [hua] at he1
          subst he1
          obtain ⟨x0, x1, x2, x3, x4⟩ := (hc2 k hkl).block ((unhide B1).block b2 hb2s)
          have HNo2 := hide (fun h => (unhide HNo) (canR_no hkl h))
          have HK2 := hide (fun h => canR_next (unhide HK) h)
          obtain ⟨xs, hx, ho⟩ := unhide HR
          have hxl : xs.length = (tr L k).length * 5 := ho.1
          have htl := tr_len L k
          have HSN := hide (fun (W : World) U (h : W.ownsRow (wo.heap.size + 1) 39 5 U (k + 1) (xs ++ cells5 (trn (gr L k)))) => rux_snoc hx hxl h)
          clear hc2 hx
          generalize gr L k = r at *
          obtain ⟨ta, tb, tc, td, tg⟩ := r
          simp only at x0 x1 x2 x3 x4 HNo2 HK2
          have hgl : ∀ n, u.ownBlock = some n → wo.heap.size + 1 ≤ n ∧ n < wr.heap.size := fun n e => own_lt ho e
          by_cases hte : td.size = 0
          · have HF := hide ((unhide HNo2) hte)
            have hq := empty_eq hte
            have BF := hide ((unhide B1).alloc (unhide B1).size (.cells #[.string ta, .string tb, .string tc, .string td, .int .i64 tg] 39))
            clear HNo2 HK2 HSN HC2
            go_wp2
            go_ret2
            exact ⟨⟨_, _, rfl, (unhide HF).symm, fun h => by rw [unhide HF] at h; cases h⟩, unhide BF⟩
          · have HK3 := hide ((unhide HK2) hte)
            have hq := empty_ne hte
            clear HNo2 HK2
            have ho2 := own_atP (w' := (wr.alloc (.cells #[.string ta, .string tb, .string tc, .string td, .int .i64 tg] 39)).alloc (.cells #[.string ta, .string td, .string tc, .string tb, .int .i64 0] 39)) ho (fun n e => (Below.heap_alloc _ _ _ (by have := (hgl n e).2; simp; omega)).trans (Below.heap_alloc _ _ _ (hgl n e).2))
            have HQ2 : Hid (((wr.alloc (.cells #[.string ta, .string tb, .string tc, .string td, .int .i64 tg] 39)).alloc (.cells #[.string ta, .string td, .string tc, .string tb, .int .i64 0] 39)).heap[wo.heap.size]? = some (.cells #[u, .int .i64 g] 37 (0, 0))) := hide ((Below.heap_alloc _ _ _ (by simp; omega)).trans ((Below.heap_alloc _ _ _ hql).trans (unhide HQ)))
            have HX2 := hide (((unhide HX).alloc hxs (.cells #[.string ta, .string tb, .string tc, .string td, .int .i64 tg] 39)).alloc (by simp; omega) (.cells #[.string ta, .string td, .string tc, .string tb, .int .i64 0] 39))
            have O2 := hide ho2
            have hsz2 : ((wr.alloc (.cells #[.string ta, .string tb, .string tc, .string td, .int .i64 tg] 39)).alloc (.cells #[.string ta, .string td, .string tc, .string tb, .int .i64 0] 39)).heap.size = wr.heap.size + 2 := by simp
            clear ho2 ho HR
            go_wp2_with (at_builtin; refine wpList_appG _ rfl _ _ 35 rfl (wo.heap.size + 1) 39 i0 (.agg #[.string ⟨#[]⟩, .string ⟨#[]⟩, .string ⟨#[]⟩, .string ⟨#[]⟩, .int .i64 0]) 5 72 Tryd.underlying35 hi hz0 hz1 hz2 rfl (by decide) _ _ _ rfl (unhide O2) ⟨wr.heap.size + 1, 0, none⟩ 1 1 (cells5 (ta, td, tc, tb, 0)) ?g1 rfl ?g2 (five_one _) ?g3 ?g4 ?g5 ?_)
            case g1 => rfl
            case g2 => have := five_new (wr.alloc (.cells #[.string ta, .string tb, .string tc, .string td, .int .i64 tg] 39)) (ta, td, tc, tb, 0) 39; simpa using this
            case g3 => unfold maxLen; omega
            case g4 => omega
            case g5 => omega
            intro v' w3 hown' hgrow hnew
            obtain ⟨g', cap', rfl⟩ := own_form hown'
            have hg'l := own_lt hown' (k := g') rfl
            have K3 := (hgrow.block wo.heap.size (by omega) (fun e => by have := (hgl _ e.symm).1; omega)).trans (unhide HQ2)
            have BX3 := (unhide HX2).trans (grown_bel hgrow (fun n e => by have := (hgl n e).1; omega) (by omega))
            have HR3 := hide ((unhide HSN) _ _ hown')
            have HQ4 := hide (heap_setCell_same w3 wo.heap.size 0 _ 37 (.slice (some ⟨g', 0, none⟩) (k + 1) cap') K3)
            have HR4 := hide ((unhide HR3).at (w' := w3.setCell ⟨wo.heap.size, 0, none⟩ (.slice (some ⟨g', 0, none⟩) (k + 1) cap')) (fun n e => heap_setCell_other w3 ⟨wo.heap.size, 0, none⟩ n _ (by cases e; show g' ≠ wo.heap.size; omega)))
            have HX4 := hide (BX3.setCell (p := ⟨wo.heap.size, 0, none⟩) (Nat.le_refl _) (.slice (some ⟨g', 0, none⟩) (k + 1) cap'))
            obtain ⟨p0, p1, p2, p3⟩ := two_cells K3
            clear hown' hgrow hnew K3 BX3 HR3 HSN HX2 HQ2 O2 HQ HX
            go_wp2
            go_roundw
            case rel => exact ⟨k + 1, _, by omega, by go_num, HK3, HR4, HQ4, HX4⟩
            case measure => simp [intOf]; omega
        · obtain rfl : k = L.length := by omega
          have hkl' : ¬ (L.length : Int) < (L.length : Int) := by omega
          have HC3 := hide ((unhide HC2) (unhide HK))
          have htl := tr_len L L.length
          obtain ⟨gs, xs, h1, h2, h3, h4⟩ := (unhide HG).below (unhide HX)
          obtain ⟨ya, yc, hye⟩ := (unhide HR).form
          rw [htl] at hye
          subst hye
          have O2 := hide (own_atP (w' := wr.alloc (.cells #[.slice ya L.length yc, .int .i64 g] 37)) h1 (fun n e => Below.heap_alloc _ _ _ (own_lt h1 e).2))
          have HSN := hide (fun W U (ho : W.ownsRow w.heap.size 37 2 U ((tl P (down P.length m)).length + 1) (xs ++ [.slice ya L.length yc, .int .i64 g])) hgr hkk => pag_snoc (q := wo.heap.size + 1) (w1 := wr.alloc (.cells #[.slice ya L.length yc, .int .i64 g] 37)) (w2 := W) (out' := U) (L := tr L L.length) (g := g) h1 h2 h3 h4 (unhide HR) (by omega) (by omega) hxs (al1 _ _) ho hgr hkk)
          have HO2 := hide (fun n (e : u4.ownBlock = some n) => own_lt h1 e)
          clear h1 h2 h3 h4
          have hml : (tl P (down P.length m)).length = m := by rw [tl_len, down_len]
          have BA := hide ((unhide B1).alloc (unhide B1).size (.cells #[.slice ya L.length yc, .int .i64 g] 37))
          go_wp2_with (at_builtin; refine wpList_appG _ rfl _ _ 25 rfl w.heap.size 37 j0 (.agg #[.slice none 0 0, .int .i64 0]) 2 32 Tryd.underlying25 hj hy0 hy1 hy2 rfl (by decide) _ _ _ rfl (unhide O2) ⟨wr.heap.size, 0, none⟩ 1 1 [.slice ya L.length yc, .int .i64 g] rfl rfl (two_new wr _ g 37) (two_one _ _ _ _) ?g3 ?g4 ?g5 ?_)
          case g3 => unfold maxLen; omega
          case g4 => omega
          case g5 => omega
          intro v' w3 hown' hgrow hnew
          have HG3 := hide ((unhide HSN) _ _ (by rw [hml]; exact hown') hgrow (by intro n e; have := hnew n e; simpa using this))
          have B3 := hide ((unhide BA).trans (grown_bel hgrow (fun n e => ((unhide HO2) n e).1) (unhide BA).size))
          rw [← unhide HSn] at HG3
          clear hown' hgrow hnew HSN O2 HO2 hml htl
          go_wp2
          go_roundw
          case rel => exact ⟨_, m + 1, by omega, rfl, by have := unhide HZ; omega, HG3, HC3, B3⟩
          case measure => simp [intOf] <;> omega
    · obtain rfl : m = P.length := by omega
      obtain rfl : z = -1 := by omega
      have HA := hide ((unhide HY) (fun i hi => by have := (unhide HC) (P.length - 1 - i) (by omega); rw [show P.length - 1 - (P.length - 1 - i) = i by omega] at this; exact this))
      clear hz
      go_wp2
      go_ret2
      exact ⟨⟨_, _, rfl, (unhide HA).symm, fun _ => unhide HG⟩, unhide HB⟩
set_option maxRecDepth 100000 in
set_option maxHeartbeats 4000000 in
theorem specT (v : Value) (P : List Pa) (B : Nat) (w : World) (hv : PaAt B w v P) (hs : Small P) :
    Calls Tryd.prog 10 #[v] w fun e w' => (∃ u, e = .returned u ∧ PaAt w.heap.size w' u (ans P)) ∧ Below w.heap.size w w' := by
  have CF := hide (specPF v P B w hv hs)
  have CT := hide (fun W h => l13Turned_any v P B W h hs)
  have HV := hide hv
  obtain ⟨va, vc, rfl⟩ := hv.form
  clear hv
  rcases flt_iff P with ⟨hf, hr⟩ | ⟨hf, hr⟩
  · rw [hf] at CF
    have HY := hide (fun h => ans_yes (P := P) hr h)
    have HN := hide (fun h => ans_no (P := P) h)
    clear hf hr
    cases hc : canA P with
    | false =>
      have HA := hide ((unhide HN) hc)
      rw [hc] at CT
      clear hc HN HY
      go_enter Tryd.func10, Tryd.ntmps10
      go_wp2_with (first
        | (go_at_call 6; refine (unhide CF).mono ?_; rintro e w1 ⟨rfl, hb1⟩; have B1 := hide hb1; clear hb1)
        | (go_at_call 22; refine ((unhide CT) _ ((unhide HV).below (unhide B1))).mono ?_; rintro e w2 ⟨⟨u, z, rfl, rfl, _⟩, hb2⟩; have B2 := hide ((unhide B1).trans (hb2.mono (unhide B1).size)); clear hb2))
      go_ret
      exact ⟨⟨_, rfl, by rw [unhide HA]; exact ⟨_, _, rfl, .inl rfl⟩⟩, (unhide B2).alloc (unhide B2).size _⟩
    | true =>
      have HA := hide ((unhide HY) hc)
      rw [hc] at CT
      clear hc HN HY
      go_enter Tryd.func10, Tryd.ntmps10
      go_wp2_with (first
        | (go_at_call 6; refine (unhide CF).mono ?_; rintro e w1 ⟨rfl, hb1⟩; have B1 := hide hb1; clear hb1)
        | (go_at_call 22; go_loud (refine ((unhide CT) _ ((unhide HV).below (unhide B1))).mono ?_; rintro e w2 ⟨⟨u, z, rfl, rfl, hp⟩, hb2⟩; have HP := hide (PaAt.down (hp trivial).pa (unhide B1).size)); have B2 := hide ((unhide B1).trans (hb2.mono (unhide B1).size)); clear hb2 hp))
      go_ret
      exact ⟨⟨_, rfl, by rw [unhide HA]; exact unhide HP⟩, unhide B2⟩
  · rw [hf] at CF
    have HA := hide (ans_bad hr)
    clear hf hr CT
    go_enter Tryd.func10, Tryd.ntmps10
    go_wp2_with (go_at_call 6; refine (unhide CF).mono ?_; rintro e w1 ⟨rfl, hb1⟩; have B1 := hide hb1; clear hb1)
    go_ret
    exact ⟨⟨_, rfl, by rw [unhide HA]; exact ⟨_, _, rfl, .inl rfl⟩⟩, (unhide B1).alloc (unhide B1).size _⟩
end Go.Proofs.YtaebmajaefpcfaaDoor.Pas
