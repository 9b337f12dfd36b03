/- Several texts in one. -/
import Derived.Test.YtdgafmhjbgddkaaDoorMT
import Derived.Test.YtdgafmhjbgddkaaDoorMS
/- Tailors by the law's own functions: two rows held against each other, marks. -/
namespace Go.Proofs.YtdgafmhjbgddkaaDoor
namespace Wrd
open Go.RowKit
set_option linter.unusedVariables false
theorem SpRow_at {w : World} {B : Nat} {v : Value} {L : List Tl} (h : Tlr.SpRow w B v L) : TlAt w v L := by
  obtain ⟨a, c, rfl, hf⟩ := h.form
  refine ⟨a, c, rfl, ?_⟩
  by_cases h0 : 0 < L.length
  · obtain ⟨g, rfl, h1, h2⟩ := hf h0
    refine .inr ⟨g, 0, rfl, h2, fun i hi => ?_⟩
    have := h.read i hi
    rw [Nat.zero_add]
    exact this
  · exact .inl (List.length_eq_zero_iff.1 (by omega))
set_option maxRecDepth 100000 in
set_option maxHeartbeats 4000000 in
theorem eqTls (v1 v2 : Value) (T : List Tl) (w : World) (h1 : TlAt w v1 T) (h2 : TlAt w v2 T) (hT : T.length ≤ 1048576) :
    Calls Tryd.prog 10 #[v1, v2] w fun e w' => e = .returned (.bool true) ∧ Below w.heap.size w w' := by
  have HV1 := hide h1
  have HV2 := hide h2
  obtain ⟨a1, c1, rfl, _⟩ := h1
  obtain ⟨a2, c2, rfl, _⟩ := h2
  have hll : ((T.length : Int) != (T.length : Int)) = false := by simp
  go_enter Tryd.func10, Tryd.ntmps10
  go_wp2
  go_loopw [5] (fun iv wr => ∃ k : Nat, k ≤ T.length ∧ iv = .int .i64 (k : Int) ∧ Hid (Below w.heap.size w wr)) (fun iv _ => T.length - (intOf iv).toNat)
  case atStart => exact ⟨0, Nat.zero_le _, rfl, hide (Below.refl _ _)⟩
  case round =>
    obtain ⟨k, hk, rfl, HB⟩ := hrel
    by_cases hlt : k < T.length
    · have hlt' : (k : Int) < (T.length : Int) := by omega
      have h0k : (0 : Int) ≤ (k : Int) := by omega
      have CE := hide (fun W => eqTl (tlx T k) W)
      obtain ⟨b1, o1, d1, e1, hb1, hc1⟩ := tl_rd ((unhide HV1).below (unhide HB)) (by omega)
      obtain ⟨b2, o2, d2, e2, hb2, hc2⟩ := tl_rd ((unhide HV2).below (unhide HB)) (by omega)
      injection e1 with x1 x2 x3
      injection e2 with y1 y2 y3
      subst x1 x3 y1 y3
      clear x2 y2
      obtain ⟨p0, p1, p2⟩ := hc1 k hlt
      obtain ⟨q0, q1, q2⟩ := hc2 k hlt
      clear hc1 hc2
      generalize tlx T k = t at *
      unfold tlV at CE
      go_wp2_with fail
      have KS : (fun w' => w'.cell? ⟨b1, o1 + k * 3, none⟩ = some (.int .i64 t.1) ∧ w'.cell? ⟨b1, o1 + k * 3 + 1, none⟩ = some (.int .i64 t.2.1) ∧ w'.cell? ⟨b1, o1 + k * 3 + 2, none⟩ = some (.bool t.2.2) ∧ w'.cell? ⟨b2, o2 + k * 3, none⟩ = some (.int .i64 t.1) ∧ w'.cell? ⟨b2, o2 + k * 3 + 1, none⟩ = some (.int .i64 t.2.1) ∧ w'.cell? ⟨b2, o2 + k * 3 + 2, none⟩ = some (.bool t.2.2)) wr := ⟨p0, p1, p2, q0, q1, q2⟩
      refine wp_region_held_drew (S := fun w' => w'.cell? ⟨b1, o1 + k * 3, none⟩ = some (.int .i64 t.1) ∧ w'.cell? ⟨b1, o1 + k * 3 + 1, none⟩ = some (.int .i64 t.2.1) ∧ w'.cell? ⟨b1, o1 + k * 3 + 2, none⟩ = some (.bool t.2.2) ∧ w'.cell? ⟨b2, o2 + k * 3, none⟩ = some (.int .i64 t.1) ∧ w'.cell? ⟨b2, o2 + k * 3 + 1, none⟩ = some (.int .i64 t.2.1) ∧ w'.cell? ⟨b2, o2 + k * 3 + 2, none⟩ = some (.bool t.2.2)) (by kernel_rfl) (by exact KS) (fun hHeld => ?_)
      refine tkW (i := 0) (d := some 17) (v := ?_) rfl rfl (by kernel_rfl) (by kernel_rfl) (by kernel_rfl) (fun _ _ _ h => h) (Or.inl ⟨by rfl, ?_⟩) (by assumption) ?_
      rotate_left
      · intro w hSw; (try dsimp only at hSw); go_simp; try with_reducible rfl
      try simp only [Act.put, List.setIfInBounds_toArray, List.set_cons_zero, List.set_cons_succ]
      refine tkW (i := 1) (d := some 18) (v := ?_) rfl rfl (by kernel_rfl) (by kernel_rfl) (by kernel_rfl) (fun _ _ _ h => h) (Or.inl ⟨by rfl, ?_⟩) (by assumption) ?_
      rotate_left
      · intro w hSw; (try dsimp only at hSw); go_simp; try with_reducible rfl
      try simp only [Act.put, List.setIfInBounds_toArray, List.set_cons_zero, List.set_cons_succ]
      refine tkW (i := 2) (d := some 19) (v := ?_) rfl rfl (by kernel_rfl) (by kernel_rfl) (by kernel_rfl) (fun _ _ _ h => h) (Or.inl ⟨by rfl, ?_⟩) (by assumption) ?_
      rotate_left
      · intro w hSw; (try dsimp only at hSw); go_simp; try with_reducible rfl
      try simp only [Act.put, List.setIfInBounds_toArray, List.set_cons_zero, List.set_cons_succ]
      refine tkW (i := 3) (d := some 20) (v := ?_) rfl rfl (by kernel_rfl) (by kernel_rfl) (by kernel_rfl) (fun _ _ _ h => h) (Or.inl ⟨by rfl, ?_⟩) (by assumption) ?_
      rotate_left
      · intro w hSw; (try dsimp only at hSw); go_simp; try with_reducible rfl
      try simp only [Act.put, List.setIfInBounds_toArray, List.set_cons_zero, List.set_cons_succ]
      refine tkW (i := 4) (d := some 21) (v := ?_) rfl rfl (by kernel_rfl) (by kernel_rfl) (by kernel_rfl) (fun _ _ _ h => h) (Or.inl ⟨by rfl, ?_⟩) (by assumption) ?_
      rotate_left
      · intro w hSw; (try dsimp only at hSw); go_simp; try with_reducible rfl
      try simp only [Act.put, List.setIfInBounds_toArray, List.set_cons_zero, List.set_cons_succ]
      refine tkW (i := 5) (d := some 22) (v := ?_) rfl rfl (by kernel_rfl) (by kernel_rfl) (by kernel_rfl) (fun _ _ _ h => h) (Or.inl ⟨by rfl, ?_⟩) (by assumption) ?_
      rotate_left
      · intro w hSw; (try dsimp only at hSw); go_simp; try with_reducible rfl
      try simp only [Act.put, List.setIfInBounds_toArray, List.set_cons_zero, List.set_cons_succ]
      refine tkW (i := 6) (d := some 23) (v := ?_) rfl rfl (by kernel_rfl) (by kernel_rfl) (by kernel_rfl) (fun _ _ _ h => h) (Or.inl ⟨by rfl, ?_⟩) (by assumption) ?_
      rotate_left
      · intro w hSw; (try dsimp only at hSw); go_simp; try with_reducible rfl
      try simp only [Act.put, List.setIfInBounds_toArray, List.set_cons_zero, List.set_cons_succ]
      refine tkW (i := 7) (d := some 24) (v := ?_) rfl rfl (by kernel_rfl) (by kernel_rfl) (by kernel_rfl) (fun _ _ _ h => h) (Or.inl ⟨by rfl, ?_⟩) (by assumption) ?_
      rotate_left
      · intro w hSw; (try dsimp only at hSw); go_simp; try with_reducible rfl
      try simp only [Act.put, List.setIfInBounds_toArray, List.set_cons_zero, List.set_cons_succ]
      refine wpAnyH_ready (rs := [8]) (by kernel_rfl) (by simp) (AllReadyH.cons rfl (fun K hK => ?_) AllReadyH.nil)
      go_simp
      go_at_call 24
      refine ((unhide CE) _).mono ?_
      rintro e y1 ⟨rfl, hb4⟩
      have hb5 := (drewW wr).trans (hb4.mono (Nat.le_refl _))
      have z0 := (hb5.cell (p := ⟨b1, o1 + k * 3, none⟩) hb1).trans p0
      have z1 := (hb5.cell (p := ⟨b1, o1 + k * 3 + 1, none⟩) hb1).trans p1
      have z2 := (hb5.cell (p := ⟨b1, o1 + k * 3 + 2, none⟩) hb1).trans p2
      have z3 := (hb5.cell (p := ⟨b2, o2 + k * 3, none⟩) hb2).trans q0
      have z4 := (hb5.cell (p := ⟨b2, o2 + k * 3 + 1, none⟩) hb2).trans q1
      have z5 := (hb5.cell (p := ⟨b2, o2 + k * 3 + 2, none⟩) hb2).trans q2
      have B5 := hide ((unhide HB).trans (hb5.mono (unhide HB).size))
      clear hb4 hb5
      try go_wp2_with fail
      refine hK.out _ _ ⟨z0, z1, z2, z3, z4, z5⟩ (fun hHeld8 => ?_)
      clear hK K
      try simp only [Act.put, List.setIfInBounds_toArray, List.set_cons_zero, List.set_cons_succ]
      refine tkW (i := 9) (d := some 26) (v := ?_) rfl rfl (by kernel_rfl) (by kernel_rfl) (by kernel_rfl) (fun _ _ _ h => h) (Or.inl ⟨by rfl, ?_⟩) (by assumption) ?_
      rotate_left
      · intro w hSw; (try dsimp only at hSw); go_simp; try with_reducible rfl
      try simp only [Act.put, List.setIfInBounds_toArray, List.set_cons_zero, List.set_cons_succ]
      refine wpAnyH_done (by kernel_rfl) ?_ _
      go_wp2
      go_roundw
      case rel => exact ⟨k + 1, by omega, by go_num, B5⟩
      case measure => simp [intOf]; omega
    · obtain rfl : k = T.length := by omega
      have hlt' : ¬ (T.length : Int) < (T.length : Int) := by omega
      go_wp2
      go_ret
      exact ⟨rfl, unhide HB⟩
/-- All blocks but one are as they were. -/
structure Mk (g : Nat) (w w' : World) : Prop where
  bel : Below g w w'
  oth : ∀ k, k ≠ g → w'.heap[k]? = w.heap[k]?
theorem Mk.refl (g : Nat) (w : World) : Mk g w w := ⟨Below.refl _ _, fun _ _ => rfl⟩
theorem Mk.put {g : Nat} {w w1 : World} (h : Mk g w w1) (j : Nat) (u : Value) : Mk g w (w1.setCell ⟨g, j, none⟩ u) :=
  ⟨h.bel.setCell (p := ⟨g, j, none⟩) (Nat.le_refl _) u, fun k n => (heap_setCell_other w1 ⟨g, j, none⟩ k u n).trans (h.oth k n)⟩
set_option maxRecDepth 100000 in
set_option maxHeartbeats 4000000 in
theorem markTls (B g c : Nat) (xs : List Value) (n : Nat) (w : World) (h : w.ownsRow B 38 3 (.slice (some ⟨g, 0, none⟩) n c) n xs) (hn : n ≤ 1048576) (N : Nat) (hN : N = 1 + 3 * n) :
    Calls Tryd.prog 11 #[.slice (some ⟨g, 0, none⟩) n c, .int .i64 1] w fun e w' => e = .returned (.int .i64 (N : Int)) ∧ Mk g w w' := by
  have H0 := hide h
  have HN := hide hN
  clear h hN
  go_enter Tryd.func11, Tryd.ntmps11
  go_wp2
  go_loopw [1, 5] (fun kv iv wr => ∃ (i d : Nat), i ≤ n ∧ iv = .int .i64 (i : Int) ∧ kv = .int .i64 (d : Int) ∧ d = 1 + 3 * i ∧ Hid (∃ ys, wr.ownsRow B 38 3 (.slice (some ⟨g, 0, none⟩) n c) n ys) ∧ Hid (Mk g w wr)) (fun _ iv _ => n - (intOf iv).toNat)
  case atStart => exact ⟨0, 1, Nat.zero_le _, rfl, rfl, rfl, hide ⟨_, unhide H0⟩, hide (Mk.refl _ _)⟩
  case round =>
    obtain ⟨i, d, hin, rfl, rfl, hd, HO, HM⟩ := hrel
    clear H0
    have HD := hide hd
    have hdb : d ≤ 4000000 := by omega
    clear hd
    by_cases hlt : i < n
    · have hlt' : (i : Int) < (n : Int) := by omega
      have h0i : (0 : Int) ≤ (i : Int) := by omega
      obtain ⟨ys, ho⟩ := unhide HO
      obtain ⟨x0, p0, q0⟩ := Tlr.row3_at ho (i * 3) (by omega)
      obtain ⟨x1, p1, q1⟩ := Tlr.row3_at ho (i * 3 + 1) (by omega)
      obtain ⟨x2, p2, q2⟩ := Tlr.row3_at ho (i * 3 + 2) (by omega)
      have HS := hide (fun x y z => Tlr.row3_stored ho i x y z)
      have HMS := hide (fun x y z => (((unhide HM).put (i * 3) x).put (i * 3 + 1) y).put (i * 3 + 2) z)
      clear ho HO HM
      go_wp2
      go_roundw
      case rel => exact ⟨i + 1, d + 3, by omega, by go_num, by go_num, by have := unhide HD; omega, hide ⟨_, (unhide HS) _ _ _⟩, hide ((unhide HMS) _ _ _)⟩
      case measure => simp [intOf]; omega
    · obtain rfl : i = n := by omega
      have hlt' : ¬ (i : Int) < (i : Int) := by omega
      obtain rfl : d = N := by have h1 := unhide HD; have h2 := unhide HN; omega
      go_wp2
      go_ret
      exact ⟨rfl, unhide HM⟩
end Wrd
end Go.Proofs.YtdgafmhjbgddkaaDoor
/- The law of WordCuts. -/
namespace Go.Proofs.YtdgafmhjbgddkaaDoor
namespace Wrd
open Go.RowKit
set_option linter.unusedVariables false
set_option maxRecDepth 100000 in
set_option maxHeartbeats 16000000 in
theorem lawWC (s : ByteArray) (vt : Value) (T : List Tl) (w : World) (hv : TlAt w vt T) (hTl : T.length ≤ 9223372036854775807) (ht : TabAt w) :
    Calls Tryd.prog 3 #[.string s, vt] w fun e w' => e = .returned (.bool true) ∧ Below w.heap.size w w' := by
  have HV := hide hv
  have CZ := hide (szTl vt T 1048576 w hv hTl (Nat.le_refl _))
  obtain ⟨ta, tc, rfl, _⟩ := hv
  by_cases hs : s.size ≤ 1048576
  · have hs' : ¬ (1048576 : Int) < (s.size : Int) := by omega
    have HT := hide ht
    clear ht
    have hn := wcO_le s T
    have CS := fun V W h1 h2 => specWC s V T W hs h1 h2
    have CI := fun V W h1 h2 h3 => implWC s V T W h1 hs h2 h3
    obtain ⟨L, hL⟩ : ∃ L, wcO s T = L := ⟨_, rfl⟩
    rw [hL] at hn
    simp only [hL] at CS CI
    have SP := hide CS
    have IM := hide CI
    clear CS CI hL hs
    have hm : (1 + (L.length : Int) != 1 + (L.length : Int)) = false := by simp
    have h0 : ¬ (1 + (L.length : Int) < 0) := by omega
    go_enter Tryd.func3, Tryd.ntmps3
    go_wp2_with fail
    refine (unhide CZ).mono ?_
    rintro e w' ⟨r, rfl, hw', hr⟩
    obtain rfl := hw'.symm
    clear hw' CZ
    rcases hr with hr | ⟨hr0, hr1, hT⟩
    · go_wp2
      go_ret
      exact ⟨rfl, Below.refl _ _⟩
    · have hr' : ¬ r < 0 := by omega
      have CT := hide (fun W h => Tlr.toSpans (.slice ta T.length tc) T W h hT)
      have CE := hide (fun V1 V2 W h1 h2 => eqTls V1 V2 T W h1 h2 hT)
      obtain ⟨M, hM⟩ : ∃ M, M = 1 + 3 * T.length := ⟨_, rfl⟩
      have CM := hide (fun B g c xs W h => markTls B g c xs T.length W h hT M hM)
      have hMp : ¬ (M : Int) < 0 := by omega
      clear hM
      go_wp2_with fail
      refine ((unhide CT) _ (unhide HV)).mono ?_
      rintro e w1 ⟨rfl, hp1, hb1⟩
      have B1 := hide hb1
      have P1 := hide hp1
      clear hb1 hp1
      go_wp2_with fail
      refine ((unhide SP) _ _ (SpRow_at (unhide P1)) hT).mono ?_
      rintro e w2 ⟨v0, rfl, ho0, hb2⟩
      have HO0 := hide ho0
      have B2 := hide ((unhide B1).trans (hb2.mono (unhide B1).size))
      clear ho0 hb2 P1 B1
      go_wp2_with fail
      refine ((unhide CT) _ ((unhide HV).below (unhide B2))).mono ?_
      rintro e w3 ⟨rfl, hp3, hb3⟩
      have P3 := hide hp3
      have D3 := hide hb3
      have B3 := hide ((unhide B2).trans (hb3.mono (unhide B2).size))
      have hl3 : w2.heap.size < w3.heap.size := by
        rcases hp3.2 with ⟨e, _⟩ | ⟨g, _, _, e, _, hh, _⟩
        · cases e
        · cases e
          exact (Array.getElem?_eq_some_iff.1 hh).1
      clear hp3 hb3
      go_wp2_with fail
      refine ((unhide IM) _ _ ((unhide HT).below (unhide B3)) (SpRow_at (unhide P3)) hT).mono ?_
      rintro e w4 ⟨g0, rfl, ho4, hb4⟩
      have G4 := hide ho4
      have P4 := hide ((unhide P3).below hb4)
      have D4 := hide ((unhide D3).trans (hb4.mono (by omega)))
      have hs4 := hb4.size
      clear ho4 hb4 P3 D3 B3
      go_wp2_with fail
      refine (eqInts _ _ L _ (IntsAt.owned (unhide G4)) ((unhide HO0).below (unhide D4)) (by omega)).mono ?_
      rintro e w5 ⟨rfl, hb5⟩
      have G5 := hide (ownsRow_below (unhide G4) hb5)
      have P5 := hide ((unhide P4).below hb5)
      have D5 := hide ((unhide D4).trans (hb5.mono (by omega)))
      have hs5 := hb5.size
      clear hb5 G4 P4 D4
      go_wp2_with fail
      refine ((unhide CT) _ ((unhide HV).below ((unhide B2).trans ((unhide D5).mono (unhide B2).size)))).mono ?_
      rintro e w6 ⟨rfl, hp6, hb6⟩
      have Q6 := hide hp6
      have G6 := hide (ownsRow_below (unhide G5) hb6)
      have P6 := hide ((unhide P5).below hb6)
      have D6 := hide ((unhide D5).trans (hb6.mono (by omega)))
      have hs6 := hb6.size
      clear hb6 hp6 G5 P5 D5
      go_wp2_with fail
      refine ((unhide CE) _ _ _ (SpRow_at (unhide P6)) (SpRow_at (unhide Q6))).mono ?_
      rintro e w7 ⟨rfl, hb7⟩
      have G7 := hide (ownsRow_below (unhide G6) hb7)
      have P7 := hide ((unhide P6).below hb7)
      have D7 := hide ((unhide D6).trans (hb7.mono (by omega)))
      have hs7 := hb7.size
      clear hb7 G6 P6 D6 Q6
      go_wp2_with fail
      refine ((unhide CM) _ _ _ _ _ (unhide P7)).mono ?_
      rintro e w8 ⟨rfl, hm8⟩
      have G8 := hide (own_atS (unhide G7) (fun k e => hm8.oth k (by have := ((unhide G7).lt k e).1; omega)))
      have D8 := hide ((unhide D7).trans hm8.bel)
      have hs8 := hm8.bel.size
      clear hm8 G7 P7 D7
      go_wp2_with fail
      refine (eqInts _ _ L _ (IntsAt.owned (unhide G8)) ((unhide HO0).below (unhide D8)) (by omega)).mono ?_
      rintro e w9 ⟨rfl, hb9⟩
      have G9 := hide (ownsRow_below (unhide G8) hb9)
      have D9 := hide ((unhide D8).trans (hb9.mono (by omega)))
      have hs9 := hb9.size
      clear hb9 G8 D8
      go_wp2_with fail
      refine (mark_any w3.heap.size g0 L 1 _ (by omega) (by omega) (by omega) (unhide G9)).mono ?_
      rintro e w10 ⟨rfl, ho10, hb10⟩
      have G10 := hide ho10
      have D10 := hide ((unhide D9).trans (hb10.mono (by omega)))
      have hs10 := hb10.size
      clear ho10 hb10 G9 D9
      go_wp2_with fail
      refine (held_any g0 L.length 1 _ (by omega) (by omega) (by omega) (owned_seq (unhide G10))).mono ?_
      rintro e w10' ⟨rfl, hx⟩
      obtain rfl := hx.symm
      clear hx
      have B10 := hide ((unhide B2).trans ((unhide D10).mono (unhide B2).size))
      go_wp2_with fail
      refine ((unhide CT) _ ((unhide HV).below (unhide B10))).mono ?_
      rintro e w11 ⟨rfl, hp11, hb11⟩
      have P11 := hide hp11
      have G11 := hide (ownsRow_below (unhide G10) hb11)
      have D11 := hide ((unhide D10).trans (hb11.mono (by omega)))
      have B11 := hide ((unhide B10).trans (hb11.mono (unhide B10).size))
      have hs11 := hb11.size
      clear hp11 hb11 G10 D10 B10
      go_wp2_with fail
      refine ((unhide IM) _ _ ((unhide HT).below (unhide B11)) (SpRow_at (unhide P11)) hT).mono ?_
      rintro e w12 ⟨h12, rfl, ho12, hb12⟩
      have H12 := hide ho12
      have G12 := hide (ownsRow_below (unhide G11) hb12)
      have D12 := hide ((unhide D11).trans (hb12.mono (by omega)))
      have B12 := hide ((unhide B11).trans (hb12.mono (unhide B11).size))
      have hs12 := hb12.size
      clear ho12 hb12 G11 D11 B11 P11
      go_wp2_with fail
      refine (eqInts _ _ L _ (IntsAt.owned (unhide H12)) ((unhide HO0).below (unhide D12)) (by omega)).mono ?_
      rintro e w13 ⟨rfl, hb13⟩
      have G13 := hide (ownsRow_below (unhide G12) hb13)
      have B13 := hide ((unhide B12).trans (hb13.mono (unhide B12).size))
      clear hb13 G12 D12 B12 H12
      go_wp2_with fail
      refine (held_any g0 L.length 1 _ (by omega) (by omega) (by omega) (owned_seq (unhide G13))).mono ?_
      rintro e w14 ⟨rfl, hx⟩
      obtain rfl := hx.symm
      clear hx
      go_wp2
      go_ret
      exact ⟨rfl, unhide B13⟩
  · have hs' : (1048576 : Int) < (s.size : Int) := by omega
    clear ht CZ
    go_enter Tryd.func3, Tryd.ntmps3
    go_wp2
    go_ret
    exact ⟨rfl, Below.refl _ _⟩
end Wrd
end Go.Proofs.YtdgafmhjbgddkaaDoor
