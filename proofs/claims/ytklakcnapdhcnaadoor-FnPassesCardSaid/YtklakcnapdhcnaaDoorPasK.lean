/- PassesFault of the program. -/
import Derived.Test.YtklakcnapdhcnaaDoorPasJ
namespace Go.Proofs.YtklakcnapdhcnaaDoor.Pas
open Go.RowKit
set_option linter.unusedVariables false
set_option maxRecDepth 100000 in
set_option maxHeartbeats 2000000 in
theorem index_any (v : Value) (L : List Ru) (B : Nat) (w : World) (hv : RuAt B w v L) (hL : L.length ≤ 1048576) (hf : ∀ i, i < L.length → Fit1 (gr L i)) (hT : Tabs w) :
    Calls Tryd.prog 41 #[v, .func (.func 27) #[] #[]] w fun e w' => (∃ z : Int, e = .returned (.int .i64 z) ∧ decide (0 ≤ z) = !okk L L.length) ∧ Below w.heap.size w w' := by
  obtain ⟨a, cap, rfl, hv⟩ := hv
  have HV := hide hv
  have HF := hide hf
  have HT := hide hT
  clear hv hf hT
  go_enter Tryd.func41, Tryd.ntmps41
  go_wp2
  go_loopw [8] (fun iv wr => ∃ k : Nat, k ≤ L.length ∧ iv = .int .i64 k ∧ Hid (okk L k = true) ∧ Hid (Below w.heap.size w wr)) (fun iv _ => L.length - (intOf iv).toNat)
  case atStart => exact ⟨0, Nat.zero_le _, rfl, hide rfl, hide (Below.refl _ _)⟩
  case round =>
    obtain ⟨k, hk, rfl, HK, HB⟩ := hrel
    by_cases hlt : k < L.length
    · have hlt' : (k : Int) < (L.length : Int) := by omega
      rcases unhide HV with h' | ⟨b, off, rfl, _, hbs, hc⟩
      · rw [h'] at hlt; simp at hlt
      obtain ⟨d0, d1, d2, d3, d4⟩ := (hc k hlt).block ((unhide HB).block b hbs)
      have hBs := (unhide HB).size
      have CW := hide (wrong_any (gr L k) wr ((unhide HF) k hlt) (Utf8Tabs_below (unhide HT) (unhide HB)))
      obtain ⟨q, hq⟩ : ∃ q, okR (gr L k) = q := ⟨_, rfl⟩
      rw [hq] at CW
      clear hc
      cases q
      · have HE : Hid (okk L L.length = false) := hide (okk_no hlt hq)
        clear hq
        generalize gr L k = r at *
        obtain ⟨ta, tb, tc, td, tg⟩ := r
        unfold rv at CW
        simp only at d0 d1 d2 d3 d4 CW
        go_wp2_with (go_at_call 27; refine (unhide CW).mono ?_; rintro e w2 ⟨rfl, hb2⟩; have B2 := hide ((unhide HB).trans (hb2.mono hBs)); clear hb2)
        go_ret
        exact ⟨⟨_, rfl, by rw [unhide HE]; simp⟩, unhide B2⟩
      · have HK2 := hide (okk_next (unhide HK) hq)
        clear hq
        generalize gr L k = r at *
        obtain ⟨ta, tb, tc, td, tg⟩ := r
        unfold rv at CW
        simp only at d0 d1 d2 d3 d4 CW
        go_wp2_with (go_at_call 27; refine (unhide CW).mono ?_; rintro e w2 ⟨rfl, hb2⟩; have B2 := hide ((unhide HB).trans (hb2.mono hBs)); clear hb2)
        go_roundw
        case rel => exact ⟨k + 1, by omega, by go_num, HK2, B2⟩
        case measure => simp [intOf]; omega
    · obtain rfl : k = L.length := by omega
      go_wp2
      go_ret
      exact ⟨⟨_, rfl, by rw [unhide HK]; rfl⟩, unhide HB⟩
set_option maxRecDepth 100000 in
theorem contains_any (v : Value) (L : List Ru) (B : Nat) (w : World) (hv : RuAt B w v L) (hL : L.length ≤ 1048576) (hf : ∀ i, i < L.length → Fit1 (gr L i)) (hT : Tabs w) :
    Calls Tryd.prog 26 #[v, .func (.func 27) #[] #[]] w fun e w' => e = .returned (.bool (!okk L L.length)) ∧ Below w.heap.size w w' := by
  have C := hide (index_any v L B w hv hL hf hT)
  obtain ⟨a, cap, rfl⟩ := hv.form
  generalize okk L L.length = q at *
  clear hf hv hT
  go_enter Tryd.func26, Tryd.ntmps26
  go_wp2_with (go_at_call 41; refine (unhide C).mono ?_; rintro e w2 ⟨⟨z, rfl, hz⟩, hb2⟩; have HZ := hide hz; have B2 := hide hb2; clear hz hb2)
  go_ret
  exact ⟨by rw [← unhide HZ]; rfl, unhide B2⟩
/-- Passes whose rules can be in memory. -/
def Small (P : List Pa) : Prop := P.length ≤ 1048576 ∧ ∀ i, i < P.length → (gp P i).1.length ≤ 1048576 ∧ ∀ j, j < (gp P i).1.length → sz1 (gr (gp P i).1 j) ≤ 1048576
theorem Small.fit {P : List Pa} (h : Small P) {i : Nat} (hi : i < P.length) {j : Nat} (hj : j < (gp P i).1.length) : Fit1 (gr (gp P i).1 j) := by
  have := (h.2 i hi).2 j hj
  unfold sz1 at this
  unfold Fit1
  omega
theorem okP_cnt {P : List Pa} {k : Nat} (h : 100 < cnt P (k + 1)) : okP P k = false := by unfold okP; rw [decide_eq_false (show ¬ cnt P (k + 1) ≤ 100 by omega)]; simp
theorem okP_norm {P : List Pa} {k : Nat} (h : decide (0 ≤ (gp P k).2 ∧ (gp P k).2 ≤ 4) = false) : okP P k = false := by unfold okP; rw [h]; rfl
theorem okP_rules {P : List Pa} {k : Nat} (h : okk (gp P k).1 (gp P k).1.length = false) : okP P k = false := by unfold okP; rw [h]; simp
theorem okP_yes {P : List Pa} {k : Nat} (h : decide (0 ≤ (gp P k).2 ∧ (gp P k).2 ≤ 4) = true) (h2 : ¬ 100 < cnt P (k + 1)) (h3 : okk (gp P k).1 (gp P k).1.length = true) : okP P k = true := by unfold okP; rw [h, h3, decide_eq_true (show cnt P (k + 1) ≤ 100 by omega)]; rfl
set_option maxRecDepth 100000 in
set_option maxHeartbeats 4000000 in
theorem implPF (v : Value) (P : List Pa) (B : Nat) (w : World) (hv : PaAt B w v P) (hs : Small P) (hT : Tabs w) :
    Calls Tryd.prog 11 #[v] w fun e w' => e = .returned (.int .i64 (flt P)) ∧ Below w.heap.size w w' := by
  obtain ⟨a, cap, rfl, hv⟩ := hv
  have hl := hs.1
  have HV := hide hv
  have HS := hide hs
  have HT := hide hT
  clear hv hs hT
  by_cases h10 : 10 < P.length
  · have HF := hide (flt_many h10)
    have h10' : (10 : Int) < (P.length : Int) := by omega
    generalize flt P = F at *
    go_enter Tryd.func11, Tryd.ntmps11
    go_wp2
    go_ret
    exact ⟨by rw [unhide HF]; rfl, Below.refl _ _⟩
  · have h10' : ¬ (10 : Int) < (P.length : Int) := by omega
    have HBad := hide (fun k (hk : k < P.length) (h : okP P k = false) => flt_bad hk h)
    have HOk := hide (fun h => flt_ok (P := P) (by omega) h)
    generalize flt P = F at *
    go_enter Tryd.func11, Tryd.ntmps11
    go_wp2
    go_loopw [3, 11] (fun cv iv wr => ∃ k : Nat, k ≤ P.length ∧ iv = .int .i64 k ∧ cv = .int .i64 (cnt P k : Int) ∧ cnt P k ≤ 100 ∧ Hid (okq P k = true) ∧ Hid (Below w.heap.size w wr)) (fun _ iv _ => P.length - (intOf iv).toNat)
    case atStart => exact ⟨0, Nat.zero_le _, rfl, rfl, by simp [cnt], hide rfl, hide (Below.refl _ _)⟩
    case round =>
      obtain ⟨k, hk, rfl, rfl, hc100, HK, HB⟩ := hrel
      by_cases hlt : k < P.length
      · have hlt' : (k : Int) < (P.length : Int) := by omega
        rcases unhide HV with h' | ⟨b, off, rfl, _, hbs, hc⟩
        · rw [h'] at hlt; simp at hlt
        obtain ⟨u, c1, hu, c2⟩ := hc k hlt
        have d1 := ((unhide HB).cell (p := ⟨b, off + k * 2, none⟩) hbs).trans c1
        have d2 := ((unhide HB).cell (p := ⟨b, off + k * 2 + 1, none⟩) hbs).trans c2
        have hBs := (unhide HB).size
        have hLl := ((unhide HS).2 k hlt).1
        have CC := hide (fun W h hb => contains_any u (gp P k).1 B W h hLl (fun j hj => (unhide HS).fit hlt hj) (Utf8Tabs_below (unhide HT) hb))
        have HU := hide (hu.below (unhide HB))
        obtain ⟨ua, uc, hue⟩ := hu.form
        have hcn : cnt P (k + 1) = cnt P k + (gp P k).1.length := rfl
        have HB1 := hide (fun h => (unhide HBad) k hlt (okP_cnt h))
        have HB2 := hide (fun h => (unhide HBad) k hlt (okP_norm h))
        have HB3 := hide (fun h => (unhide HBad) k hlt (okP_rules h))
        have HY := hide (fun h1 h2 h3 => okq_next (unhide HK) (okP_yes (P := P) (k := k) h1 h2 h3))
        obtain ⟨z, hz⟩ : ∃ z, decide (0 ≤ (gp P k).2 ∧ (gp P k).2 ≤ 4) = z := ⟨_, rfl⟩
        have CI := hide (fun W => in_any (gp P k).2 0 4 W z hz)
        rw [hz] at HB2 HY
        clear c1 c2 hu hc hz
        generalize (gp P k).1 = L at *
        generalize (gp P k).2 = g at *
        subst hue
        have B1 := hide ((unhide HB).alloc hBs (.cells #[.slice ua L.length uc, .int .i64 g] 37))
        have R1 := hide ((unhide HU).below ((Below.refl wr.heap.size wr).alloc (Nat.le_refl _) (.cells #[.slice ua L.length uc, .int .i64 g] 37)))
        by_cases hq : 100 < cnt P (k + 1)
        · have HF := hide ((unhide HB1) hq)
          have hq' : (100 : Int) < (cnt P k : Int) + (L.length : Int) := by omega
          clear HB1 HB2 HB3 HY hcn hq
          go_wp2
          go_ret
          exact ⟨by rw [unhide HF]; rfl, unhide B1⟩
        · have hq' : ¬ (100 : Int) < (cnt P k : Int) + (L.length : Int) := by omega
          cases z
          · have HF := hide ((unhide HB2) rfl)
            clear HB1 HB2 HB3 HY hcn hq
            go_wp2_with (go_at_call 25; refine ((unhide CI) _).mono ?_; rintro e w' ⟨rfl, hw⟩; obtain rfl := hw.symm; clear hw)
            go_ret
            exact ⟨by rw [unhide HF]; rfl, unhide B1⟩
          · cases hkk : okk L L.length with
            | false =>
              have HF := hide ((unhide HB3) hkk)
              rw [hkk] at CC
              clear HB1 HB2 HB3 HY hcn hq hkk
              go_wp2_with (first
                | (go_at_call 25; refine ((unhide CI) _).mono ?_; rintro e w' ⟨rfl, hw⟩; obtain rfl := hw.symm; clear hw)
                | (go_at_call 26; refine ((unhide CC) _ (unhide R1) (unhide B1)).mono ?_; rintro e w2 ⟨rfl, hb2⟩; have B2 := hide ((unhide B1).trans (hb2.mono (unhide B1).size)); clear hb2))
              go_ret
              exact ⟨by rw [unhide HF]; rfl, unhide B2⟩
            | true =>
              have HK2 := hide ((unhide HY) rfl hq hkk)
              rw [hkk] at CC
              have hn : ((cnt P k : Int) + (L.length : Int)) = (cnt P (k + 1) : Int) := by omega
              have HN := hide hn
              clear HB1 HB2 HB3 HY hcn hkk hn
              go_wp2_with (first
                | (go_at_call 25; refine ((unhide CI) _).mono ?_; rintro e w' ⟨rfl, hw⟩; obtain rfl := hw.symm; clear hw)
                | (go_at_call 26; refine ((unhide CC) _ (unhide R1) (unhide B1)).mono ?_; rintro e w2 ⟨rfl, hb2⟩; have B2 := hide ((unhide B1).trans (hb2.mono (unhide B1).size)); clear hb2))
              go_roundw
              case rel => exact ⟨k + 1, by omega, by go_num, by rw [← unhide HN], by omega, HK2, B2⟩
              case measure => simp [intOf]; omega
      · obtain rfl : k = P.length := by omega
        have HF := hide ((unhide HOk) (unhide HK))
        clear HBad HOk
        go_wp2
        go_ret
        exact ⟨by rw [unhide HF]; rfl, unhide HB⟩
end Go.Proofs.YtklakcnapdhcnaaDoor.Pas
