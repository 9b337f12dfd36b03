/- ApplyRules of the specification, whole. -/
import Derived.Test.YtccnjjkechdknaaRulS
namespace Go.Proofs.Ytccnjjkechdknaa.Rul
open Go.RowKit
set_option linter.unusedVariables false
theorem rule_at (u0 u1 u2 u3 : Value) (A I B P : List Int) (gv : Value) (G : List Gl) (w : World) (h0 : IntsAt w u0 A) (h1 : IntsAt w u1 I) (h2 : IntsAt w u2 B) (h3 : IntsAt w u3 P) (hG : GA w gv G) (ok : ok1 A I B P = true) (lG : G.length ≤ 100000) :
    Calls Try.prog 52 #[.agg #[u0, u1, u2, u3], gv] w fun e w' => ∃ v', e = .returned (.tuple #[v', .bool (decide ((rul A I B P G).length ≤ 1000))]) ∧ GN w w' v' (rul A I B P G) := by
  obtain ⟨a0, c0, rfl⟩ := ints_form h0
  obtain ⟨a1, c1, rfl⟩ := ints_form h1
  obtain ⟨a2, c2, rfl⟩ := ints_form h2
  obtain ⟨a3, c3, rfl⟩ := ints_form h3
  exact l10Rule_any a0 a1 a2 a3 c0 c1 c2 c3 A I B P gv G w h0 h1 h2 h3 hG ok lG
set_option maxRecDepth 100000 in
set_option maxHeartbeats 8000000 in
theorem l10Apply_any (v gv : Value) (n : Nat) (Q : List (List Int)) (G : List Gl) (w0 w : World) (hv : RuI w v n Q) (ok : okR n Q = true) (hG : GN w0 w gv G) (lG : G.length ≤ 1000) :
    Calls Try.prog 34 #[v, gv] w fun e w' => ∃ v', e = .returned (.tuple #[v', .bool (decide ((alk Q G n).length ≤ 1000))]) ∧ GN w0 w' v' (alk Q G n) := by
  obtain ⟨hn, hk⟩ := okR_is ok
  obtain ⟨a, cap, rfl, hf⟩ := hv.form
  have HV := hide hf
  have HK := hide hk
  have HG := hide hG
  obtain ⟨ga, gc, rfl⟩ := hG.form
  have HS := hide (fun k hk h => alk_stop (Q := Q) (G := G) (k := k) (n := n) hk h)
  have HM := hide (fun k h => alk_more (Q := Q) (G := G) (k := k) h)
  obtain ⟨Z, hZ⟩ : ∃ Z, alk Q G n = Z := ⟨_, rfl⟩
  rw [hZ]
  have HZ := hide hZ
  clear hv hf hG ok hk hZ
  go_enter Try.func34, Try.ntmps34
  go_wp2
  go_loopw [1, 6, 7] (fun gv kv i wr => ∃ (k m : Nat) (ga : Option Addr) (gc : Nat) (o : Bool), k ≤ n ∧ i = .int .i64 k ∧ kv = .bool o ∧ gv = .slice ga m gc ∧ Hid (o = decide (m ≤ 1000)) ∧ Hid (m = (alk Q G k).length) ∧ Hid (GN w0 wr (.slice ga m gc) (alk Q G k)) ∧ Hid (Below w.heap.size w wr)) (fun _ _ i _ => n - (intOf i).toNat)
  case atStart => exact ⟨0, G.length, ga, gc, true, Nat.zero_le _, rfl, rfl, rfl, hide (decide_eq_true lG).symm, hide rfl, HG, hide (Below.refl _ _)⟩
  case round =>
    obtain ⟨k, m, ga, gc, o, hkn, rfl, rfl, rfl, HO, HL, HG2, HB⟩ := hrel
    clear HG
    have ho := unhide HO
    have hml := unhide HL
    by_cases hlt : k < n
    · have hlt' : (k : Int) < (n : Int) := by omega
      by_cases ht : m ≤ 1000
      · obtain rfl : o = true := by rw [ho]; exact decide_eq_true ht
        obtain ⟨b, off, rfl, hbs, u0, u1, u2, u3, ⟨x0, x1, x2, x3⟩, i0, i1, i2, i3⟩ := (unhide HV) k hlt
        have d0 := ((unhide HB).cell (p := ⟨b, off + k * 4, none⟩) hbs).trans x0
        have d1 := ((unhide HB).cell (p := ⟨b, off + k * 4 + 1, none⟩) hbs).trans x1
        have d2 := ((unhide HB).cell (p := ⟨b, off + k * 4 + 2, none⟩) hbs).trans x2
        have d3 := ((unhide HB).cell (p := ⟨b, off + k * 4 + 3, none⟩) hbs).trans x3
        have CR := hide (rule_at u0 u1 u2 u3 _ _ _ _ (.slice ga m gc) (alk Q G k) wr (i0.below (unhide HB)) (i1.below (unhide HB)) (i2.below (unhide HB)) (i3.below (unhide HB)) (by obtain ⟨_, _, _, _, _, h⟩ := (unhide HG2).gv; exact h) (okk_at hlt (unhide HK)) (by omega))
        have HE : Hid (rul (qn Q (k * 4)) (qn Q (k * 4 + 1)) (qn Q (k * 4 + 2)) (qn Q (k * 4 + 3)) (alk Q G k) = alk Q G (k + 1)) := hide ((unhide HM) k (by omega)).symm
        rw [unhide HE] at CR
        obtain ⟨a0, c0, rfl⟩ := ints_form i0
        obtain ⟨a1, c1, rfl⟩ := ints_form i1
        obtain ⟨a2, c2, rfl⟩ := ints_form i2
        obtain ⟨a3, c3, rfl⟩ := ints_form i3
        have H0 := hide (unhide HG2).bel
        clear x0 x1 x2 x3 i0 i1 i2 i3 HE ho hml HO HL
        generalize (qn Q (k * 4)).length = m0 at *
        generalize (qn Q (k * 4 + 1)).length = m1 at *
        generalize (qn Q (k * 4 + 2)).length = m2 at *
        generalize (qn Q (k * 4 + 3)).length = m3 at *
        go_wp2_with fail
        refine (unhide CR).mono ?_
        rintro e w3 ⟨v3, rfl, G3⟩
        have HG4 := hide (G3.since (unhide H0))
        have HB4 := hide ((unhide HB).trans (G3.bel.mono (unhide HB).size))
        obtain ⟨ga3, gc3, rfl⟩ := G3.form
        obtain ⟨m', hm'⟩ : ∃ m', m' = (alk Q G (k + 1)).length := ⟨_, rfl⟩
        rw [← hm'] at HG4 ⊢
        obtain ⟨o', ho'⟩ : ∃ o', o' = decide (m' ≤ 1000) := ⟨_, rfl⟩
        rw [← ho']
        have HL4 := hide hm'
        have HO4 := hide ho'
        clear G3 CR H0 HG2 HB hm' ho'
        go_wp2
        go_roundw
        case rel => exact ⟨k + 1, m', ga3, gc3, o', by omega, by go_num, rfl, rfl, HO4, HL4, HG4, HB4⟩
        case measure => simp [intOf]; omega
      · obtain rfl : o = false := by rw [ho]; exact decide_eq_false ht
        have HE := hide ((unhide HS) k (by omega) (by omega))
        have HR : Hid (GN w0 wr (.slice ga m gc) Z) := hide (by rw [← unhide HZ, unhide HE]; exact unhide HG2)
        have HF : Hid (decide (Z.length ≤ 1000) = false) := hide (by rw [← unhide HZ, unhide HE]; exact decide_eq_false (by omega))
        clear ho hml HO HL HG2 HE
        go_wp2
        go_returns
        exact ⟨_, (by rw [unhide HF]; first | done | rfl), unhide HR⟩
    · obtain rfl : k = n := by omega
      have HR : Hid (GN w0 wr (.slice ga m gc) Z) := hide (by rw [← unhide HZ]; exact unhide HG2)
      have hlt' : ¬ (k : Int) < (k : Int) := by omega
      by_cases ht : m ≤ 1000
      · obtain rfl : o = true := by rw [ho]; exact decide_eq_true ht
        have ht' : (m : Int) ≤ 1000 := by omega
        have HF : Hid (decide (Z.length ≤ 1000) = true) := hide (by rw [← unhide HZ]; exact decide_eq_true (by omega))
        clear ho hml HO HL HG2
        go_wp2
        go_returns
        exact ⟨_, (by rw [unhide HF]; first | done | rfl), unhide HR⟩
      · obtain rfl : o = false := by rw [ho]; exact decide_eq_false ht
        have HF : Hid (decide (Z.length ≤ 1000) = false) := hide (by rw [← unhide HZ]; exact decide_eq_false (by omega))
        clear ho hml HO HL HG2
        go_wp2
        go_returns
        exact ⟨_, (by rw [unhide HF]; first | done | rfl), unhide HR⟩
theorem lit_gr (w0 w : World) (h : w0.heap.size ≤ w.heap.size) : GR (w.alloc (.cells #[] 71)) w0.heap.size (.slice (some ⟨w.heap.size, 0, none⟩) 0 0) [] := World.ownsRow_lit w #[] 0 h (by unfold maxLen; omega) rfl
set_option maxRecDepth 100000 in
set_option maxHeartbeats 8000000 in
theorem specA (v : Value) (n : Nat) (Q : List (List Int)) (b off m c : Nat) (G : List Gl) (w : World) (hv : RuI w v n Q) (hl : n ≤ 1048576) (hs : AllB Q 1048576) (hG : GA w (.slice (some ⟨b, off, none⟩) m c) G) (hm : m = G.length) (lG : G.length ≤ 1048576) :
    Calls Try.prog 12 #[v, .slice (some ⟨b, off, none⟩) m c] w fun e w' => ∃ v', e = .returned v' ∧ GR w' w.heap.size v' (apl n Q G) ∧ Below w.heap.size w w' := by
  obtain ⟨i0, hi, hz0, hz1, hz2⟩ := info_parts infoG
  have HV := hide hv
  have HG := hide hG
  have HM := hide hm
  have CA := hide (rulesRight_any v n Q w hv hl hs)
  obtain ⟨ra, rc, rfl, _⟩ := hv.form
  by_cases t : 1000 < G.length
  · have t' : (1000 : Int) < (m : Int) := by omega
    have HE := hide (apl_long (n := n) (Q := Q) t)
    have HL := hide (lit_gr w w (Nat.le_refl _))
    generalize apl n Q G = Z at *
    clear hv hG hm
    go_enter Try.func12, Try.ntmps12
    go_wp2
    go_ret
    exact ⟨_, rfl, by rw [unhide HE]; exact unhide HL, (Below.refl _ _).alloc (Nat.le_refl _) _⟩
  have t' : ¬ (1000 : Int) < (m : Int) := by omega
  cases hok : okR n Q
  · rw [hok] at CA
    have HE := hide (apl_bad (G := G) hok)
    generalize apl n Q G = Z at *
    clear hv hG hm hok
    go_enter Try.func12, Try.ntmps12
    go_wp2_with fail
    refine (unhide CA).mono ?_
    rintro e w2 ⟨rfl, hb2⟩
    have B2 := hide (hb2.alloc hb2.size (.cells #[] 71))
    have HL := hide (lit_gr w w2 hb2.size)
    clear hb2
    go_wp2
    go_ret
    exact ⟨_, rfl, by rw [unhide HE]; exact unhide HL, unhide B2⟩
  · rw [hok] at CA
    have HAll := hide (fun h => apl_all (n := n) (Q := Q) (G := G) (by omega) hok h)
    have HMany := hide (fun h => apl_many (n := n) (Q := Q) (G := G) h)
    have HOK := hide hok
    have hm2 : m ≤ 1000 := by omega
    have HF : Hid (((flt G).map (Value.int .i64)).length = m * 5) := hide (by rw [List.length_map, flt_len, hm])
    generalize apl n Q G = Z at *
    clear hv hG hm hok
    go_enter Try.func12, Try.ntmps12
    go_wp2_with fail
    refine (unhide CA).mono ?_
    rintro e w2 ⟨rfl, hb2⟩
    have B2 := hide hb2
    have HN := hide (ga_news (((unhide HG).below hb2).below ((Below.refl w2.heap.size w2).alloc (Nat.le_refl _) (.cells #[] 71))))
    have HO : Hid ((w2.alloc (.cells #[] 71)).ownsRow w2.heap.size 71 5 (.slice (some ⟨w2.heap.size, 0, none⟩) 0 0) 0 []) := hide (World.ownsRow_lit w2 #[] 0 (Nat.le_refl _) (by unfold maxLen; omega) rfl)
    clear hb2 CA
    go_wp2_with (at_builtin; go_loud (refine wpList_appS _ rfl _ _ 40 rfl w2.heap.size 71 i0 (.agg #[.int .i64 0, .int .i64 0, .int .i64 0, .int .i64 0, .int .i64 0]) 5 40 Try.underlying40 hi hz0 hz1 hz2 rfl (by decide) _ _ _ [] rfl (unhide HO) ⟨b, off, none⟩ m c ((flt G).map (Value.int .i64)) rfl (unhide HF) (unhide HN) (ints_one _) (by unfold maxLen; omega) (by omega) (by simp) ?_))
    intro g' c' w3 hown hgrow
    have g3 := copy_gn (unhide HM) hown hgrow
    have G3 := hide (g3.since (unhide B2))
    have b3 := (g3.since (unhide B2)).bel
    have HV3 := hide ((unhide HV).below b3)
    clear g3 b3 hown hgrow HN HO HF
    go_wp2_with fail
    refine (l10Apply_any _ _ n Q G w w3 (unhide HV3) (unhide HOK) (unhide G3) (by omega)).mono ?_
    rintro e w4 ⟨v4, rfl, g4⟩
    have B4 := hide g4.bel
    have R4 : Hid (GR w4 w.heap.size v4 (alk Q G n)) := hide (by
      obtain ⟨va, k, vc, rfl, h⟩ := g4
      exact h.gr)
    obtain ⟨a4, c4, rfl⟩ := g4.form
    obtain ⟨m', hm'⟩ : ∃ m', m' = (alk Q G n).length := ⟨_, rfl⟩
    rw [← hm'] at R4 ⊢
    by_cases q : 1000 < m'
    · have HE := hide ((unhide HMany) (by omega))
      rw [decide_eq_false (by omega)]
      have B5 := hide ((unhide B4).alloc (unhide B4).size (.cells #[] 71))
      have HL := hide (lit_gr w w4 (unhide B4).size)
      clear hm' g4
      go_wp2
      go_ret
      exact ⟨_, rfl, by rw [unhide HE]; exact unhide HL, unhide B5⟩
    · have HE := hide ((unhide HAll) (by omega))
      rw [decide_eq_true (by omega)]
      clear hm' g4
      go_wp2
      go_ret
      exact ⟨_, rfl, by rw [unhide HE]; exact unhide R4, unhide B4⟩
end Go.Proofs.Ytccnjjkechdknaa.Rul
