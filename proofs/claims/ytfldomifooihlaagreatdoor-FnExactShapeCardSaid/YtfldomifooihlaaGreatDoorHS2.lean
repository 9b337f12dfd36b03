/- Several texts in one. -/
import Derived.Test.YtfldomifooihlaaGreatDoorHR3
import Derived.Test.YtfldomifooihlaaGreatDoorShaQ
/- The rules on a row of however many glyphs. -/
namespace Go.Proofs.YtfldomifooihlaaGreatDoor.Rul
open Go.RowKit
set_option linter.unusedVariables false
/-- The first k rules, one after the other; behind the first one as long as there are not too many glyphs. -/
def alq (Q : List (List Int)) (G : List Gl) : Nat → List Gl
  | 0 => G
  | k + 1 => if (alq Q G k).length ≤ 1000 ∨ k = 0 then rulq Q k (alq Q G k) else alq Q G k
theorem alq_more {Q : List (List Int)} {G : List Gl} {k : Nat} (h : (alq Q G k).length ≤ 1000 ∨ k = 0) : alq Q G (k + 1) = rulq Q k (alq Q G k) := if_pos h
theorem alq_stop {Q : List (List Int)} {G : List Gl} {k n : Nat} (hk : k ≤ n) (h1 : 1 ≤ k) (h : ¬ (alq Q G k).length ≤ 1000) : alq Q G n = alq Q G k := by
  induction n with
  | zero => omega
  | succ n ih =>
    by_cases e : k = n + 1
    · subst e; rfl
    · have i := ih (by omega)
      show (if (alq Q G n).length ≤ 1000 ∨ n = 0 then _ else alq Q G n) = _
      rw [i, if_neg (fun e => by rcases e with e | e; exact h e; omega)]
set_option maxRecDepth 100000 in
set_option maxHeartbeats 8000000 in
theorem ruled_long (v gv : Value) (n : Nat) (Q : List (List Int)) (G : List Gl) (w0 w : World) (hv : RuI w v n Q) (ok : okR n Q = true) (hG : GN w0 w gv G) (lG : G.length ≤ 65536) :
    Calls Tryz.prog 26 #[v, gv] w fun e w' => ∃ v', e = .returned v' ∧ GN w0 w' v' (alq Q G n) := by
  obtain ⟨hn, hk⟩ := okR_is ok
  obtain ⟨a, cap, rfl, hf⟩ := hv.form
  have HV := hide hf
  have HK := hide hk
  have HG := hide hG
  obtain ⟨ga, gc, rfl⟩ := hG.form
  have HS := hide (fun k hk h1 h => alq_stop (Q := Q) (G := G) (k := k) (n := n) hk h1 h)
  have HM := hide (fun k h => alq_more (Q := Q) (G := G) (k := k) h)
  clear hv hf hG ok hk
  go_enter Tryz.func26, Tryz.ntmps26
  go_wp2
  go_loopw [1, 9] (fun gv i wr => ∃ (k m : Nat) (ga : Option Addr) (gc : Nat), k ≤ n ∧ i = .int .i64 k ∧ gv = .slice ga m gc ∧ (m ≤ 1000 ∨ k = 0) ∧ m ≤ 65536 ∧ Hid (m = (alq Q G k).length) ∧ Hid (GN w0 wr (.slice ga m gc) (alq Q G k)) ∧ Hid (Below w.heap.size w wr)) (fun _ i _ => n - (intOf i).toNat)
  case atStart => exact ⟨0, G.length, ga, gc, Nat.zero_le _, rfl, rfl, .inr rfl, lG, hide rfl, HG, hide (Below.refl _ _)⟩
  case round =>
    obtain ⟨k, m, ga, gc, hkn, rfl, rfl, hm, hm2, HL, HG2, HB⟩ := hrel
    clear HG
    by_cases hlt : k < n
    · have hlt' : (k : Int) < (n : Int) := by omega
      obtain ⟨b, off, rfl, hbs, u0, u1, u2, u3, ⟨x0, x1, x2, x3⟩, i0, i1, i2, i3⟩ := (unhide HV) k hlt
      have d0 := ((unhide HB).cell (p := ⟨b, off + k * 4, none⟩) hbs).trans x0
      have d1 := ((unhide HB).cell (p := ⟨b, off + k * 4 + 1, none⟩) hbs).trans x1
      have d2 := ((unhide HB).cell (p := ⟨b, off + k * 4 + 2, none⟩) hbs).trans x2
      have d3 := ((unhide HB).cell (p := ⟨b, off + k * 4 + 3, none⟩) hbs).trans x3
      have hml := unhide HL
      obtain ⟨rv, C1, C2⟩ := replaced_any u0 u1 u2 u3 _ _ _ _ _ (alq Q G k) wr (i0.below (unhide HB)) (i1.below (unhide HB)) (i2.below (unhide HB)) (i3.below (unhide HB)) (unhide HG2).gv (okk_at hlt (unhide HK)) (by omega)
      have CW := hide C1
      have CR := hide C2
      have HE : Hid (rul (qn Q (k * 4)) (qn Q (k * 4 + 1)) (qn Q (k * 4 + 2)) (qn Q (k * 4 + 3)) (alq Q G k) = alq Q G (k + 1)) := hide ((unhide HM) k (by omega)).symm
      rw [unhide HE] at CR
      obtain ⟨a0, c0, rfl⟩ := ints_form i0
      obtain ⟨a1, c1, rfl⟩ := ints_form i1
      obtain ⟨a2, c2, rfl⟩ := ints_form i2
      obtain ⟨a3, c3, rfl⟩ := ints_form i3
      generalize (qn Q (k * 4)).length = m0 at *
      generalize (qn Q (k * 4 + 1)).length = m1 at *
      generalize (qn Q (k * 4 + 2)).length = m2 at *
      generalize (qn Q (k * 4 + 3)).length = m3 at *
      have hGN := unhide HG2
      have BA := hide ((Below.refl wr.heap.size wr).alloc (Nat.le_refl _) (.cells #[.slice a0 m0 c0, .slice a1 m1 c1, .slice a2 m2 c2, .slice a3 m3 c3] 77))
      have hB0 := hGN.bel
      have H0 := hide hB0
      clear x0 x1 x2 x3 i0 i1 i2 i3 C1 C2 HE hml HL hGN hB0
      go_wp2_with fail
      refine ((unhide CW) _).mono ?_
      rintro e w2 ⟨rfl, hb2⟩
      have B2 := hide ((unhide BA).trans (hb2.mono (unhide BA).size))
      clear hb2 CW
      go_wp2_with fail
      refine ((unhide CR) _ (unhide B2)).mono ?_
      rintro e w3 ⟨v3, rfl, hg3⟩
      have G3 : GN w2 w3 v3 (alq Q G (k + 1)) := hg3
      have HG4 := hide (G3.since ((unhide H0).trans ((unhide B2).mono (unhide H0).size)))
      have HB4 := hide ((unhide HB).trans (((unhide B2).trans (G3.bel.mono (unhide B2).size)).mono (unhide HB).size))
      obtain ⟨ga3, gc3, rfl⟩ := G3.form
      obtain ⟨m', hm'⟩ : ∃ m', m' = (alq Q G (k + 1)).length := ⟨_, rfl⟩
      rw [← hm'] at HG4 ⊢
      have HL4 := hide hm'
      have HM4 := hide (fun h => (unhide HS) (k + 1) (by omega) (by omega) h)
      clear hg3 G3 CR B2 H0 BA HG2 HB
      by_cases ht : 1000 < m'
      · have ht' : (1000 : Int) < (m' : Int) := by omega
        have e := (unhide HM4) (by omega)
        have HE := hide e
        clear e hm' HL4 HM4
        go_wp2
        go_ret
        exact ⟨_, rfl, by rw [unhide HE]; exact unhide HG4⟩
      · have ht' : ¬ (1000 : Int) < (m' : Int) := by omega
        clear hm' HM4
        go_wp2
        go_roundw
        case rel => exact ⟨k + 1, m', ga3, gc3, by omega, by go_num, rfl, .inl (by omega), by omega, HL4, HG4, HB4⟩
        case measure => simp [intOf]; omega
    · obtain rfl : k = n := by omega
      go_wp2
      go_ret
      exact ⟨_, rfl, unhide HG2⟩
set_option maxRecDepth 100000 in
set_option maxHeartbeats 8000000 in
theorem apply_long (v gv : Value) (n : Nat) (Q : List (List Int)) (G : List Gl) (w0 w : World) (hv : RuI w v n Q) (ok : okR n Q = true) (hG : GN w0 w gv G) (lG : G.length ≤ 65536) :
    Calls Tryz.prog 17 #[v, gv] w fun e w' => ∃ v', e = .returned (.tuple #[v', .bool (decide ((alq Q G n).length ≤ 1000))]) ∧ GN w0 w' v' (alq Q G n) := by
  obtain ⟨hn, hk⟩ := okR_is ok
  obtain ⟨a, cap, rfl, hf⟩ := hv.form
  have HV := hide hf
  have HK := hide hk
  have HG := hide hG
  obtain ⟨ga, gc, rfl⟩ := hG.form
  have HS := hide (fun k hk h1 h => alq_stop (Q := Q) (G := G) (k := k) (n := n) hk h1 h)
  have HM := hide (fun k h => alq_more (Q := Q) (G := G) (k := k) h)
  obtain ⟨Z, hZ⟩ : ∃ Z, alq Q G n = Z := ⟨_, rfl⟩
  rw [hZ]
  have HZ := hide hZ
  clear hv hf hG ok hk hZ
  go_enter Tryz.func17, Tryz.ntmps17
  go_wp2
  go_loopw [1, 6, 7] (fun gv kv i wr => ∃ (k m : Nat) (ga : Option Addr) (gc : Nat) (o : Bool), k ≤ n ∧ i = .int .i64 k ∧ kv = .bool o ∧ gv = .slice ga m gc ∧ Hid (o = decide (m ≤ 1000 ∨ k = 0)) ∧ Hid (m ≤ 65536 ∨ m ≤ 1000 ∨ o = false) ∧ Hid (m = (alq Q G k).length) ∧ Hid (GN w0 wr (.slice ga m gc) (alq Q G k)) ∧ Hid (Below w.heap.size w wr)) (fun _ _ i _ => n - (intOf i).toNat)
  case atStart => exact ⟨0, G.length, ga, gc, true, Nat.zero_le _, rfl, rfl, rfl, hide (decide_eq_true (.inr rfl)).symm, hide (.inl lG), hide rfl, HG, hide (Below.refl _ _)⟩
  case round =>
    obtain ⟨k, m, ga, gc, o, hkn, rfl, rfl, rfl, HO, HM2, HL, HG2, HB⟩ := hrel
    clear HG
    have ho := unhide HO
    have hml := unhide HL
    have hm2 := unhide HM2
    by_cases hlt : k < n
    · have hlt' : (k : Int) < (n : Int) := by omega
      by_cases ht : m ≤ 1000 ∨ k = 0
      · obtain rfl : o = true := by rw [ho]; exact decide_eq_true ht
        have hm3 : m ≤ 65536 := by rcases hm2 with h | h | h; exact h; omega; cases h
        obtain ⟨b, off, rfl, hbs, u0, u1, u2, u3, ⟨x0, x1, x2, x3⟩, i0, i1, i2, i3⟩ := (unhide HV) k hlt
        have d0 := ((unhide HB).cell (p := ⟨b, off + k * 4, none⟩) hbs).trans x0
        have d1 := ((unhide HB).cell (p := ⟨b, off + k * 4 + 1, none⟩) hbs).trans x1
        have d2 := ((unhide HB).cell (p := ⟨b, off + k * 4 + 2, none⟩) hbs).trans x2
        have d3 := ((unhide HB).cell (p := ⟨b, off + k * 4 + 3, none⟩) hbs).trans x3
        have CR := hide (rule_at u0 u1 u2 u3 _ _ _ _ (.slice ga m gc) (alq Q G k) wr (i0.below (unhide HB)) (i1.below (unhide HB)) (i2.below (unhide HB)) (i3.below (unhide HB)) (by obtain ⟨_, _, _, _, _, h⟩ := (unhide HG2).gv; exact h) (okk_at hlt (unhide HK)) (by omega))
        have HE : Hid (rul (qn Q (k * 4)) (qn Q (k * 4 + 1)) (qn Q (k * 4 + 2)) (qn Q (k * 4 + 3)) (alq Q G k) = alq Q G (k + 1)) := hide ((unhide HM) k (by omega)).symm
        rw [unhide HE] at CR
        obtain ⟨a0, c0, rfl⟩ := ints_form i0
        obtain ⟨a1, c1, rfl⟩ := ints_form i1
        obtain ⟨a2, c2, rfl⟩ := ints_form i2
        obtain ⟨a3, c3, rfl⟩ := ints_form i3
        have H0 := hide (unhide HG2).bel
        clear x0 x1 x2 x3 i0 i1 i2 i3 HE ho hml HO HL
        generalize (qn Q (k * 4)).length = m0 at *
        generalize (qn Q (k * 4 + 1)).length = m1 at *
        generalize (qn Q (k * 4 + 2)).length = m2 at *
        generalize (qn Q (k * 4 + 3)).length = m3 at *
        go_wp2_with fail
        refine (unhide CR).mono ?_
        rintro e w3 ⟨v3, rfl, G3⟩
        have HG4 := hide (G3.since (unhide H0))
        have HB4 := hide ((unhide HB).trans (G3.bel.mono (unhide HB).size))
        obtain ⟨ga3, gc3, rfl⟩ := G3.form
        obtain ⟨m', hm'⟩ : ∃ m', m' = (alq Q G (k + 1)).length := ⟨_, rfl⟩
        rw [← hm'] at HG4 ⊢
        obtain ⟨o', ho'⟩ : ∃ o', o' = decide (m' ≤ 1000) := ⟨_, rfl⟩
        rw [← ho']
        have HL4 := hide hm'
        have HO4 : Hid (o' = decide (m' ≤ 1000 ∨ k + 1 = 0)) := hide (by rw [ho']; exact decide_eq_decide.2 (by omega))
        have HM4 : Hid (m' ≤ 65536 ∨ m' ≤ 1000 ∨ o' = false) := hide (by by_cases h : m' ≤ 1000; exact .inr (.inl h); exact .inr (.inr (by rw [ho']; exact decide_eq_false h)))
        clear G3 CR H0 HG2 HB hm' ho'
        go_wp2
        go_roundw
        case rel => exact ⟨k + 1, m', ga3, gc3, o', by omega, by go_num, rfl, rfl, HO4, HM4, HL4, HG4, HB4⟩
        case measure => simp [intOf]; omega
      · obtain rfl : o = false := by rw [ho]; exact decide_eq_false ht
        have HE := hide ((unhide HS) k (by omega) (by omega) (by omega))
        have HR : Hid (GN w0 wr (.slice ga m gc) Z) := hide (by rw [← unhide HZ, unhide HE]; exact unhide HG2)
        have HF : Hid (decide (Z.length ≤ 1000) = false) := hide (by rw [← unhide HZ, unhide HE]; exact decide_eq_false (by omega))
        clear ho hml HO HL HG2 HE
        go_wp2
        go_returns
        exact ⟨_, (by rw [unhide HF]; first | done | rfl), unhide HR⟩
    · obtain rfl : k = n := by omega
      have HR : Hid (GN w0 wr (.slice ga m gc) Z) := hide (by rw [← unhide HZ]; exact unhide HG2)
      have hlt' : ¬ (k : Int) < (k : Int) := by omega
      by_cases ht : m ≤ 1000
      · obtain rfl : o = true := by rw [ho]; exact decide_eq_true (.inl ht)
        have ht' : (m : Int) ≤ 1000 := by omega
        have HF : Hid (decide (Z.length ≤ 1000) = true) := hide (by rw [← unhide HZ]; exact decide_eq_true (by omega))
        clear ho hml HO HL HG2
        go_wp2
        go_returns
        exact ⟨_, (by rw [unhide HF]; first | done | rfl), unhide HR⟩
      · have ht' : ¬ (m : Int) ≤ 1000 := by omega
        have HF : Hid (decide (Z.length ≤ 1000) = false) := hide (by rw [← unhide HZ]; exact decide_eq_false (by omega))
        clear ho hml HO HL HG2 hm2 HM2
        cases o
        · go_wp2
          go_returns
          exact ⟨_, (by rw [unhide HF]; first | done | rfl), unhide HR⟩
        · go_wp2
          go_returns
          exact ⟨_, (by rw [unhide HF]; first | done | rfl), unhide HR⟩
end Go.Proofs.YtfldomifooihlaaGreatDoor.Rul
/- The rules on no glyph, as the program applies them. -/
namespace Go.Proofs.YtfldomifooihlaaGreatDoor.Rul
open Go.RowKit
set_option linter.unusedVariables false
theorem rul_none (A I B P : List Int) (h : 0 < I.length) : rul A I B P [] = [] := by
  first | rfl | simp [rul]
theorem alq_none {Q : List (List Int)} {n : Nat} (ok : okR n Q = true) (k : Nat) (hk : k ≤ n) : alq Q [] k = [] := by
  induction k with
  | zero => rfl
  | succ k ih =>
    rw [alq_more (.inl (by rw [ih (by omega)]; simp)), ih (by omega)]
    exact rul_none _ _ _ _ (okq_parts (okk_at (by omega) (okR_is ok).2)).1
set_option maxRecDepth 100000 in
set_option maxHeartbeats 4000000 in
theorem replaced_none (rt : TypeId) (rv : Value) (a : Option Addr) (c : Nat) (w : World) :
    Calls Tryz.prog 54 #[.iface rt rv, .slice a 0 c] w fun e w' => e = .returned (.slice (some ⟨w.heap.size, 0, none⟩) 0 0) ∧ w' = w.alloc (.cells #[] 52) := by
  have hmk : (Instr.makeSlice 28 (.int .i64 0) (.int .i64 0)).run Tryz.prog w = .ok (.slice (some ⟨w.heap.size, 0, none⟩) 0 0) (w.alloc (.cells #[] 52)) := by
    obtain ⟨i0, hi, hz0, hz1, hz2⟩ := info_parts infoG
    have := run_makeSlice (P := Tryz.prog) w 28 52 i0 (.agg #[.int .i64 0, .int .i64 0, .int .i64 0, .int .i64 0, .int .i64 0]) Tryz.underlying28 hi hz0 .i64 .i64 (0 : Int) (0 : Int) (by omega) (Int.le_refl _) (by rw [hz1]; omega) (by rw [hz2]; omega) (by omega)
    have e0 : ∀ z, madeCells z 0 = #[] := fun z => Array.eq_empty_of_size_eq_zero (by simp [madeCells])
    rw [hz1, show Int.toNat 0 * 5 = 0 from rfl, e0] at this
    exact this
  go_enter Tryz.func54, Tryz.ntmps54
  go_wp2
  go_loopw [1, 5] (fun x y wr => x = .slice a 0 c ∧ y = .slice (some ⟨w.heap.size, 0, none⟩) 0 0 ∧ wr = w.alloc (.cells #[] 52)) (fun _ _ _ => 0)
  case atStart => exact ⟨rfl, rfl, rfl⟩
  case round =>
    obtain ⟨rfl, rfl, rfl⟩ := hrel
    go_wp2
    go_ret
    exact ⟨rfl, rfl⟩
/-- A row of no glyph: nil, or one's own since w0. -/
def G0 (w0 w : World) (v : Value) : Prop := v = .slice none 0 0 ∨ GN w0 w v []
theorem G0.form {w0 w : World} {v : Value} (h : G0 w0 w v) : ∃ a c, v = .slice a 0 c := by
  rcases h with rfl | h
  · exact ⟨_, _, rfl⟩
  · exact h.form
theorem gn_new (w0 w : World) (hb : Below w0.heap.size w0 w) : GN w0 (w.alloc (.cells #[] 52)) (.slice (some ⟨w.heap.size, 0, none⟩) 0 0) [] := by
  refine ⟨_, _, _, rfl, rfl, ⟨_, rfl⟩, ?_, hb.trans (((Below.refl _ _).alloc (Nat.le_refl _) _).mono hb.size)⟩
  exact World.ownsRow_lit (base := w0.heap.size) (e := 52) (size := 5) w #[] 0 hb.size (by unfold maxLen; omega) rfl
set_option maxRecDepth 100000 in
set_option maxHeartbeats 8000000 in
theorem ruled_none (v gv : Value) (n : Nat) (Q : List (List Int)) (w0 w : World) (hv : RuI w v n Q) (ok : okR n Q = true) (hG : G0 w0 w gv) (hb0 : Below w0.heap.size w0 w) :
    Calls Tryz.prog 26 #[v, gv] w fun e w' => ∃ v', e = .returned v' ∧ G0 w0 w' v' ∧ Below w0.heap.size w0 w' := by
  obtain ⟨hn, hk⟩ := okR_is ok
  obtain ⟨a, cap, rfl, hf⟩ := hv.form
  have HV := hide hf
  have HK := hide hk
  have HG := hide hG
  have HB00 := hide hb0
  obtain ⟨ga, gc, rfl⟩ := hG.form
  clear hv hf hG ok hk hb0
  go_enter Tryz.func26, Tryz.ntmps26
  go_wp2
  go_loopw [1, 9] (fun gv i wr => ∃ (k : Nat) (ga : Option Addr) (gc : Nat), k ≤ n ∧ i = .int .i64 k ∧ gv = .slice ga 0 gc ∧ Hid (G0 w0 wr (.slice ga 0 gc)) ∧ Hid (Below w.heap.size w wr)) (fun _ i _ => n - (intOf i).toNat)
  case atStart => exact ⟨0, ga, gc, Nat.zero_le _, rfl, rfl, HG, hide (Below.refl _ _)⟩
  case round =>
    obtain ⟨k, ga, gc, hkn, rfl, rfl, HG2, HB⟩ := hrel
    clear HG
    have hzz := (unhide HB).size
    by_cases hlt : k < n
    · have hlt' : (k : Int) < (n : Int) := by omega
      obtain ⟨b, off, rfl, hbs, u0, u1, u2, u3, ⟨x0, x1, x2, x3⟩, i0, i1, i2, i3⟩ := (unhide HV) k hlt
      have d0 := ((unhide HB).cell (p := ⟨b, off + k * 4, none⟩) hbs).trans x0
      have d1 := ((unhide HB).cell (p := ⟨b, off + k * 4 + 1, none⟩) hbs).trans x1
      have d2 := ((unhide HB).cell (p := ⟨b, off + k * 4 + 2, none⟩) hbs).trans x2
      have d3 := ((unhide HB).cell (p := ⟨b, off + k * 4 + 3, none⟩) hbs).trans x3
      have hoq := okq_parts (okk_at hlt (unhide HK))
      obtain ⟨a0, c0, rfl⟩ := ints_form i0
      obtain ⟨a1, c1, rfl⟩ := ints_form i1
      obtain ⟨a2, c2, rfl⟩ := ints_form i2
      obtain ⟨a3, c3, rfl⟩ := ints_form i3
      clear x0 x1 x2 x3 i0 i1 i2 i3
      generalize (qn Q (k * 4)).length = m0 at *
      generalize (qn Q (k * 4 + 1)).length = m1 at *
      generalize (qn Q (k * 4 + 2)).length = m2 at *
      generalize (qn Q (k * 4 + 3)).length = m3 at *
      have CW : ∃ rt rv, Hid (∀ W, Calls Tryz.prog 55 #[.agg #[.slice a0 m0 c0, .slice a1 m1 c1, .slice a2 m2 c2, .slice a3 m3 c3]] W fun e w' => e = .returned (.iface rt rv) ∧ Below W.heap.size W w') := by
        by_cases t : 0 < m0 ∨ 0 < m2
        · exact ⟨_, _, hide (fun W => work_ctx a0 a1 a2 a3 _ _ _ _ c0 c1 c2 c3 W t (by omega) (by omega))⟩
        · obtain rfl : m0 = 0 := by omega
          obtain rfl : m2 = 0 := by omega
          exact ⟨_, _, hide (fun W => work_plain a0 a1 a2 a3 _ _ c0 c1 c2 c3 W)⟩
      obtain ⟨rt, rv, CW⟩ := CW
      have BA := hide ((Below.refl wr.heap.size wr).alloc (Nat.le_refl _) (.cells #[.slice a0 m0 c0, .slice a1 m1 c1, .slice a2 m2 c2, .slice a3 m3 c3] 77))
      clear hoq
      go_wp2_with fail
      refine ((unhide CW) _).mono ?_
      rintro e w2 ⟨rfl, hb2⟩
      have B2 := hide ((unhide BA).trans (hb2.mono (unhide BA).size))
      clear hb2 CW
      go_wp2_with fail
      refine (replaced_none rt rv ga gc w2).mono ?_
      rintro e w3 ⟨rfl, hw3⟩
      have hB2 := (unhide HB).trans ((unhide B2).mono hzz)
      have HG4 : Hid (G0 w0 w3 (.slice (some ⟨w2.heap.size, 0, none⟩) 0 0)) := hide (by rw [hw3]; exact .inr (gn_new w0 w2 ((unhide HB00).trans (hB2.mono (unhide HB00).size))))
      have HB4 : Hid (Below w.heap.size w w3) := hide (by rw [hw3]; exact hB2.alloc hB2.size _)
      clear hw3 hB2 HG2 HB BA
      go_wp2
      go_roundw
      case rel => exact ⟨k + 1, _, _, by omega, by go_num, rfl, HG4, HB4⟩
      case measure => simp [intOf]; omega
    · obtain rfl : k = n := by omega
      have HE := hide ((unhide HB00).trans ((unhide HB).mono (unhide HB00).size))
      go_wp2
      go_ret
      exact ⟨_, rfl, unhide HG2, unhide HE⟩
end Go.Proofs.YtfldomifooihlaaGreatDoor.Rul
