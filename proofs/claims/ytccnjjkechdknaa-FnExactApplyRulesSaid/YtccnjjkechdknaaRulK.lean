/- The program's ApplyRules. -/
import Derived.Test.YtccnjjkechdknaaRulJ
namespace Go.Proofs.Ytccnjjkechdknaa.Rul
open Go.RowKit
set_option linter.unusedVariables false
set_option maxRecDepth 100000 in
set_option maxHeartbeats 4000000 in
theorem work_plain (a0 a1 a2 a3 : Option Addr) (n1 n3 c0 c1 c2 c3 : Nat) (w : World) :
    Calls Try.prog 55 #[.agg #[.slice a0 0 c0, .slice a1 n1 c1, .slice a2 0 c2, .slice a3 n3 c3]] w fun e w' => e = .returned (.iface 104 (.agg #[.slice a1 n1 c1, .slice a3 n3 c3])) ∧ Below w.heap.size w w' := by
  go_enter Try.func55, Try.ntmps55
  go_wp2
  go_ret
  exact ⟨rfl, ((Below.refl _ _).alloc (Nat.le_refl _) _).alloc (by simp) _⟩
set_option maxRecDepth 100000 in
set_option maxHeartbeats 4000000 in
theorem work_ctx (a0 a1 a2 a3 : Option Addr) (n0 n1 n2 n3 c0 c1 c2 c3 : Nat) (w : World) (h : 0 < n0 ∨ 0 < n2) (l0 : n0 ≤ 4) (l2 : n2 ≤ 4) :
    Calls Try.prog 55 #[.agg #[.slice a0 n0 c0, .slice a1 n1 c1, .slice a2 n2 c2, .slice a3 n3 c3]] w fun e w' => e = .returned (.iface 106 (.agg #[.slice a1 n1 c1, .slice a3 n3 c3, .slice a0 n0 c0, .slice a2 n2 c2])) ∧ Below w.heap.size w w' := by
  by_cases t : 0 < n0
  · have t1 : ((n0 : Int) == 0) = false := by simp; omega
    clear h
    go_enter Try.func55, Try.ntmps55
    go_wp2
    go_ret
    exact ⟨rfl, ((Below.refl _ _).alloc (Nat.le_refl _) _).alloc (by simp) _⟩
  · obtain rfl : n0 = 0 := by omega
    have t1 : ((n2 : Int) == 0) = false := by simp; omega
    clear h
    go_enter Try.func55, Try.ntmps55
    go_wp2
    go_ret
    exact ⟨rfl, ((Below.refl _ _).alloc (Nat.le_refl _) _).alloc (by simp) _⟩
/-- A row of glyphs that is not nil, of one's own since w0 or older. -/
def GV (w : World) (v : Value) (G : List Gl) : Prop := ∃ b off c, v = .slice (some ⟨b, off, none⟩) G.length c ∧ G.length ≤ c ∧ GA w v G
theorem GV.below {w w' : World} {v : Value} {G : List Gl} (h : GV w v G) (hb : Below w.heap.size w w') : GV w' v G := by
  obtain ⟨b, off, c, rfl, h1, h2⟩ := h
  exact ⟨b, off, c, rfl, h1, h2.below hb⟩
theorem GD.gv {w0 w : World} {va : Option Addr} {m vc : Nat} {D : List Gl} (h : GD w0 w va m vc D) : GV w (.slice va m vc) D := by
  obtain ⟨g, rfl⟩ := h.som
  have e := h.len
  have c := h.cap
  have r := h.gr.ga
  subst e
  exact ⟨g, 0, vc, rfl, c, r⟩
theorem replaced_any (u0 u1 u2 u3 : Value) (A I B P : List Int) (v : Value) (G : List Gl) (w : World) (h0 : IntsAt w u0 A) (h1 : IntsAt w u1 I) (h2 : IntsAt w u2 B) (h3 : IntsAt w u3 P) (hG : GV w v G) (ok : ok1 A I B P = true) (lG : G.length ≤ 100000) :
    ∃ rv, (∀ W, Calls Try.prog 55 #[.agg #[u0, u1, u2, u3]] W fun e w' => e = .returned rv ∧ Below W.heap.size W w') ∧ (∀ W, Below w.heap.size w W → Calls Try.prog 54 #[rv, v] W fun e w' => ∃ v', e = .returned v' ∧ (∃ va m vc, v' = .slice va m vc ∧ GD W w' va m vc (rul A I B P G))) := by
  obtain ⟨a0, c0, rfl⟩ := ints_form h0
  obtain ⟨a1, c1, rfl⟩ := ints_form h1
  obtain ⟨a2, c2, rfl⟩ := ints_form h2
  obtain ⟨a3, c3, rfl⟩ := ints_form h3
  obtain ⟨b, off, c, rfl, hc, hG⟩ := hG
  have ok' : 0 < I.length ∧ I.length ≤ 8 ∧ P.length ≤ 8 ∧ A.length ≤ 4 ∧ B.length ≤ 4 := by
    unfold ok1 okI at ok
    simp at ok
    omega
  obtain ⟨k0, k1, k2, k3, k4⟩ := ok'
  by_cases t : 0 < A.length ∨ 0 < B.length
  · refine ⟨_, fun W => work_ctx a0 a1 a2 a3 _ _ _ _ c0 c1 c2 c3 W t k3 k4, fun W hb => ?_⟩
    refine (replaced_ctx a1 a3 a0 a2 c1 c3 c0 c2 A B I P b off G.length c G W (h1.below hb) (h3.below hb) (h0.below hb) (h2.below hb) (hG.below hb) rfl hc k0 k1 k2 k3 k4 lG).mono ?_
    rintro e w' ⟨va, m, vc, rfl, h⟩
    exact ⟨_, rfl, va, m, vc, rfl, h⟩
  · have eA : A = [] := List.eq_nil_of_length_eq_zero (by omega)
    have eB : B = [] := List.eq_nil_of_length_eq_zero (by omega)
    subst eA eB
    refine ⟨_, fun W => work_plain a0 a1 a2 a3 _ _ c0 c1 c2 c3 W, fun W hb => ?_⟩
    refine (replaced_plain a1 a3 c1 c3 I P b off G.length c G W (h1.below hb) (h3.below hb) (hG.below hb) rfl hc k0 k1 k2 lG).mono ?_
    rintro e w' ⟨va, m, vc, rfl, h⟩
    exact ⟨_, rfl, va, m, vc, rfl, h⟩
/-- A row of glyphs that is not nil, all of whose memory is new since w0. -/
def GN (w0 w : World) (v : Value) (G : List Gl) : Prop := ∃ va m vc, v = .slice va m vc ∧ GD w0 w va m vc G
theorem GN.gv {w0 w : World} {v : Value} {G : List Gl} (h : GN w0 w v G) : GV w v G := by
  obtain ⟨va, m, vc, rfl, h⟩ := h
  exact h.gv
theorem GN.bel {w0 w : World} {v : Value} {G : List Gl} (h : GN w0 w v G) : Below w0.heap.size w0 w := by
  obtain ⟨va, m, vc, rfl, h⟩ := h
  exact h.bel
/-- New since a later world is new since an earlier one. -/
theorem GN.since {w0 w1 w : World} {v : Value} {G : List Gl} (h : GN w1 w v G) (hb : Below w0.heap.size w0 w1) : GN w0 w v G := by
  obtain ⟨va, m, vc, rfl, h⟩ := h
  have hs := hb.size
  refine ⟨va, m, vc, rfl, h.len, h.som, ?_, hb.trans (h.bel.mono hs)⟩
  refine ⟨h.row.1, ?_⟩
  rcases h.row.2 with h' | ⟨g, cap, cur, hv, hg, r⟩
  · exact .inl h'
  · exact .inr ⟨g, cap, cur, hv, by omega, r⟩
theorem GN.form {w0 w : World} {v : Value} {G : List Gl} (h : GN w0 w v G) : ∃ a c, v = .slice a G.length c := by
  obtain ⟨va, m, vc, rfl, h⟩ := h
  rw [h.len]
  exact ⟨_, _, rfl⟩
set_option maxRecDepth 100000 in
set_option maxHeartbeats 8000000 in
theorem ruledBy_any (v gv : Value) (n : Nat) (Q : List (List Int)) (G : List Gl) (w0 w : World) (hv : RuI w v n Q) (ok : okR n Q = true) (hG : GN w0 w gv G) (lG : G.length ≤ 1000) :
    Calls Try.prog 37 #[v, gv] w fun e w' => ∃ v', e = .returned v' ∧ GN w0 w' v' (alk Q G n) := by
  obtain ⟨hn, hk⟩ := okR_is ok
  obtain ⟨a, cap, rfl, hf⟩ := hv.form
  have HV := hide hf
  have HK := hide hk
  have HG := hide hG
  obtain ⟨ga, gc, rfl⟩ := hG.form
  have HS := hide (fun k hk h => alk_stop (Q := Q) (G := G) (k := k) (n := n) hk h)
  have HM := hide (fun k h => alk_more (Q := Q) (G := G) (k := k) h)
  clear hv hf hG ok hk
  go_enter Try.func37, Try.ntmps37
  go_wp2
  go_loopw [1, 9] (fun gv i wr => ∃ (k m : Nat) (ga : Option Addr) (gc : Nat), k ≤ n ∧ i = .int .i64 k ∧ gv = .slice ga m gc ∧ m ≤ 1000 ∧ Hid (m = (alk Q G k).length) ∧ Hid (GN w0 wr (.slice ga m gc) (alk Q G k)) ∧ Hid (Below w.heap.size w wr)) (fun _ i _ => n - (intOf i).toNat)
  case atStart => exact ⟨0, G.length, ga, gc, Nat.zero_le _, rfl, rfl, lG, hide rfl, HG, hide (Below.refl _ _)⟩
  case round =>
    obtain ⟨k, m, ga, gc, hkn, rfl, rfl, hm, HL, HG2, HB⟩ := hrel
    clear HG
    by_cases hlt : k < n
    · have hlt' : (k : Int) < (n : Int) := by omega
      obtain ⟨b, off, rfl, hbs, u0, u1, u2, u3, ⟨x0, x1, x2, x3⟩, i0, i1, i2, i3⟩ := (unhide HV) k hlt
      have d0 := ((unhide HB).cell (p := ⟨b, off + k * 4, none⟩) hbs).trans x0
      have d1 := ((unhide HB).cell (p := ⟨b, off + k * 4 + 1, none⟩) hbs).trans x1
      have d2 := ((unhide HB).cell (p := ⟨b, off + k * 4 + 2, none⟩) hbs).trans x2
      have d3 := ((unhide HB).cell (p := ⟨b, off + k * 4 + 3, none⟩) hbs).trans x3
      have hml := unhide HL
      obtain ⟨rv, C1, C2⟩ := replaced_any u0 u1 u2 u3 _ _ _ _ _ (alk Q G k) wr (i0.below (unhide HB)) (i1.below (unhide HB)) (i2.below (unhide HB)) (i3.below (unhide HB)) (unhide HG2).gv (okk_at hlt (unhide HK)) (by omega)
      have CW := hide C1
      have CR := hide C2
      have HE : Hid (rul (qn Q (k * 4)) (qn Q (k * 4 + 1)) (qn Q (k * 4 + 2)) (qn Q (k * 4 + 3)) (alk Q G k) = alk Q G (k + 1)) := hide ((unhide HM) k (by omega)).symm
      rw [unhide HE] at CR
      obtain ⟨a0, c0, rfl⟩ := ints_form i0
      obtain ⟨a1, c1, rfl⟩ := ints_form i1
      obtain ⟨a2, c2, rfl⟩ := ints_form i2
      obtain ⟨a3, c3, rfl⟩ := ints_form i3
      generalize (qn Q (k * 4)).length = m0 at *
      generalize (qn Q (k * 4 + 1)).length = m1 at *
      generalize (qn Q (k * 4 + 2)).length = m2 at *
      generalize (qn Q (k * 4 + 3)).length = m3 at *
      have hGN := unhide HG2
      have BA := hide ((Below.refl wr.heap.size wr).alloc (Nat.le_refl _) (.cells #[.slice a0 m0 c0, .slice a1 m1 c1, .slice a2 m2 c2, .slice a3 m3 c3] 68))
      have hB0 := hGN.bel
      have H0 := hide hB0
      clear x0 x1 x2 x3 i0 i1 i2 i3 C1 C2 HE hml HL hGN hB0
      go_wp2_with fail
      refine ((unhide CW) _).mono ?_
      rintro e w2 ⟨rfl, hb2⟩
      have B2 := hide ((unhide BA).trans (hb2.mono (unhide BA).size))
      clear hb2 CW
      go_wp2_with fail
      refine ((unhide CR) _ (unhide B2)).mono ?_
      rintro e w3 ⟨v3, rfl, hg3⟩
      have G3 : GN w2 w3 v3 (alk Q G (k + 1)) := hg3
      have HG4 := hide (G3.since ((unhide H0).trans ((unhide B2).mono (unhide H0).size)))
      have HB4 := hide ((unhide HB).trans (((unhide B2).trans (G3.bel.mono (unhide B2).size)).mono (unhide HB).size))
      obtain ⟨ga3, gc3, rfl⟩ := G3.form
      obtain ⟨m', hm'⟩ : ∃ m', m' = (alk Q G (k + 1)).length := ⟨_, rfl⟩
      rw [← hm'] at HG4 ⊢
      have HL4 := hide hm'
      have HM4 := hide (fun h => (unhide HS) (k + 1) (by omega) h)
      clear hg3 G3 CR B2 H0 BA HG2 HB
      by_cases ht : 1000 < m'
      · have ht' : (1000 : Int) < (m' : Int) := by omega
        have e := (unhide HM4) (by omega)
        have HE := hide e
        clear e hm' HL4 HM4
        go_wp2
        go_ret
        exact ⟨_, rfl, by rw [unhide HE]; exact unhide HG4⟩
      · have ht' : ¬ (1000 : Int) < (m' : Int) := by omega
        clear hm' HM4
        go_wp2
        go_roundw
        case rel => exact ⟨k + 1, m', ga3, gc3, by omega, by go_num, rfl, by omega, HL4, HG4, HB4⟩
        case measure => simp [intOf]; omega
    · obtain rfl : k = n := by omega
      go_wp2
      go_ret
      exact ⟨_, rfl, unhide HG2⟩
theorem apl_long {n : Nat} {Q : List (List Int)} {G : List Gl} (h : 1000 < G.length) : apl n Q G = [] := if_neg (fun e => by omega)
theorem apl_bad {n : Nat} {Q : List (List Int)} {G : List Gl} (h : okR n Q = false) : apl n Q G = [] := if_neg (fun e => by rw [h] at e; exact absurd e.2.1 (by simp))
theorem apl_many {n : Nat} {Q : List (List Int)} {G : List Gl} (h : 1000 < (alk Q G n).length) : apl n Q G = [] := if_neg (fun e => by omega)
theorem apl_all {n : Nat} {Q : List (List Int)} {G : List Gl} (h1 : G.length ≤ 1000) (h2 : okR n Q = true) (h3 : (alk Q G n).length ≤ 1000) : apl n Q G = alk Q G n := if_pos ⟨h1, h2, h3⟩
theorem apl_len {n : Nat} {Q : List (List Int)} {G : List Gl} : (apl n Q G).length ≤ 1000 := by
  unfold apl
  split
  · rename_i h; exact h.2.2
  · simp
end Go.Proofs.Ytccnjjkechdknaa.Rul
