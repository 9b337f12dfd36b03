/- Ids at a place; glyphs put in the place of one. -/
import Derived.Test.YtccnjjkechdknaaRulP
namespace Go.Proofs.Ytccnjjkechdknaa.Rul
open Go.RowKit
set_option linter.unusedVariables false
theorem wrap_inR (x : Int) (h1 : -9223372036854775808 ≤ x) (h2 : x ≤ 9223372036854775807) : IntKind.i64.wrap x = x := by
  simp [IntKind.wrap, IntKind.bits, IntKind.signed]
  omega
theorem ints_cells {w : World} {a : Option Addr} {n c : Nat} {L : List Int} (h : IntsAt w (.slice a n c) L) : n = L.length ∧ ∀ k, k < L.length → ∃ b off, a = some ⟨b, off, none⟩ ∧ b < w.heap.size ∧ w.cell? ⟨b, off + k, none⟩ = some (.int .i64 (nth L k)) := by
  obtain ⟨a', c', e, h⟩ := h
  injection e with e1 e2 e3
  subst e1
  refine ⟨e2, fun k hk => ?_⟩
  rcases h with rfl | ⟨b, off, rfl, hb, hc⟩
  · simp at hk
  · exact ⟨b, off, rfl, hb, hc k hk⟩
set_option maxRecDepth 100000 in
set_option maxHeartbeats 4000000 in
theorem begin_any (v u : Value) (R : List Gl) (L : List Int) (w : World) (hv : GA w v R) (hu : IntsAt w u L) (hR : R.length ≤ 1048576) (hL : L.length ≤ 1048576) :
    Calls Try.prog 64 #[v, u] w fun e w' => e = .returned (.bool (atq R 0 L)) ∧ w' = w := by
  obtain ⟨a, c, rfl, hf⟩ := hv.form
  obtain ⟨a2, c2, rfl⟩ := ints_form hu
  have HV := hide hf
  have HU := hide (ints_cells hu).2
  clear hv hu hf
  by_cases h : R.length < L.length
  · have h' : (R.length : Int) < (L.length : Int) := by omega
    have HE := hide (atq_long (G := R) (o := 0) (L := L) (by omega))
    generalize atq R 0 L = Z at *
    go_enter Try.func64, Try.ntmps64
    go_wp2
    go_ret
    exact ⟨by rw [unhide HE]; rfl, rfl⟩
  have h' : ¬ (R.length : Int) < (L.length : Int) := by omega
  have HBad := hide (fun j hj e => atq_bad (G := R) (o := 0) (L := L) (j := j) hj e)
  have HGood := hide (fun e => atq_good (G := R) (o := 0) (L := L) (by omega) e)
  generalize atq R 0 L = Z at *
  go_enter Try.func64, Try.ntmps64
  go_wp2
  go_loopw [14] (fun i wr => ∃ k : Nat, k ≤ L.length ∧ i = .int .i64 k ∧ Hid (bwk R 0 L k = true) ∧ wr = w) (fun i _ => L.length - (intOf i).toNat)
  case atStart => exact ⟨0, Nat.zero_le _, rfl, hide rfl, rfl⟩
  case round =>
    obtain ⟨k, hk, rfl, HK, rfl⟩ := hrel
    by_cases hlt : k < L.length
    · have hlt' : (k : Int) < (L.length : Int) := by omega
      have hltR : (k : Int) < (R.length : Int) := by omega
      obtain ⟨b, off, rfl, _, c0, _⟩ := (unhide HV) k (by omega)
      obtain ⟨b2, o2, rfl, _, d0⟩ := (unhide HU) k hlt
      have hB := (unhide HBad) k hlt
      have hG : Hid (((gat R k).1 == nth L k) = true → bwk R 0 L (k + 1) = true) := hide (fun e => by
        unfold bwk
        rw [unhide HK, Nat.zero_add, e]; rfl)
      rw [Nat.zero_add] at hB
      have HB2 := hide hB
      clear hB
      generalize (gat R k).1 = x at *
      generalize nth L k = y at *
      by_cases e : x = y
      · have e1 : (x != y) = false := by simp [e]
        have HK2 := hide ((unhide hG) (by simp [e]))
        clear e hG HB2
        go_wp2
        go_roundw
        case rel => exact ⟨k + 1, by omega, by go_num, HK2, trivial⟩
        case measure => simp [intOf]; omega
      · have e1 : (x != y) = true := by simp [e]
        have HZ := hide ((unhide HB2) (by simp [e]))
        clear e hG HB2
        go_wp2
        go_ret
        exact ⟨by rw [unhide HZ]; rfl, rfl⟩
    · obtain rfl : k = L.length := by omega
      have HZ := hide ((unhide HGood) (unhide HK))
      go_wp2
      go_ret
      exact ⟨by rw [unhide HZ]; rfl, rfl⟩
theorem l10At_neg (v u : Value) (R : List Gl) (L : List Int) (at0 : Int) (w : World) (hv : GA w v R) (hu : IntsAt w u L) (h : at0 < 0) :
    Calls Try.prog 60 #[v, .int .i64 at0, u] w fun e w' => e = .returned (.bool false) ∧ w' = w := by
  obtain ⟨a, c, rfl, hf⟩ := hv.form
  obtain ⟨a2, c2, rfl⟩ := ints_form hu
  clear hv hu hf
  go_enter Try.func60, Try.ntmps60
  go_wp2
  go_ret
  exact ⟨rfl, rfl⟩
set_option maxRecDepth 100000 in
set_option maxHeartbeats 4000000 in
theorem l10At_any (v u : Value) (R : List Gl) (L : List Int) (o : Nat) (w : World) (hv : GA w v R) (hu : IntsAt w u L) (hR : R.length ≤ 1048576) (hL : L.length ≤ 1048576) (ho : o ≤ 2097152) :
    Calls Try.prog 60 #[v, .int .i64 o, u] w fun e w' => e = .returned (.bool (atq R o L)) ∧ Below w.heap.size w w' := by
  obtain ⟨a, c, rfl, hf⟩ := hv.form
  obtain ⟨a2, c2, rfl⟩ := ints_form hu
  have HV := hide hf
  have HU := hide (ints_cells hu).2
  clear hv hu hf
  have h0 : ¬ (o : Int) < 0 := by omega
  by_cases h : R.length < o + L.length
  · have h' : (R.length : Int) < (o : Int) + (L.length : Int) := by omega
    have HE := hide (atq_long (G := R) (o := o) (L := L) (by omega))
    generalize atq R o L = Z at *
    go_enter Try.func60, Try.ntmps60
    go_wp2
    go_ret
    exact ⟨by rw [unhide HE]; rfl, Below.refl _ _⟩
  have h' : ¬ (R.length : Int) < (o : Int) + (L.length : Int) := by omega
  have HBad := hide (fun j hj e => atq_bad (G := R) (o := o) (L := L) (j := j) hj e)
  have HGood := hide (fun e => atq_good (G := R) (o := o) (L := L) (by omega) e)
  generalize atq R o L = Z at *
  go_enter Try.func60, Try.ntmps60
  go_wp2
  go_loopw [7] (fun i wr => ∃ k : Nat, k ≤ L.length ∧ i = .int .i64 k ∧ Hid (bwk R o L k = true) ∧ Hid (Below w.heap.size w wr)) (fun i _ => L.length - (intOf i).toNat)
  case atStart => exact ⟨0, Nat.zero_le _, rfl, hide rfl, hide (Below.refl _ _)⟩
  case round =>
    obtain ⟨k, hk, rfl, HK, HB⟩ := hrel
    by_cases hlt : k < L.length
    · have hlt' : (k : Int) < (L.length : Int) := by omega
      obtain ⟨q, hq⟩ : ∃ q, q = o + k := ⟨_, rfl⟩
      have hqq : (o : Int) + (k : Int) = (q : Int) := by omega
      have hq2 : (q : Int) < (R.length : Int) := by omega
      have hq3 : (0 : Int) ≤ (q : Int) := by omega
      have hk3 : (0 : Int) ≤ (k : Int) := by omega
      have hwr : IntKind.i64.wrap (q : Int) = (q : Int) := wrap_inR _ (by omega) (by omega)
      obtain ⟨b, off, rfl, hb, c0, _⟩ := (unhide HV) q (by omega)
      obtain ⟨b2, o2, rfl, hb2, d0⟩ := (unhide HU) k hlt
      have c1 := ((unhide HB).cell (p := ⟨b, off + q * 5, none⟩) hb).trans c0
      have d1 := ((unhide HB).cell (p := ⟨b2, o2 + k, none⟩) hb2).trans d0
      have hB := (unhide HBad) k hlt
      rw [← hq] at hB
      have hG : Hid (((gat R q).1 == nth L k) = true → bwk R o L (k + 1) = true) := hide (fun e => by
        unfold bwk
        rw [unhide HK, ← hq, e]; rfl)
      have HB2 := hide hB
      clear hB c0 d0 hq
      generalize (gat R q).1 = x at *
      generalize nth L k = y at *
      by_cases e : x = y
      · have e1 : (x != y) = false := by simp [e]
        have HK2 := hide ((unhide hG) (by simp [e]))
        clear e hG HB2
        go_wp2
        go_quiet (fail)
        go_wp2
        go_roundw
        case rel => exact ⟨k + 1, by omega, by go_num, HK2, hide (bdrew (unhide HB) _)⟩
        case measure => simp [intOf]; omega
      · have e1 : (x != y) = true := by simp [e]
        have HZ := hide ((unhide HB2) (by simp [e]))
        clear e hG HB2
        go_wp2
        go_quiet (fail)
        go_wp2
        go_ret
        exact ⟨by rw [unhide HZ]; rfl, bdrew (unhide HB) _⟩
    · obtain rfl : k = L.length := by omega
      have HZ := hide ((unhide HGood) (unhide HK))
      go_wp2
      go_ret
      exact ⟨by rw [unhide HZ]; rfl, unhide HB⟩
/-- The row of what is done: of one's own since w0. -/
structure GD (w0 w : World) (va : Option Addr) (m vc : Nat) (D : List Gl) : Prop where
  len : m = D.length
  som : ∃ g, va = some ⟨g, 0, none⟩
  row : w.ownsRow w0.heap.size 71 5 (.slice va m vc) m ((flt D).map (Value.int .i64))
  bel : Below w0.heap.size w0 w
theorem GD.gr {w0 w : World} {va : Option Addr} {m vc : Nat} {D : List Gl} (h : GD w0 w va m vc D) : GR w w0.heap.size (.slice va m vc) D := by
  have := h.row
  rw [h.len] at this ⊢
  exact this
theorem GD.below {w0 w w' : World} {va : Option Addr} {m vc : Nat} {D : List Gl} (h : GD w0 w va m vc D) (hb : Below w.heap.size w w') : GD w0 w' va m vc D := ⟨h.len, h.som, ownsRow_below h.row hb, h.bel.trans (hb.mono h.bel.size)⟩
theorem GD.ow {w0 w : World} {va : Option Addr} {m vc : Nat} {D : List Gl} (h : GD w0 w va m vc D) : ∀ k, (Value.slice va m vc).ownBlock = some k → w0.heap.size ≤ k ∧ k < w.heap.size := fun k hk => World.ownsRow.lt h.row k hk
theorem GD.cap {w0 w : World} {va : Option Addr} {m vc : Nat} {D : List Gl} (h : GD w0 w va m vc D) : m ≤ vc := by
  rcases h.row.2 with ⟨hv, h0⟩ | ⟨g, cap, cur, hv, _, _, hc, _⟩
  · injection hv with _ _ e3; omega
  · injection hv with _ _ e3; omega
def cv (g : Gl) : List Value := [.int .i64 g.1, .int .i64 g.2.1, .int .i64 g.2.2.1, .int .i64 g.2.2.2.1, .int .i64 g.2.2.2.2]
theorem own_form {w : World} {B : Nat} {e : TypeId} {s n : Nat} {v : Value} {xs : List Value} (h : w.ownsRow B e s v n xs) : ∃ a c, v = .slice a n c := by
  rcases h.2 with ⟨hv, h0⟩ | ⟨g, cap, cur, hv, hg, _⟩
  · subst h0; exact ⟨_, _, hv⟩
  · exact ⟨_, _, hv⟩
theorem GD.app {w0 w w3 : World} {o : Obj} {va : Option Addr} {m vc : Nat} {D : List Gl} {v' : Value} {g : Gl} (h : GD w0 w va m vc D) (hown : w3.ownsRow w0.heap.size 71 5 v' (m + 1) ((flt D).map (Value.int .i64) ++ cv g)) (hgrow : (w.alloc o).grownBy w3 (Value.slice va m vc).ownBlock) :
    ∃ va' vc', v' = .slice va' (m + 1) vc' ∧ GD w0 w3 va' (m + 1) vc' (D ++ [g]) := by
  obtain ⟨g', c, rfl⟩ : ∃ g' c, v' = .slice (some ⟨g', 0, none⟩) (m + 1) c := by
    rcases hown.2 with ⟨_, h0⟩ | ⟨g', cap, cur, hv, hg, _⟩
    · omega
    · exact ⟨_, _, hv⟩
  refine ⟨_, c, rfl, by rw [List.length_append, h.len]; rfl, ⟨_, rfl⟩, ?_, ?_⟩
  · rw [flt_app, flt_one, List.map_append]
    exact hown
  · have b1 := h.bel.alloc h.bel.size o
    exact b1.trans ((Below.refl _ _).grown hgrow b1.size (fun k hk => (h.ow k hk).1))
theorem five_cells {w : World} {q : Nat} {a b c d e : Value} {T : TypeId} (h : w.heap[q]? = some (.cells #[a, b, c, d, e] T (0, 0))) : w.cell? ⟨q, 0, none⟩ = some a ∧ w.cell? ⟨q, 1, none⟩ = some b ∧ w.cell? ⟨q, 2, none⟩ = some c ∧ w.cell? ⟨q, 3, none⟩ = some d ∧ w.cell? ⟨q, 4, none⟩ = some e := by
  simp [World.cell?, h]
theorem five_new (w : World) (g : Gl) : ∀ j u, (cv g)[j]? = some u → (w.alloc (.cells #[.int .i64 g.1, .int .i64 g.2.1, .int .i64 g.2.2.1, .int .i64 g.2.2.2.1, .int .i64 g.2.2.2.2] 71)).cell? ((⟨w.heap.size, 0, none⟩ : Addr).add j) = some u := by
  intro j u h
  have hb := heap_new w (.cells #[.int .i64 g.1, .int .i64 g.2.1, .int .i64 g.2.2.1, .int .i64 g.2.2.2.1, .int .i64 g.2.2.2.2] 71)
  have hj : j < 5 := by
    have := (List.getElem?_eq_some_iff.1 h).1
    simpa [cv] using this
  obtain ⟨c0, c1, c2, c3, c4⟩ := five_cells hb
  have hj2 : j = 0 ∨ j = 1 ∨ j = 2 ∨ j = 3 ∨ j = 4 := by omega
  have ea : (⟨w.heap.size, 0, none⟩ : Addr).add j = ⟨w.heap.size, j, none⟩ := by
    simp [Addr.add]
    omega
  rw [ea]
  rcases hj2 with rfl | rfl | rfl | rfl | rfl <;> simp [cv] at h <;> subst h
  · exact c0
  · exact c1
  · exact c2
  · exact c3
  · exact c4
theorem five_one (g : Gl) : ∀ u ∈ cv g, u.oneCell' = true := by
  intro u hu
  simp [cv] at hu
  rcases hu with rfl | rfl | rfl | rfl | rfl <;> rfl
/-- What is done when k of the glyphs are put. -/
def ptk (D : List Gl) (P : List Int) (g : Gl) (k : Nat) : List Gl := D ++ (P.take k).map (mkg g)
theorem map_take {P : List Int} {k : Nat} (hk : k < P.length) (g : Gl) (D : List Gl) : ptk D P g k ++ [mkg g (nth P k)] = ptk D P g (k + 1) := by
  unfold ptk
  rw [List.take_succ_eq_append_getElem hk, List.map_append, List.append_assoc]
  have e2 : nth P k = P[k] := by simp [nth, List.getD, hk]
  rw [e2]
  rfl
set_option maxRecDepth 100000 in
set_option maxHeartbeats 8000000 in
theorem appendPut_any (w0 w : World) (va : Option Addr) (m vc : Nat) (D : List Gl) (u : Value) (P : List Int) (x f c d e : Int) (hD : GD w0 w va m vc D) (hu : IntsAt w0 u P) (hm : m ≤ 1048576) (hP : P.length ≤ 8) :
    Calls Try.prog 62 #[.slice va m vc, u, .agg #[.int .i64 x, .int .i64 f, .int .i64 c, .int .i64 d, .int .i64 e]] w fun r w' => ∃ va' vc', r = .returned (.slice va' (m + P.length) vc') ∧ GD w0 w' va' (m + P.length) vc' (D ++ P.map (mkg (x, f, c, d, e))) := by
  obtain ⟨i0, hi, hz0, hz1, hz2⟩ := info_parts infoG
  obtain ⟨a2, c2, rfl⟩ := ints_form hu
  have HU := hide (ints_cells hu).2
  have HD1 := hide (hD.below ((Below.refl w.heap.size w).alloc (Nat.le_refl _) (.cells #[.int .i64 x, .int .i64 f, .int .i64 c, .int .i64 d, .int .i64 e] 71)))
  have HQ := hide (heap_new w (.cells #[.int .i64 x, .int .i64 f, .int .i64 c, .int .i64 d, .int .i64 e] 71))
  have HN : Hid (∀ k, (Value.slice va m vc).ownBlock = some k → k ≠ w.heap.size) := hide (fun k hk => by have := (hD.ow k hk).2; omega)
  have hw0 := hD.bel.size
  clear hD hu
  go_enter Try.func62, Try.ntmps62
  go_wp2
  go_loopw [0, 11] (fun dv i wr => ∃ (k mk : Nat) (va' : Option Addr) (vc' : Nat), k ≤ P.length ∧ Hid (mk = m + k) ∧ i = .int .i64 k ∧ dv = .slice va' mk vc' ∧ Hid (GD w0 wr va' mk vc' (ptk D P (x, f, c, d, e) k)) ∧ Hid (wr.heap[w.heap.size]? = some (.cells #[.int .i64 x, .int .i64 f, .int .i64 c, .int .i64 d, .int .i64 e] 71 (0, 0))) ∧ Hid (∀ k, (Value.slice va' mk vc').ownBlock = some k → k ≠ w.heap.size)) (fun _ i _ => P.length - (intOf i).toNat)
  case atStart => exact ⟨0, m, va, vc, Nat.zero_le _, hide rfl, rfl, rfl, by have := unhide HD1; unfold ptk; rw [List.take_zero, List.map_nil, List.append_nil]; exact hide this, HQ, HN⟩
  case round =>
    obtain ⟨k, mk, va', vc', hk, hmk, rfl, rfl, HG, HQ2, HN2⟩ := hrel
    clear HD1 HQ HN
    by_cases hlt : k < P.length
    · have hlt' : (k : Int) < (P.length : Int) := by omega
      obtain ⟨b2, o2, rfl, hb2, d0⟩ := (unhide HU) k hlt
      have d1 := ((unhide HG).bel.cell (p := ⟨b2, o2 + k, none⟩) hb2).trans d0
      obtain ⟨_, y1, y2, _, _⟩ := five_cells (unhide HQ2)
      have hq : w.heap.size < wr.heap.size := (Array.getElem?_eq_some_iff.1 (unhide HQ2)).1
      have HT := hide (map_take hlt (x, f, c, d, e) D)
      have hwr := (unhide HG).bel.size
      have hmk2 : mk ≤ 1048576 + 8 := by have := unhide hmk; omega
      have HM2 : Hid (mk + 1 = m + (k + 1)) := hide (by have := unhide hmk; omega)
      clear hmk
      clear d0
      generalize nth P k = y at *
      go_wp2_with (at_builtin; go_loud (refine wpList_appG _ rfl _ _ 40 rfl w0.heap.size 71 i0 (.agg #[.int .i64 0, .int .i64 0, .int .i64 0, .int .i64 0, .int .i64 0]) 5 40 Try.underlying40 hi hz0 hz1 hz2 rfl (by decide) _ _ _ rfl (World.ownsRow.alloc (unhide HG).row _) ⟨wr.heap.size, 0, none⟩ 1 1 (cv (y, f, c, 0, 0)) rfl rfl (five_new wr (y, f, c, 0, 0)) (five_one _) (by unfold maxLen; omega) (by omega) (by simp; omega) ?_))
      intro v' w3 hown' hgrow hblk
      obtain ⟨va3, vc3, rfl, HG3⟩ := (unhide HG).app hown' hgrow
      have HG4 : Hid (GD w0 w3 va3 (mk + 1) vc3 (ptk D P (x, f, c, d, e) (k + 1))) := hide (by rw [← unhide HT]; exact HG3)
      have HQ4 : Hid (w3.heap[w.heap.size]? = some (.cells #[.int .i64 x, .int .i64 f, .int .i64 c, .int .i64 d, .int .i64 e] 71 (0, 0))) := hide ((hgrow.block w.heap.size (by simp; omega) (fun e => (unhide HN2) w.heap.size e.symm rfl)).trans ((Below.heap_alloc _ _ _ hq).trans (unhide HQ2)))
      have HN4 : Hid (∀ j, (Value.slice va3 (mk + 1) vc3).ownBlock = some j → j ≠ w.heap.size) := hide (fun j hj => by
        rcases hblk j hj with e | e
        · exact (unhide HN2) j e
        · have e2 : wr.heap.size ≤ j := Nat.le_trans (by simp) e
          omega)
      clear HG HG3 hown' hgrow hblk HQ2 HN2 HT
      go_wp2
      go_roundw
      case rel => exact ⟨k + 1, mk + 1, va3, vc3, by omega, HM2, by go_num, rfl, HG4, HQ4, HN4⟩
      case measure => simp [intOf]; omega
    · obtain rfl : k = P.length := by omega
      have HG4 : Hid (GD w0 wr va' (m + P.length) vc' (D ++ P.map (mkg (x, f, c, d, e)))) := hide (by have := unhide HG; unfold ptk at this; rw [List.take_length, unhide hmk] at this; exact this)
      have hmk2 := unhide hmk
      subst hmk2
      clear hmk
      go_wp2
      go_ret
      exact ⟨_, _, rfl, unhide HG4⟩
end Go.Proofs.Ytccnjjkechdknaa.Rul
