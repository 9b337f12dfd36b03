/- A row of numbers as spans: the specification. -/
import Derived.Test.YtfcabmpklcmbgaaVlsP
import Derived.Test.YtfcabmpklcmbgaaUnlA
import Derived.Test.YtfcabmpklcmbgaaSpnE
namespace Go.Proofs.Ytfcabmpklcmbgaa
open Go.RowKit
theorem three_new (w : World) (x y z : Value) (t : TypeId) : ∀ j u, [x, y, z][j]? = some u → (w.alloc (.cells #[x, y, z] t)).cell? ((⟨w.heap.size, 0, none⟩ : Addr).add j) = some u := by
  intro j u hj
  match j, hj with
  | 0, hj => simp at hj; subst hj; simp [Addr.add]
  | 1, hj => simp at hj; subst hj; simp [Addr.add]
  | 2, hj => simp at hj; subst hj; simp [Addr.add]
  | (j + 3), hj => simp at hj
theorem three_one (x y z : Int) : ∀ u ∈ [Value.int .i64 x, Value.int .i64 y, Value.int .i64 z], u.oneCell' = true := by
  intro u hu; simp at hu; rcases hu with rfl | rfl | rfl <;> rfl
/-- One span more. -/
theorem sp_step {w wr w3 : World} {v v' : Value} {L : List Sp} {x y z : Int} {o : Obj} (hb : Below w.heap.size w wr) (h : SpRow wr w.heap.size v L)
    (ho : w3.ownsRow w.heap.size 38 3 v' (L.length + 1) (cells L ++ [.int .i64 x, .int .i64 y, .int .i64 z])) (hg : (wr.alloc o).grownBy w3 v.ownBlock) :
    SpRow w3 w.heap.size v' (L ++ [(x, y, z)]) ∧ Below w.heap.size w w3 := by
  refine ⟨?_, (hb.alloc hb.size o).grown hg (by have := hb.size; simp; omega) (fun j hj => (h.lt j hj).1)⟩
  unfold SpRow
  rw [cells_snoc, List.length_append]
  exact ho
theorem cells_last (L : List Sp) (r : Sp) (j : Nat) : (cells (L ++ [r]))[L.length * 3 + j]? = [Value.int .i64 r.1, .int .i64 r.2.1, .int .i64 r.2.2][j]? := by
  rw [cells_snoc, List.getElem?_append_right (by rw [cells_len]; omega), cells_len, Nat.add_sub_cancel_left]
theorem cells_upd (L : List Sp) (x y u z : Int) : (cells (L ++ [(x, y, u)])).set (L.length * 3 + 1) (.int .i64 z) = cells (L ++ [(x, z, u)]) := by
  rw [cells_snoc, cells_snoc, List.set_append_right _ _ (by rw [cells_len]; omega), cells_len, Nat.add_sub_cancel_left]
  rfl
theorem sp_cell {w : World} {B g c : Nat} {L : List Sp} {r : Sp} (h : SpRow w B (.slice (some ⟨g, 0, none⟩) (L.length + 1) c) (L ++ [r])) (j : Nat) (hj : j < 3) : w.cell? ⟨g, L.length * 3 + j, none⟩ = [Value.int .i64 r.1, .int .i64 r.2.1, .int .i64 r.2.2][j]? ∧ w.frozen? ⟨g, L.length * 3 + j, none⟩ = false := by
  have h' : w.ownsRow B 38 3 (.slice (some ⟨g, 0, none⟩) (L.length + 1) c) (L.length + 1) (cells (L ++ [r])) := by
    have : (L ++ [r]).length = L.length + 1 := by simp
    unfold SpRow at h
    rw [this] at h
    exact h
  exact ⟨(h'.cellAt (L.length * 3 + j) (by omega)).trans (cells_last L r j), h'.frozenAt _⟩
theorem sp_upd {w wr : World} {g c : Nat} {L : List Sp} {x y u : Int} (hb : Below w.heap.size w wr) (h : SpRow wr w.heap.size (.slice (some ⟨g, 0, none⟩) (L.length + 1) c) (L ++ [(x, y, u)])) (hg : w.heap.size ≤ g) (z : Int) :
    SpRow (wr.setCell ⟨g, L.length * 3 + 1, none⟩ (.int .i64 z)) w.heap.size (.slice (some ⟨g, 0, none⟩) (L.length + 1) c) (L ++ [(x, z, u)]) ∧ Below w.heap.size w (wr.setCell ⟨g, L.length * 3 + 1, none⟩ (.int .i64 z)) := by
  have hl : ∀ r : Sp, (L ++ [r]).length = L.length + 1 := fun r => by simp
  refine ⟨?_, hb.setCell (p := ⟨g, L.length * 3 + 1, none⟩) hg _⟩
  have h1 := h
  unfold SpRow at h1
  rw [hl] at h1
  have hst := (World.ownsRow.stored h1 (L.length * 3 + 1) (.int .i64 z)).1
  rw [cells_upd] at hst
  unfold SpRow
  rw [hl]
  exact hst
def fnum (l : List Int) (p : Int) : Int := nth l p.toNat
theorem fnum_nat (l : List Int) (k : Nat) : fnum l (k : Int) = nth l k := by unfold fnum; rw [Int.toNat_natCast]
set_option maxHeartbeats 4000000 in
set_option maxRecDepth 100000 in
theorem l04Spans_any (v : Value) (l : List Int) (w : World) (h : DatAt w w.heap.size v l) (hl : l.length ≤ 1048576) :
    Calls Try.prog 33 #[v] w fun e w' => ∃ (sv : Value) (L : List Sp), e = .returned sv ∧ RunsR (fnum l) L.reverse l.length ∧ L.length ≤ l.length ∧ SpRow w' w.heap.size sv L ∧ Below w.heap.size w w' := by
  obtain ⟨i0, hi, hz0, hz1, hz2⟩ := info_parts infoSp
  have HD := hide h
  obtain ⟨a, c, rfl, _, _⟩ := h
  have O0 : Hid (SpRow (w.alloc (.cells #[] 38)) w.heap.size (.slice (some ⟨w.heap.size, 0, none⟩) 0 0) []) := hide (World.ownsRow_lit w #[] 0 (Nat.le_refl _) (by unfold maxLen; omega) rfl)
  have B0 : Hid (Below w.heap.size w (w.alloc (.cells #[] 38))) := hide ((Below.refl _ _).alloc (Nat.le_refl _) _)
  go_enter Try.func33, Try.ntmps33
  go_wp2
  go_loopw [3, 4] (fun sv pv wr => ∃ (L : List Sp) (k : Nat), k ≤ l.length ∧ L.length ≤ k ∧ pv = .int .i64 k ∧ Hid (SpRow wr w.heap.size sv L) ∧ Hid (Below w.heap.size w wr) ∧ Hid (RunsR (fnum l) L.reverse k)) (fun _ p _ => l.length - (intOf p).toNat)
  case atStart => exact ⟨[], 0, Nat.zero_le _, by simp, rfl, O0, B0, hide rfl⟩
  case round =>
    obtain ⟨L, k, hk, hLk, rfl, HO, HB, HR⟩ := hrel
    clear O0 B0
    by_cases hlt : k < l.length
    · have hlt' : (k : Int) < (l.length : Int) := by omega
      obtain ⟨a', cap, ev, _, hx⟩ := unhide HD
      simp only [Value.slice.injEq] at ev
      obtain ⟨rfl, _, rfl⟩ := ev
      rcases hx with e | ⟨b, off, rfl, hbl, hcell⟩
      · rw [e] at hlt; simp at hlt
      have d0 := ((unhide HB).cell (p := ⟨b, off + k, none⟩) hbl).trans (hcell k hlt)
      clear hcell
      have d0a := cell_alloc d0
      have HF := hide (fnum_nat l k)
      have hBs := (unhide HB).size
      rcases List.eq_nil_or_concat L with rfl | ⟨L', ⟨x, y, u⟩, rfl⟩
      · obtain ⟨sa, sc, hsv, _⟩ := (unhide HO).form
        have hll : ([] : List Sp).length = 0 := rfl
        rw [hll] at hsv
        subst hsv
        clear hll
        have HR' : Hid (RunsR (fnum l) ([] ++ [((k : Int), (k : Int), nth l k)]).reverse ((k + 1 : Nat) : Int)) := hide (runs_other (unhide HR) (unhide HF) (headNe_nil _))
        clear HR HF
        generalize nth l k = z at *
        go_upto_region 5 with fail
        go_quiet (fail)
        have HOq : Hid (SpRow (wr.drewN nq) w.heap.size (.slice sa 0 sc) []) := HO
        have HBq : Hid (Below w.heap.size w (wr.drewN nq)) := hide (bdrew (unhide HB) _)
        have dq : (wr.drewN nq).cell? ⟨b, off + k, none⟩ = some (.int .i64 z) := d0
        have hBq := (unhide HBq).size
        clear HO HB d0 d0a
        generalize wr.drewN nq = wq at *
        have dqa := cell_alloc dq
        go_wp2_with (at_builtin; refine wpList_append_own _ rfl _ _ 23 rfl w.heap.size 38 i0 (.agg #[.int .i64 0, .int .i64 0, .int .i64 0]) 3 24 Try.underlying23 hi hz0 hz1 hz2 rfl (by decide) _ _ _ rfl (World.ownsRow.alloc (unhide HOq) _) ⟨wq.heap.size, 0, none⟩ 1 1 [.int .i64 k, .int .i64 k, .int .i64 z] rfl rfl ?c1 ?c2 ?c3 ?c4 ?c5 ?_)
        case c1 => exact three_new _ _ _ _ _
        case c2 => exact three_one _ _ _
        case c3 => unfold maxLen; simp
        case c4 => simp
        case c5 => simp; omega
        intro v' w3 hown' hgrow _
        have R := hide (sp_step (unhide HBq) (unhide HOq) hown' hgrow)
        clear hown' hgrow
        go_wp2
        go_roundw
        case rel => exact ⟨[] ++ [((k : Int), (k : Int), z)], k + 1, by omega, by simp, by go_num, hide (unhide R).1, hide (unhide R).2, HR'⟩
        case measure => simp [intOf]; omega
      · rw [List.concat_eq_append] at *
        obtain ⟨sa, sc, hsv, hg⟩ := (unhide HO).form
        obtain ⟨g, rfl, hgB, hgl⟩ := hg (by simp)
        have hll : (L' ++ [(x, y, u)]).length = L'.length + 1 := by simp
        rw [hll] at hsv hLk
        subst hsv
        obtain ⟨c1, f1⟩ := sp_cell (unhide HO) 1 (by omega)
        obtain ⟨c2, f2⟩ := sp_cell (unhide HO) 2 (by omega)
        simp only [List.getElem?_cons_succ, List.getElem?_cons_zero] at c1 c2
        have hM0 : (0 : Int) < (L'.length : Int) + 1 := by omega
        have hMw : IntKind.i64.wrap (L'.length : Int) = (L'.length : Int) := wrap_in _ (by omega) (by omega)
        have hMi : (L'.length : Int) < (L'.length : Int) + 1 := by omega
        by_cases huv : u = nth l k
        · have HS := hide (sp_upd (unhide HB) (unhide HO) hgB (k : Int))
          have HR' : Hid (RunsR (fnum l) (L' ++ [(x, (k : Int), u)]).reverse ((k + 1 : Nat) : Int)) := hide (by
            have h0 := unhide HR
            rw [List.reverse_append] at h0 ⊢
            exact runs_same h0 ((unhide HF).trans huv.symm))
          have huv' : (u == u) = true := by simp
          rw [← huv] at d0 d0a
          clear HR HF huv
          go_upto_region 5 with fail
          go_quiet (fail)
          go_wp2
          go_roundw
          case rel => exact ⟨L' ++ [(x, (k : Int), u)], k + 1, by omega, by simp; omega, by go_num, hide (unhide HS).1, hide (bdrew (unhide HS).2 _), HR'⟩
          case measure => simp [intOf]; omega
        · have HR' : Hid (RunsR (fnum l) ((L' ++ [(x, y, u)]) ++ [((k : Int), (k : Int), nth l k)]).reverse ((k + 1 : Nat) : Int)) := hide (by
            rw [List.reverse_append]
            exact runs_other (unhide HR) (unhide HF) (by rw [List.reverse_append]; exact headNe_cons _ _ _ huv))
          have huv' : (u == nth l k) = false := by simpa using huv
          clear HR HF huv
          generalize nth l k = z at *
          go_upto_region 5 with fail
          go_quiet (fail)
          have HOq : Hid (SpRow (wr.drewN nq) w.heap.size (.slice (some ⟨g, 0, none⟩) (L'.length + 1) sc) (L' ++ [(x, y, u)])) := HO
          have HBq : Hid (Below w.heap.size w (wr.drewN nq)) := hide (bdrew (unhide HB) _)
          have dq : (wr.drewN nq).cell? ⟨b, off + k, none⟩ = some (.int .i64 z) := d0
          have hBq := (unhide HBq).size
          clear HO HB d0 d0a c1 c2 f1 f2
          generalize wr.drewN nq = wq at *
          have dqa := cell_alloc dq
          go_wp2_with (at_builtin; refine wpList_append_own _ rfl _ _ 23 rfl w.heap.size 38 i0 (.agg #[.int .i64 0, .int .i64 0, .int .i64 0]) 3 24 Try.underlying23 hi hz0 hz1 hz2 rfl (by decide) _ _ _ rfl (World.ownsRow.alloc (unhide HOq) _) ⟨wq.heap.size, 0, none⟩ 1 1 [.int .i64 k, .int .i64 k, .int .i64 z] rfl rfl ?c1 ?c2 ?c3 ?c4 ?c5 ?_)
          case c1 => exact three_new _ _ _ _ _
          case c2 => exact three_one _ _ _
          case c3 => unfold maxLen; simp; omega
          case c4 => simp; omega
          case c5 => simp; omega
          intro v' w3 hown' hgrow _
          rw [← hll] at hown'
          have R := hide (sp_step (unhide HBq) (unhide HOq) hown' hgrow)
          clear hown' hgrow
          go_wp2
          go_roundw
          case rel => exact ⟨(L' ++ [(x, y, u)]) ++ [((k : Int), (k : Int), z)], k + 1, by omega, by simp; omega, by go_num, hide (unhide R).1, hide (unhide R).2, HR'⟩
          case measure => simp [intOf]; omega
    · obtain rfl : k = l.length := by omega
      go_wp2
      go_ret
      exact ⟨_, _, rfl, unhide HR, hLk, unhide HO, unhide HB⟩
end Go.Proofs.Ytfcabmpklcmbgaa
