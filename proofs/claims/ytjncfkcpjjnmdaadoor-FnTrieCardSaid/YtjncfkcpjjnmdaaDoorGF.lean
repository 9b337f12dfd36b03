/- Several texts in one. -/
import Derived.Test.YtjncfkcpjjnmdaaDoorGA
import Derived.Test.YtjncfkcpjjnmdaaDoorUnlA
import Derived.Test.YtjncfkcpjjnmdaaDoorGD
import Derived.Test.YtjncfkcpjjnmdaaDoorDSource
/- Values of points by spans, and rows told by a function: no Go in sight. -/
namespace Go.Proofs.YtjncfkcpjjnmdaaDoor
/-- What the first k spans tell of a point, the last one that has it first; else other. -/
def pvU (L : List Sp) (o : Int) : Nat → Int → Int
  | 0, _ => o
  | k + 1, p => if (gx L k).1 ≤ p ∧ p ≤ (gx L k).2.1 then (gx L k).2.2 else pvU L o k p
def pv (L : List Sp) (o : Int) (p : Int) : Int := pvU L o L.length p
theorem pvU_in {L : List Sp} {o : Int} {k : Nat} {p : Int} (h : (gx L k).1 ≤ p ∧ p ≤ (gx L k).2.1) : pvU L o (k + 1) p = (gx L k).2.2 := if_pos h
theorem pvU_out {L : List Sp} {o : Int} {k : Nat} {p : Int} (h : ¬ ((gx L k).1 ≤ p ∧ p ≤ (gx L k).2.1)) : pvU L o (k + 1) p = pvU L o k p := if_neg h
/-- The row of n numbers that a function tells. -/
def tabF (n : Nat) (F : Nat → Int) : List Int := (List.range n).map F
theorem tabF_len (n : Nat) (F : Nat → Int) : (tabF n F).length = n := by simp [tabF]
theorem tabF_at (n : Nat) (F : Nat → Int) (i : Nat) (h : i < n) : (tabF n F).getD i 0 = F i := by simp [tabF, List.getD, h]
theorem tabF_ext {n : Nat} {F G : Nat → Int} (h : ∀ i, i < n → F i = G i) : tabF n F = tabF n G := by
  unfold tabF
  apply List.map_congr_left
  intro i hi
  exact h i (List.mem_range.1 hi)
def upd (F : Nat → Int) (p : Nat) (x : Int) : Nat → Int := fun i => if i = p then x else F i
theorem tabF_set (n : Nat) (F : Nat → Int) (p : Nat) (x : Int) (f : Int → Value) (_ : p < n) : ((tabF n F).map f).set p (f x) = (tabF n (upd F p x)).map f := by
  rw [← List.map_set]
  congr 1
  apply List.ext_getElem
  · simp [tabF]
  · intro i h1 h2
    rw [List.getElem_set]
    simp only [tabF, List.getElem_map, List.getElem_range, upd]
    by_cases e : i = p
    · simp [e]
    · simp [e, Ne.symm e]
theorem tabF_replicate (n : Nat) (x : Int) : tabF n (fun _ => x) = List.replicate n x := by
  unfold tabF
  apply List.ext_getElem
  · simp
  · intro i h1 h2; simp
/-- The row while the k-th span is laid: up to p it is. -/
def laying (L : List Sp) (o : Int) (k : Nat) (p : Int) : Nat → Int := fun q => if (gx L k).1 ≤ (q : Int) ∧ (q : Int) < p then (gx L k).2.2 else pvU L o k q
theorem laying_start (L : List Sp) (o : Int) (k n : Nat) : tabF n (laying L o k (gx L k).1) = tabF n (fun q => pvU L o k q) :=
  tabF_ext fun i _ => if_neg (by omega)
theorem laying_step (L : List Sp) (o : Int) (k n : Nat) (p : Nat) (h1 : (gx L k).1 ≤ (p : Int)) : tabF n (upd (laying L o k p) p (gx L k).2.2) = tabF n (laying L o k ((p : Int) + 1)) := by
  refine tabF_ext fun i _ => ?_
  unfold upd laying
  by_cases e : i = p
  · rw [if_pos e, if_pos (by omega)]
  · rw [if_neg e]
    by_cases h : (gx L k).1 ≤ (i : Int) ∧ (i : Int) < p
    · rw [if_pos h, if_pos (by omega)]
    · rw [if_neg h, if_neg (by omega)]
theorem laying_end (L : List Sp) (o : Int) (k n : Nat) : tabF n (laying L o k ((gx L k).2.1 + 1)) = tabF n (fun q => pvU L o (k + 1) q) := by
  refine tabF_ext fun i _ => ?_
  unfold laying
  by_cases h : (gx L k).1 ≤ (i : Int) ∧ (i : Int) ≤ (gx L k).2.1
  · rw [if_pos (by omega), pvU_in h]
  · rw [if_neg (by omega), pvU_out h]
/-- Spans with the value 1. -/
def ones (L : List Sp) : List Sp := L.map fun r => (r.1, r.2.1, 1)
theorem ones_len (L : List Sp) : (ones L).length = L.length := by simp [ones]
theorem ones_gx (L : List Sp) (i : Nat) (h : i < L.length) : gx (ones L) i = ((gx L i).1, (gx L i).2.1, 1) := by
  simp [gx, ones, List.getD, h]
theorem ones_okFrom : ∀ (L : List Sp) (e : Int), okFrom e (ones L) = okFrom e L
  | [], _ => rfl
  | r :: t, e => by
    have := ones_okFrom t r.2.1
    show (_ && okFrom r.2.1 (ones t)) = _
    rw [this]
    rfl
theorem ones_right (L : List Sp) : right (ones L) = right L := by
  unfold right
  rw [ones_len, ones_okFrom]
theorem pvU_ones (L : List Sp) (p : Int) : ∀ k, k ≤ L.length → pvU (ones L) 0 k p = bI (has (L.take k) p)
  | 0, _ => by simp [pvU, bI, has]
  | k + 1, hk => by
    have ih := pvU_ones L p k (by omega)
    have ht : L.take (k + 1) = L.take k ++ [gx L k] := by
      rw [List.take_succ_eq_append_getElem (by omega)]
      have : gx L k = L[k] := by simp [gx, List.getD, show k < L.length by omega]
      rw [this]
    rw [ht]
    unfold pvU
    rw [ones_gx L k (by omega), ih]
    unfold has
    rw [List.any_append]
    by_cases h : (gx L k).1 ≤ p ∧ p ≤ (gx L k).2.1
    · rw [if_pos h]
      simp [bI, h.1, h.2]
    · rw [if_neg h]
      have : (decide ((gx L k).1 ≤ p) && decide (p ≤ (gx L k).2.1)) = false := by
        rw [Bool.eq_false_iff]; simpa using h
      simp [this]
theorem pv_ones (L : List Sp) (p : Int) : pv (ones L) 0 p = bI (has L p) := by
  unfold pv
  rw [ones_len, pvU_ones L p _ (Nat.le_refl _), List.take_length]
theorem pvU_sub (L : List Sp) (o : Int) (p : Int) (k : Nat) : pvU L o k p = o ∨ ∃ i, i < k ∧ pvU L o k p = (gx L i).2.2 := by
  induction k with
  | zero => exact .inl rfl
  | succ k ih =>
    by_cases h : (gx L k).1 ≤ p ∧ p ≤ (gx L k).2.1
    · exact .inr ⟨k, by omega, pvU_in h⟩
    · rw [pvU_out h]
      rcases ih with ih | ⟨i, hi, ih⟩
      · exact .inl ih
      · exact .inr ⟨i, by omega, ih⟩
/-- Stretches of a row, one number after the other: the last span goes on, or a new one begins. -/
theorem runs_same {f : Int → Int} {t : List Sp} {x y v : Int} {p : Nat} (h : RunsR f ((x, y, v) :: t) p) (hv : f p = v) : RunsR f ((x, (p : Int), v) :: t) ((p + 1 : Nat) : Int) := by
  have := runs_on h (p : Int) (Int.le_refl _) (fun q a b => by rw [show q = (p : Int) by omega]; exact hv)
  rwa [show ((p + 1 : Nat) : Int) = (p : Int) + 1 by omega]
theorem runs_other {f : Int → Int} {t : List Sp} {p : Nat} {v : Int} (h : RunsR f t p) (hv : f p = v) (hn : headNe t v) : RunsR f (((p : Int), (p : Int), v) :: t) ((p + 1 : Nat) : Int) := by
  have := runs_new h (Int.le_refl _) (fun q a b => by rw [show q = (p : Int) by omega]; exact hv) hn
  rwa [show ((p + 1 : Nat) : Int) = (p : Int) + 1 by omega]
theorem runs_ext {f g : Int → Int} : ∀ {l : List Sp} {b : Int}, RunsR f l b → (∀ p, 0 ≤ p → p < b → f p = g p) → RunsR g l b
  | [], _, h, _ => h
  | (x, y, v) :: t, b, h, he => by
    obtain ⟨h1, h2, h3, h4, h5⟩ := h
    have hx := (runs_nonneg f t x h4).1
    exact ⟨h1, h2, fun p a c => by rw [← he p (by omega) (by omega)]; exact h3 p a c, runs_ext h4 (fun p a c => he p a (by omega)), h5⟩
end Go.Proofs.YtjncfkcpjjnmdaaDoor
/- A row of numbers as spans: the specification. -/
namespace Go.Proofs.YtjncfkcpjjnmdaaDoor
open Go.RowKit
theorem three_new (w : World) (x y z : Value) (t : TypeId) : ∀ j u, [x, y, z][j]? = some u → (w.alloc (.cells #[x, y, z] t)).cell? ((⟨w.heap.size, 0, none⟩ : Addr).add j) = some u := by
  intro j u hj
  match j, hj with
  | 0, hj => simp at hj; subst hj; simp [Addr.add]
  | 1, hj => simp at hj; subst hj; simp [Addr.add]
  | 2, hj => simp at hj; subst hj; simp [Addr.add]
  | (j + 3), hj => simp at hj
theorem three_one (x y z : Int) : ∀ u ∈ [Value.int .i64 x, Value.int .i64 y, Value.int .i64 z], u.oneCell' = true := by
  intro u hu; simp at hu; rcases hu with rfl | rfl | rfl <;> rfl
/-- One span more. -/
theorem sp_step {w wr w3 : World} {v v' : Value} {L : List Sp} {x y z : Int} {o : Obj} (hb : Below w.heap.size w wr) (h : SpRow wr w.heap.size v L)
    (ho : w3.ownsRow w.heap.size 33 3 v' (L.length + 1) (cells L ++ [.int .i64 x, .int .i64 y, .int .i64 z])) (hg : (wr.alloc o).grownBy w3 v.ownBlock) :
    SpRow w3 w.heap.size v' (L ++ [(x, y, z)]) ∧ Below w.heap.size w w3 := by
  refine ⟨?_, (hb.alloc hb.size o).grown hg (by have := hb.size; simp; omega) (fun j hj => (h.lt j hj).1)⟩
  unfold SpRow
  rw [cells_snoc, List.length_append]
  exact ho
theorem cells_last (L : List Sp) (r : Sp) (j : Nat) : (cells (L ++ [r]))[L.length * 3 + j]? = [Value.int .i64 r.1, .int .i64 r.2.1, .int .i64 r.2.2][j]? := by
  rw [cells_snoc, List.getElem?_append_right (by rw [cells_len]; omega), cells_len, Nat.add_sub_cancel_left]
theorem cells_upd (L : List Sp) (x y u z : Int) : (cells (L ++ [(x, y, u)])).set (L.length * 3 + 1) (.int .i64 z) = cells (L ++ [(x, z, u)]) := by
  rw [cells_snoc, cells_snoc, List.set_append_right _ _ (by rw [cells_len]; omega), cells_len, Nat.add_sub_cancel_left]
  rfl
theorem sp_cell {w : World} {B g c : Nat} {L : List Sp} {r : Sp} (h : SpRow w B (.slice (some ⟨g, 0, none⟩) (L.length + 1) c) (L ++ [r])) (j : Nat) (hj : j < 3) : w.cell? ⟨g, L.length * 3 + j, none⟩ = [Value.int .i64 r.1, .int .i64 r.2.1, .int .i64 r.2.2][j]? ∧ w.frozen? ⟨g, L.length * 3 + j, none⟩ = false := by
  have h' : w.ownsRow B 33 3 (.slice (some ⟨g, 0, none⟩) (L.length + 1) c) (L.length + 1) (cells (L ++ [r])) := by
    have : (L ++ [r]).length = L.length + 1 := by simp
    unfold SpRow at h
    rw [this] at h
    exact h
  exact ⟨(h'.cellAt (L.length * 3 + j) (by omega)).trans (cells_last L r j), h'.frozenAt _⟩
theorem sp_upd {w wr : World} {g c : Nat} {L : List Sp} {x y u : Int} (hb : Below w.heap.size w wr) (h : SpRow wr w.heap.size (.slice (some ⟨g, 0, none⟩) (L.length + 1) c) (L ++ [(x, y, u)])) (hg : w.heap.size ≤ g) (z : Int) :
    SpRow (wr.setCell ⟨g, L.length * 3 + 1, none⟩ (.int .i64 z)) w.heap.size (.slice (some ⟨g, 0, none⟩) (L.length + 1) c) (L ++ [(x, z, u)]) ∧ Below w.heap.size w (wr.setCell ⟨g, L.length * 3 + 1, none⟩ (.int .i64 z)) := by
  have hl : ∀ r : Sp, (L ++ [r]).length = L.length + 1 := fun r => by simp
  refine ⟨?_, hb.setCell (p := ⟨g, L.length * 3 + 1, none⟩) hg _⟩
  have h1 := h
  unfold SpRow at h1
  rw [hl] at h1
  have hst := (World.ownsRow.stored h1 (L.length * 3 + 1) (.int .i64 z)).1
  rw [cells_upd] at hst
  unfold SpRow
  rw [hl]
  exact hst
def fnum (l : List Int) (p : Int) : Int := nth l p.toNat
theorem fnum_nat (l : List Int) (k : Nat) : fnum l (k : Int) = nth l k := by unfold fnum; rw [Int.toNat_natCast]
set_option maxHeartbeats 4000000 in
set_option maxRecDepth 100000 in
theorem l04Spans_any (v : Value) (l : List Int) (w : World) (h : DatAt w w.heap.size v l) (hl : l.length ≤ 1048576) :
    Calls Tryd.prog 33 #[v] w fun e w' => ∃ (sv : Value) (L : List Sp), e = .returned sv ∧ RunsR (fnum l) L.reverse l.length ∧ L.length ≤ l.length ∧ SpRow w' w.heap.size sv L ∧ Below w.heap.size w w' := by
  obtain ⟨i0, hi, hz0, hz1, hz2⟩ := info_parts infoSp
  have HD := hide h
  obtain ⟨a, c, rfl, _, _⟩ := h
  have O0 : Hid (SpRow (w.alloc (.cells #[] 33)) w.heap.size (.slice (some ⟨w.heap.size, 0, none⟩) 0 0) []) := hide (World.ownsRow_lit w #[] 0 (Nat.le_refl _) (by unfold maxLen; omega) rfl)
  have B0 : Hid (Below w.heap.size w (w.alloc (.cells #[] 33))) := hide ((Below.refl _ _).alloc (Nat.le_refl _) _)
  go_enter Tryd.func33, Tryd.ntmps33
  go_wp2
  go_loopw [3, 4] (fun sv pv wr => ∃ (L : List Sp) (k : Nat), k ≤ l.length ∧ L.length ≤ k ∧ pv = .int .i64 k ∧ Hid (SpRow wr w.heap.size sv L) ∧ Hid (Below w.heap.size w wr) ∧ Hid (RunsR (fnum l) L.reverse k)) (fun _ p _ => l.length - (intOf p).toNat)
  case atStart => exact ⟨[], 0, Nat.zero_le _, by simp, rfl, O0, B0, hide rfl⟩
  case round =>
    obtain ⟨L, k, hk, hLk, rfl, HO, HB, HR⟩ := hrel
    clear O0 B0
    by_cases hlt : k < l.length
    · have hlt' : (k : Int) < (l.length : Int) := by omega
      obtain ⟨a', cap, ev, _, hx⟩ := unhide HD
      simp only [Value.slice.injEq] at ev
      obtain ⟨rfl, _, rfl⟩ := ev
      rcases hx with e | ⟨b, off, rfl, hbl, hcell⟩
      · rw [e] at hlt; simp at hlt
      have d0 := ((unhide HB).cell (p := ⟨b, off + k, none⟩) hbl).trans (hcell k hlt)
      clear hcell
      have d0a := cell_alloc d0
      have HF := hide (fnum_nat l k)
      have hBs := (unhide HB).size
      rcases List.eq_nil_or_concat L with rfl | ⟨L', ⟨x, y, u⟩, rfl⟩
      · obtain ⟨sa, sc, hsv, _⟩ := (unhide HO).form
        have hll : ([] : List Sp).length = 0 := rfl
        rw [hll] at hsv
        subst hsv
        clear hll
        have HR' : Hid (RunsR (fnum l) ([] ++ [((k : Int), (k : Int), nth l k)]).reverse ((k + 1 : Nat) : Int)) := hide (runs_other (unhide HR) (unhide HF) (headNe_nil _))
        clear HR HF
        generalize nth l k = z at *
        go_upto_region 5 with fail
        go_quiet (fail)
        have HOq : Hid (SpRow (wr.drewN nq) w.heap.size (.slice sa 0 sc) []) := HO
        have HBq : Hid (Below w.heap.size w (wr.drewN nq)) := hide (bdrew (unhide HB) _)
        have dq : (wr.drewN nq).cell? ⟨b, off + k, none⟩ = some (.int .i64 z) := d0
        have hBq := (unhide HBq).size
        clear HO HB d0 d0a
        generalize wr.drewN nq = wq at *
        have dqa := cell_alloc dq
        go_wp2_with (at_builtin; refine wpList_append_own _ rfl _ _ 23 rfl w.heap.size 33 i0 (.agg #[.int .i64 0, .int .i64 0, .int .i64 0]) 3 24 Tryd.underlying23 hi hz0 hz1 hz2 rfl (by decide) _ _ _ rfl (World.ownsRow.alloc (unhide HOq) _) ⟨wq.heap.size, 0, none⟩ 1 1 [.int .i64 k, .int .i64 k, .int .i64 z] rfl rfl ?c1 ?c2 ?c3 ?c4 ?c5 ?_)
        case c1 => exact three_new _ _ _ _ _
        case c2 => exact three_one _ _ _
        case c3 => unfold maxLen; simp
        case c4 => simp
        case c5 => simp; omega
        intro v' w3 hown' hgrow _
        have R := hide (sp_step (unhide HBq) (unhide HOq) hown' hgrow)
        clear hown' hgrow
        go_wp2
        go_roundw
        case rel => exact ⟨[] ++ [((k : Int), (k : Int), z)], k + 1, by omega, by simp, by go_num, hide (unhide R).1, hide (unhide R).2, HR'⟩
        case measure => simp [intOf]; omega
      · rw [List.concat_eq_append] at *
        obtain ⟨sa, sc, hsv, hg⟩ := (unhide HO).form
        obtain ⟨g, rfl, hgB, hgl⟩ := hg (by simp)
        have hll : (L' ++ [(x, y, u)]).length = L'.length + 1 := by simp
        rw [hll] at hsv hLk
        subst hsv
        obtain ⟨c1, f1⟩ := sp_cell (unhide HO) 1 (by omega)
        obtain ⟨c2, f2⟩ := sp_cell (unhide HO) 2 (by omega)
        simp only [List.getElem?_cons_succ, List.getElem?_cons_zero] at c1 c2
        have hM0 : (0 : Int) < (L'.length : Int) + 1 := by omega
        have hMw : IntKind.i64.wrap (L'.length : Int) = (L'.length : Int) := wrap_in _ (by omega) (by omega)
        have hMi : (L'.length : Int) < (L'.length : Int) + 1 := by omega
        by_cases huv : u = nth l k
        · have HS := hide (sp_upd (unhide HB) (unhide HO) hgB (k : Int))
          have HR' : Hid (RunsR (fnum l) (L' ++ [(x, (k : Int), u)]).reverse ((k + 1 : Nat) : Int)) := hide (by
            have h0 := unhide HR
            rw [List.reverse_append] at h0 ⊢
            exact runs_same h0 ((unhide HF).trans huv.symm))
          have huv' : (u == u) = true := by simp
          rw [← huv] at d0 d0a
          clear HR HF huv
          go_upto_region 5 with fail
          go_quiet (fail)
          go_wp2
          go_roundw
          case rel => exact ⟨L' ++ [(x, (k : Int), u)], k + 1, by omega, by simp; omega, by go_num, hide (unhide HS).1, hide (bdrew (unhide HS).2 _), HR'⟩
          case measure => simp [intOf]; omega
        · have HR' : Hid (RunsR (fnum l) ((L' ++ [(x, y, u)]) ++ [((k : Int), (k : Int), nth l k)]).reverse ((k + 1 : Nat) : Int)) := hide (by
            rw [List.reverse_append]
            exact runs_other (unhide HR) (unhide HF) (by rw [List.reverse_append]; exact headNe_cons _ _ _ huv))
          have huv' : (u == nth l k) = false := by simpa using huv
          clear HR HF huv
          generalize nth l k = z at *
          go_upto_region 5 with fail
          go_quiet (fail)
          have HOq : Hid (SpRow (wr.drewN nq) w.heap.size (.slice (some ⟨g, 0, none⟩) (L'.length + 1) sc) (L' ++ [(x, y, u)])) := HO
          have HBq : Hid (Below w.heap.size w (wr.drewN nq)) := hide (bdrew (unhide HB) _)
          have dq : (wr.drewN nq).cell? ⟨b, off + k, none⟩ = some (.int .i64 z) := d0
          have hBq := (unhide HBq).size
          clear HO HB d0 d0a c1 c2 f1 f2
          generalize wr.drewN nq = wq at *
          have dqa := cell_alloc dq
          go_wp2_with (at_builtin; refine wpList_append_own _ rfl _ _ 23 rfl w.heap.size 33 i0 (.agg #[.int .i64 0, .int .i64 0, .int .i64 0]) 3 24 Tryd.underlying23 hi hz0 hz1 hz2 rfl (by decide) _ _ _ rfl (World.ownsRow.alloc (unhide HOq) _) ⟨wq.heap.size, 0, none⟩ 1 1 [.int .i64 k, .int .i64 k, .int .i64 z] rfl rfl ?c1 ?c2 ?c3 ?c4 ?c5 ?_)
          case c1 => exact three_new _ _ _ _ _
          case c2 => exact three_one _ _ _
          case c3 => unfold maxLen; simp; omega
          case c4 => simp; omega
          case c5 => simp; omega
          intro v' w3 hown' hgrow _
          rw [← hll] at hown'
          have R := hide (sp_step (unhide HBq) (unhide HOq) hown' hgrow)
          clear hown' hgrow
          go_wp2
          go_roundw
          case rel => exact ⟨(L' ++ [(x, y, u)]) ++ [((k : Int), (k : Int), z)], k + 1, by omega, by simp; omega, by go_num, hide (unhide R).1, hide (unhide R).2, HR'⟩
          case measure => simp [intOf]; omega
    · obtain rfl : k = l.length := by omega
      go_wp2
      go_ret
      exact ⟨_, _, rfl, unhide HR, hLk, unhide HO, unhide HB⟩
end Go.Proofs.YtjncfkcpjjnmdaaDoor
/- A drawn point: some number; the source is one again. -/
namespace Go.Proofs.YtjncfkcpjjnmdaaDoor.Dr
open Go.RowKit
theorem grown_alloc (w : World) (o : Obj) (r : Option Nat) : w.grownBy (w.alloc o) r :=
  ⟨rfl, rfl, rfl, by simp, fun k hk _ => Below.heap_alloc w o k hk⟩
theorem src_lt {w : World} {src len cap : Nat} {a : Option Addr} {size : Int} (h : SrcAt w src a len cap size) : src < w.heap.size := by
  obtain ⟨_, p, mix, _, _, hh⟩ := h
  exact (Array.getElem?_eq_some_iff.1 hh).1
/-- The source stays one where its own block and the code's have not turned. -/
theorem src_keep {w w' : World} {src len cap : Nat} {a : Option Addr} {size : Int} (h : SrcAt w src a len cap size) (hs : w.heap.size ≤ w'.heap.size) (hb : ∀ k, k < w.heap.size → w'.heap[k]? = w.heap[k]?) : SrcAt w' src a len cap size := by
  have hlt := src_lt h
  obtain ⟨hc, p, mix, hp, hwf, hh⟩ := h
  refine ⟨?_, p, mix, hp, hwf, (hb src hlt).trans hh⟩
  rcases hc with h0 | ⟨cb, off, ha, hcb, hne, hcc⟩
  · exact .inl h0
  · refine .inr ⟨cb, off, ha, by omega, hne, fun i hi => ?_⟩
    obtain ⟨z, hz, hzb⟩ := hcc i hi
    exact ⟨z, (World.cell?_of_block (a := ⟨cb, off + i, none⟩) (hb cb hcb)).trans hz, hzb⟩
theorem src_alloc {w : World} {src len cap : Nat} {a : Option Addr} {size : Int} (h : SrcAt w src a len cap size) (o : Obj) : SrcAt (w.alloc o) src a len cap size :=
  src_keep h (by simp) (fun k hk => Below.heap_alloc w o k hk)
theorem n_nat (w : World) (src : Nat) (a : Option Addr) (len cap : Nat) (size most : Int) (hm : 0 < most) (hm2 : most ≤ 1000000) (hl : len ≤ 1048576) (h : SrcAt w src a len cap size) :
    Calls Tryd.prog 20 #[.pointer (some ⟨src, 0, none⟩), .int .i64 most] w fun e w' => ∃ r : Nat, e = .returned (.int .i64 r) ∧ (r : Int) < most ∧ SrcAt w' src a len cap size ∧ w.grownBy w' (some src) := by
  refine (n_any w src a len cap size most hm hm2 hl h).mono fun e w' ⟨r, he, r0, r1, hs, hg⟩ => ?_
  obtain ⟨n, rfl⟩ := Int.eq_ofNat_of_zero_le r0
  exact ⟨n, he, r1, hs, hg⟩
theorem n_idx (w : World) (O : Array Value) (src : Nat) (a : Option Addr) (len cap : Nat) (size : Int) (m : Nat) (hm : 0 < m) (hm2 : m ≤ 1000) (hl : len ≤ 1048576) (h : SrcAt w src a len cap size) (hO : ∀ i, i < m → ∃ x : Int, O[i]? = some (.int .i64 x)) :
    Calls Tryd.prog 20 #[.pointer (some ⟨src, 0, none⟩), .int .i64 (m : Int)] (w.alloc (.cells O 2)) fun e w' => ∃ (r : Nat) (x : Int), e = .returned (.int .i64 r) ∧ r < m ∧ w'.cell? ⟨w.heap.size, r, none⟩ = some (.int .i64 x) ∧ SrcAt w' src a len cap size ∧ w.grownBy w' (some src) := by
  refine (n_nat (w.alloc (.cells O 2)) src a len cap size m (by omega) (by omega) hl (src_alloc h _)).mono fun e w' ⟨r, he, r1, hs, hg⟩ => ?_
  obtain ⟨x, hx⟩ := hO r (by omega)
  have hlt := src_lt h
  refine ⟨r, x, he, by omega, ?_, hs, grown_trans (grown_alloc _ _ _) hg⟩
  rw [World.cell?_of_block (a := ⟨w.heap.size, r, none⟩) (hg.block w.heap.size (by simp) (by simp; omega))]
  simpa using hx
end Go.Proofs.YtjncfkcpjjnmdaaDoor.Dr
/- Two rows of spans alike, and a number out of a code, as the laws ask them. -/
namespace Go.Proofs.YtjncfkcpjjnmdaaDoor
open Go.RowKit
set_option linter.unusedVariables false
theorem spn_ne (x y z : Int) (W : World) : (binOp .neq 33 (.agg #[.int .i64 x, .int .i64 y, .int .i64 z]) (.agg #[.int .i64 x, .int .i64 y, .int .i64 z])).run Tryd.prog W = .ok (.bool false) W := by
  simp [go_sem]
set_option maxHeartbeats 2000000 in
theorem lwSpans (v1 v2 : Value) (L : List Sp) (B1 B2 : Nat) (w : World) (h1 : SpRow w B1 v1 L) (h2 : SpRow w B2 v2 L) (hl : L.length ≤ 1048576) :
    Calls Tryd.prog 13 #[v1, v2] w fun e w' => e = .returned (.bool true) ∧ Below w.heap.size w w' := by
  obtain ⟨a1, c1, rfl, hg1⟩ := h1.form
  obtain ⟨a2, c2, rfl, hg2⟩ := h2.form
  have H1 := hide h1
  have H2 := hide h2
  have G1 := hide hg1
  have G2 := hide hg2
  clear h1 h2 hg1 hg2
  have hne : ((L.length : Int) != (L.length : Int)) = false := by simp
  go_enter Tryd.func13, Tryd.ntmps13
  go_wp2
  go_loopw [5] (fun i wr => ∃ k : Nat, k ≤ L.length ∧ i = .int .i64 k ∧ Hid (Below w.heap.size w wr)) (fun i _ => L.length - (intOf i).toNat)
  case atStart => exact ⟨0, Nat.zero_le _, rfl, hide (Below.refl _ _)⟩
  case round =>
    obtain ⟨k, hk, rfl, HB⟩ := hrel
    by_cases hlt : k < L.length
    · obtain ⟨g1, rfl, _, _⟩ := (unhide G1) (by omega)
      obtain ⟨g2, rfl, _, _⟩ := (unhide G2) (by omega)
      obtain ⟨x0, x1, x2⟩ := ((unhide H1).below (unhide HB)).read k hlt
      obtain ⟨y0, y1, y2⟩ := ((unhide H2).below (unhide HB)).read k hlt
      have hlt' : (k : Int) < (L.length : Int) := by omega
      have h0k : (0 : Int) ≤ (k : Int) := by omega
      generalize gx L k = r at *
      have hs := spn_ne r.1 r.2.1 r.2.2
      go_wp2
      go_quiet (fail)
      go_wp2
      go_roundw
      case rel => exact ⟨k + 1, by omega, by go_num, hide (bdrew (unhide HB) _)⟩
      case measure => simp [intOf]; omega
    · go_wp2
      go_ret
      exact ⟨rfl, unhide HB⟩
set_option maxHeartbeats 2000000 in
theorem lwAt_any (a : Option Addr) (len cap i : Nat) (w : World) (hc : Dr.CodeIn w a len) (hl : len ≤ 1048576) (hi : i ≤ 100) :
    Calls Tryd.prog 7 #[.slice a len cap, .int .i64 (i : Int), .int .i64 256] w fun e w' => ∃ z : Int, e = .returned (.int .i64 z) ∧ 0 ≤ z ∧ z < 256 ∧ w' = w := by
  rcases hc with h0 | ⟨cb, off, rfl, hcb, hc⟩
  · subst h0
    go_enter Tryd.func7, Tryd.ntmps7
    go_wp2
    go_ret
    exact ⟨0, rfl, by omega, by omega, rfl⟩
  · by_cases h0 : len = 0
    · subst h0
      go_enter Tryd.func7, Tryd.ntmps7
      go_wp2
      go_ret
      exact ⟨0, rfl, by omega, by omega, rfl⟩
    · have hz : ((len : Int) == 0) = false := by rw [beq_eq_false_iff_ne]; omega
      obtain ⟨z, hcell, hz0, hz1⟩ := hc (i % len) (Nat.mod_lt _ (by omega))
      have hm : (i : Int).tmod (len : Int) = ((i % len : Nat) : Int) := by rw [Int.tmod_eq_emod_of_nonneg (by omega)]; omega
      have hml := Nat.mod_lt i (show 0 < len by omega)
      generalize i % len = m at *
      have hm1 : (m : Int) < (len : Int) := by omega
      have hzm : z.tmod 256 = z := Int.tmod_eq_of_lt hz0 hz1
      have hne : ¬ (len : Int) = 0 := by omega
      go_enter Tryd.func7, Tryd.ntmps7
      go_wp2
      go_ret
      exact ⟨z, rfl, hz0, hz1, rfl⟩
end Go.Proofs.YtjncfkcpjjnmdaaDoor
/- Two rows alike, as the laws ask it. -/
namespace Go.Proofs.YtjncfkcpjjnmdaaDoor
open Go.RowKit
set_option maxHeartbeats 1000000 in
theorem lwSame_nil (a b : Option Addr) (c d : Nat) (l : List Int) (w : World) (h0 : l.length = 0) :
    Calls Tryd.prog 17 #[.slice a l.length c, .slice b l.length d] w fun e w' => e = .returned (.bool true) ∧ Below w.heap.size w w' := by
  have H0 := hide h0
  clear h0
  have hl : l.length ≤ 1048576 := by rw [unhide H0]; omega
  have hne : ((l.length : Int) != (l.length : Int)) = false := by simp
  go_enter Tryd.func17, Tryd.ntmps17
  go_wp2
  go_loopw [5] (fun i wr => ∃ k : Nat, k ≤ l.length ∧ i = .int .i64 k ∧ Hid (Below w.heap.size w wr)) (fun i _ => l.length - (intOf i).toNat)
  case atStart => exact ⟨0, Nat.zero_le _, rfl, hide (Below.refl _ _)⟩
  case round =>
    obtain ⟨k, hk, rfl, HB⟩ := hrel
    have hge : ¬ k < l.length := by have := unhide H0; omega
    go_wp2
    go_ret
    exact ⟨rfl, unhide HB⟩
set_option maxHeartbeats 1000000 in
theorem lwSame_at (b1 o1 b2 o2 c d : Nat) (l : List Int) (w : World) (hb1 : b1 < w.heap.size) (hc1 : ∀ i, i < l.length → w.cell? ⟨b1, o1 + i, none⟩ = some (.int .i64 (nth l i)))
    (hb2 : b2 < w.heap.size) (hc2 : ∀ i, i < l.length → w.cell? ⟨b2, o2 + i, none⟩ = some (.int .i64 (nth l i))) (hl : l.length ≤ 1048576) :
    Calls Tryd.prog 17 #[.slice (some ⟨b1, o1, none⟩) l.length c, .slice (some ⟨b2, o2, none⟩) l.length d] w fun e w' => e = .returned (.bool true) ∧ Below w.heap.size w w' := by
  have H1 := hide hc1
  have H2 := hide hc2
  clear hc1 hc2
  have hne : ((l.length : Int) != (l.length : Int)) = false := by simp
  go_enter Tryd.func17, Tryd.ntmps17
  go_wp2
  go_loopw [5] (fun i wr => ∃ k : Nat, k ≤ l.length ∧ i = .int .i64 k ∧ Hid (Below w.heap.size w wr)) (fun i _ => l.length - (intOf i).toNat)
  case atStart => exact ⟨0, Nat.zero_le _, rfl, hide (Below.refl _ _)⟩
  case round =>
    obtain ⟨k, hk, rfl, HB⟩ := hrel
    by_cases hlt : k < l.length
    · have c1 := ((unhide HB).cell (p := ⟨b1, o1 + k, none⟩) hb1).trans ((unhide H1) k hlt)
      have c2 := ((unhide HB).cell (p := ⟨b2, o2 + k, none⟩) hb2).trans ((unhide H2) k hlt)
      have hne2 : (nth l k != nth l k) = false := by simp
      go_wp2
      go_quiet (fail)
      go_wp2
      go_roundw
      case rel => exact ⟨k + 1, by omega, by go_num, hide (bdrew (unhide HB) _)⟩
      case measure => simp [intOf]; omega
    · go_wp2
      go_ret
      exact ⟨rfl, unhide HB⟩
theorem lwSame (v1 v2 : Value) (l : List Int) (w : World) (h1 : IntsAt w v1 l) (h2 : IntsAt w v2 l) (hl : l.length ≤ 1048576) :
    Calls Tryd.prog 17 #[v1, v2] w fun e w' => e = .returned (.bool true) ∧ Below w.heap.size w w' := by
  obtain ⟨a1, c1, rfl, h1⟩ := h1
  obtain ⟨a2, c2, rfl, h2⟩ := h2
  rcases h1 with h1 | ⟨b1, o1, rfl, hb1, hc1⟩
  · exact lwSame_nil a1 a2 c1 c2 l w (by rw [h1]; rfl)
  · rcases h2 with h2 | ⟨b2, o2, rfl, hb2, hc2⟩
    · exact lwSame_nil _ a2 c1 c2 l w (by rw [h2]; rfl)
    · exact lwSame_at b1 o1 b2 o2 c1 c2 l w hb1 hc1 hb2 hc2 hl
end Go.Proofs.YtjncfkcpjjnmdaaDoor
