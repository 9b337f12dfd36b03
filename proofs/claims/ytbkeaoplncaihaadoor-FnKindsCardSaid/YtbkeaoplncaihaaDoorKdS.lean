/- The specification's SpansOf: the same stretches. -/
import Derived.Test.YtbkeaoplncaihaaDoorKdE
import Derived.Test.YtbkeaoplncaihaaDoorKdJ
namespace Go.Proofs.YtbkeaoplncaihaaDoor.Kd
open Go.RowKit
def E : List Int := insAll 128
theorem E_len : 2 ≤ E.length ∧ E.length ≤ 128 := by decide +kernel
theorem E_first : nth E 0 = 0 := by decide +kernel
theorem E_last : nth E (E.length - 1) = 32768 := by decide +kernel
theorem E_ok0 : ((List.range (E.length - 1)).all fun i => okS (nth E i) (nth E (i + 1) - 1)) = true := by decide +kernel
theorem E_bd0 : ((List.range E.length).all fun i => decide (0 ≤ nth E i) && decide (nth E i ≤ 32768)) = true := by decide +kernel
theorem E_ok (i : Nat) (h : i + 1 < E.length) : okS (nth E i) (nth E (i + 1) - 1) = true :=
  List.all_eq_true.1 E_ok0 i (by rw [List.mem_range]; omega)
theorem E_bd (i : Nat) (h : i < E.length) : 0 ≤ nth E i ∧ nth E i ≤ 32768 := by
  have := List.all_eq_true.1 E_bd0 i (by rw [List.mem_range]; exact h)
  simpa using this
theorem rows_apart {w : World} {B B' : Nat} {e e' : TypeId} {s s' : Nat} {v v' : Value} {n n' : Nat} {xs xs' : List Value} (h : w.ownsRow B e s v n xs) (h' : w.ownsRow B' e' s' v' n' xs') (hne : e ≠ e') : v.ownBlock = none ∨ v.ownBlock ≠ v'.ownBlock := by
  rcases h.2 with ⟨rfl, _⟩ | ⟨g, cap, cur, rfl, _, hh, _⟩
  · exact .inl rfl
  · refine .inr fun e => ?_
    rcases h'.2 with ⟨rfl, _⟩ | ⟨g', cap', cur', rfl, _, hh', _⟩
    · cases e
    · simp only [Value.ownBlock, Option.some.injEq] at e
      rw [← e, hh] at hh'
      injection hh' with hh'
      injection hh' with _ h2 _
      exact hne h2
/-- The edges in a row of their own. -/
def EdRow (w : World) (B g c : Nat) : Prop := w.ownsRow B 2 1 (.slice (some ⟨g, 0, none⟩) E.length c) E.length (E.map (Value.int .i64))
theorem EdRow.read {w : World} {B g c : Nat} (h : EdRow w B g c) (i : Nat) (hi : i < E.length) : w.cell? ⟨g, i, none⟩ = some (.int .i64 (nth E i)) := owned_cell h i hi
theorem sp_form {w : World} {B : Nat} {v : Value} {L : List Sp} (h : SpRow w B v L) : ∃ a c, v = .slice a L.length c ∧ (0 < L.length → ∃ g, a = some ⟨g, 0, none⟩ ∧ B ≤ g ∧ g < w.heap.size) := by
  rcases h.2 with ⟨hv, hn⟩ | ⟨g, cap, cur, hv, hg, hh, _⟩
  · exact ⟨none, 0, by rw [hv, hn], fun h => by omega⟩
  · exact ⟨_, _, hv, fun _ => ⟨g, rfl, hg, (Array.getElem?_eq_some_iff.1 hh).1⟩⟩
theorem cells_last (L : List Sp) (r : Sp) (j : Nat) : (cells (L ++ [r]))[L.length * 3 + j]? = [Value.int .i64 r.1, .int .i64 r.2.1, .int .i64 r.2.2][j]? := by
  rw [cells_snoc, List.getElem?_append_right (by rw [cells_len]; omega), cells_len, Nat.add_sub_cancel_left]
theorem cells_upd (L : List Sp) (x y u z : Int) : (cells (L ++ [(x, y, u)])).set (L.length * 3 + 1) (.int .i64 z) = cells (L ++ [(x, z, u)]) := by
  rw [cells_snoc, cells_snoc, List.set_append_right _ _ (by rw [cells_len]; omega), cells_len, Nat.add_sub_cancel_left]
  rfl
theorem sp_cell {w : World} {B g c : Nat} {L : List Sp} {r : Sp} (h : SpRow w B (.slice (some ⟨g, 0, none⟩) (L.length + 1) c) (L ++ [r])) (j : Nat) (hj : j < 3) : w.cell? ⟨g, L.length * 3 + j, none⟩ = [Value.int .i64 r.1, .int .i64 r.2.1, .int .i64 r.2.2][j]? ∧ w.frozen? ⟨g, L.length * 3 + j, none⟩ = false := by
  have h' : w.ownsRow B 33 3 (.slice (some ⟨g, 0, none⟩) (L.length + 1) c) (L.length + 1) (cells (L ++ [r])) := by
    have : (L ++ [r]).length = L.length + 1 := by simp
    unfold SpRow at h
    rw [this] at h
    exact h
  exact ⟨(h'.cellAt (L.length * 3 + j) (by omega)).trans (cells_last L r j), h'.frozenAt _⟩
/-- What the loop carries. -/
def SpL (k : Int) (w wr : World) (BE ge ce : Nat) (sv : Value) (L : List Sp) (i : Nat) : Prop :=
  SpRow wr w.heap.size sv L ∧ EdRow wr BE ge ce ∧ Below w.heap.size w wr ∧ RunsR (valW k) L.reverse (nth E i)
theorem SpL.below {k : Int} {w wr w2 : World} {BE ge ce : Nat} {sv : Value} {L : List Sp} {i : Nat} (h : SpL k w wr BE ge ce sv L i) (hb : Below wr.heap.size wr w2) : SpL k w w2 BE ge ce sv L i :=
  ⟨h.1.below hb, ownsRow_below h.2.1 hb, h.2.2.1.trans (hb.mono h.2.2.1.size), h.2.2.2⟩
theorem set_grown {w : World} {R j : Nat} {u : Value} : w.grownBy (w.setCell ⟨R, j, none⟩ u) (some R) :=
  ⟨rfl, rfl, rfl, by simp, fun k _ hk => heap_setCell_other w ⟨R, j, none⟩ k u (fun e => hk (by simp [e]))⟩
theorem SpL.upd {k : Int} {w w2 : World} {BE ge ce g c i : Nat} {L : List Sp} {x y u v : Int} (h : SpL k w w2 BE ge ce (.slice (some ⟨g, 0, none⟩) (L.length + 1) c) (L ++ [(x, y, u)]) i) (hg : w.heap.size ≤ g)
    (hlo : nth E i ≤ nth E (i + 1) - 1) (hc : ∀ p, nth E i ≤ p → p ≤ nth E (i + 1) - 1 → valW k p = v) (huv : u = v) :
    SpL k w (w2.setCell ⟨g, L.length * 3 + 1, none⟩ (.int .i64 (nth E (i + 1) - 1))) BE ge ce (.slice (some ⟨g, 0, none⟩) (L.length + 1) c) (L ++ [(x, nth E (i + 1) - 1, u)]) (i + 1) := by
  obtain ⟨h1, h2, h3, h4⟩ := h
  have hl : ∀ r : Sp, (L ++ [r]).length = L.length + 1 := fun r => by simp
  refine ⟨?_, ?_, h3.setCell (p := ⟨g, L.length * 3 + 1, none⟩) hg _, ?_⟩
  · have h1' := h1
    unfold SpRow at h1'
    rw [hl] at h1'
    have hst := (World.ownsRow.stored h1' (L.length * 3 + 1) (.int .i64 (nth E (i + 1) - 1))).1
    rw [cells_upd] at hst
    unfold SpRow
    rw [hl]
    exact hst
  · exact World.ownsRow.kept h2 (set_grown (R := g)) (rows_apart h2 h1 (by decide))
  · rw [List.reverse_append] at h4 ⊢
    have := runs_on (t := L.reverse) h4 (nth E (i + 1) - 1) hlo (fun p a b => by rw [huv]; exact hc p a b)
    rwa [show nth E (i + 1) - 1 + 1 = nth E (i + 1) by omega] at this
theorem SpL.app {k : Int} {w w2 w3 : World} {BE ge ce i : Nat} {sv v' : Value} {L : List Sp} {v : Int} {o : Obj} (h : SpL k w w2 BE ge ce sv L i) (hlo : nth E i ≤ nth E (i + 1) - 1)
    (hc : ∀ p, nth E i ≤ p → p ≤ nth E (i + 1) - 1 → valW k p = v) (hn : headNe L.reverse v)
    (ho : w3.ownsRow w.heap.size 33 3 v' (L.length + 1) (cells L ++ [.int .i64 (nth E i), .int .i64 (nth E (i + 1) - 1), .int .i64 v])) (hg : (w2.alloc o).grownBy w3 sv.ownBlock) :
    SpL k w w3 BE ge ce v' (L ++ [(nth E i, nth E (i + 1) - 1, v)]) (i + 1) := by
  obtain ⟨h1, h2, h3, h4⟩ := h
  have hs := sp_step h3 h1 ho hg
  refine ⟨hs.1, ?_, hs.2, ?_⟩
  · exact World.ownsRow.kept (World.ownsRow.alloc h2 o) hg (rows_apart (World.ownsRow.alloc h2 o) (World.ownsRow.alloc h1 o) (by decide))
  · rw [List.reverse_append]
    have := runs_new h4 hlo hc hn
    rwa [show nth E (i + 1) - 1 + 1 = nth E (i + 1) by omega] at this
theorem grown_dr {a b : World} {o : Obj} {r : Option Nat} (h : (a.alloc o).drew.grownBy b r) : (a.alloc o).grownBy b r := ⟨h.os, h.tape, h.output, h.size, h.block⟩
theorem own_drew {w : World} {B : Nat} {e : TypeId} {s : Nat} {v : Value} {n : Nat} {xs : List Value} (h : w.ownsRow B e s v n xs) (o : Obj) : (w.alloc o).drew.ownsRow B e s v n xs := World.ownsRow.alloc h o
theorem three_new' (w : World) (x y z : Value) (t : TypeId) : ∀ j u, [x, y, z][j]? = some u → (w.alloc (.cells #[x, y, z] t)).drew.cell? ((⟨w.heap.size, 0, none⟩ : Addr).add j) = some u := three_new w x y z t
set_option maxHeartbeats 4000000 in
set_option maxRecDepth 100000 in
theorem specSpans (k : Int) (hk : 1 ≤ k ∧ k ≤ 4) (w : World) :
    Calls Tryd.prog 17 #[.int .i64 k] w fun e w' => ∃ (v : Value) (L : List Sp), e = .returned v ∧ RunsR (valW k) L.reverse 32768 ∧ L.length ≤ 128 ∧ SpRow w' w.heap.size v L ∧ Below w.heap.size w w' := by
  obtain ⟨i0, hi, hz0, hz1, hz2⟩ := info_parts infoSp
  have HK := hide hk
  have k1 : ¬ k < 1 := by omega
  have k4 : ¬ 4 < k := by omega
  clear hk
  have O0 : Hid (SpRow (w.alloc (.cells #[] 33)) w.heap.size (.slice (some ⟨w.heap.size, 0, none⟩) 0 0) []) := hide (World.ownsRow_lit w #[] 0 (Nat.le_refl _) (by unfold maxLen; omega) rfl)
  have B0 : Hid (Below w.heap.size w (w.alloc (.cells #[] 33))) := hide ((Below.refl _ _).alloc (Nat.le_refl _) _)
  go_enter Tryd.func17, Tryd.ntmps17
  go_wp2_with fail
  refine (edges_any _).mono ?_
  rintro e w1 ⟨ve, rfl, hoe, hbe⟩
  have hEl := E_len
  have hEE : insAll 128 = E := rfl
  rw [hEE] at hoe
  clear hEE
  obtain ⟨ge, ce, hve, hge⟩ := owned_slice hoe (by show 0 < E.length; omega)
  subst hve
  have ED0 : Hid (EdRow w1 (w.alloc (.cells #[] 33)).heap.size ge ce) := hide hoe
  have O1 := hide ((unhide O0).below hbe)
  have B1 := hide ((unhide B0).trans (hbe.mono (unhide B0).size))
  clear hoe hbe O0 B0
  have S1 : Hid (SpL k w w1 (w.alloc (.cells #[] 33)).heap.size ge ce (.slice (some ⟨w.heap.size, 0, none⟩) 0 0) [] 0) := hide ⟨unhide O1, unhide ED0, unhide B1, by rw [E_first]; rfl⟩
  clear O1 ED0 B1
  generalize (w.alloc (.cells #[] 33)).heap.size = BE at *
  go_wp2
  go_loopw [3, 5] (fun sv iv wr => ∃ (L : List Sp) (i : Nat), i + 1 ≤ E.length ∧ L.length ≤ i ∧ iv = .int .i64 i ∧ Hid (SpL k w wr BE ge ce sv L i)) (fun _ i _ => E.length - (intOf i).toNat)
  case atStart => exact ⟨[], 0, by omega, by simp, rfl, S1⟩
  case round =>
    obtain ⟨L, i, hi1, hLi, rfl, HS⟩ := hrel
    clear S1
    by_cases hlt : i + 1 < E.length
    · have hlt' : (i : Int) + 1 < (E.length : Int) := by omega
      have e0 := (unhide HS).2.1.read i (by omega)
      go_wp2_with fail
      refine (l01What_any k (nth E i) (unhide HK) _).mono ?_
      rintro e w2 ⟨rfl, hb2⟩
      have HS2 := hide ((unhide HS).below hb2)
      clear hb2 e0 HS
      have e0 := (unhide HS2).2.1.read i (by omega)
      have e1 := (unhide HS2).2.1.read (i + 1) (by omega)
      have HC := hide (okS_const _ _ (E_ok i hlt) k)
      have hBs2 := (unhide HS2).2.2.1.size
      have b0 := E_bd i (by omega)
      have b1 := E_bd (i + 1) (by omega)
      have hlo : nth E i ≤ nth E (i + 1) - 1 := by
        have := E_ok i hlt
        simp only [okS, Bool.and_eq_true, decide_eq_true_eq] at this
        exact this.1.1
      obtain ⟨v, hv⟩ : ∃ v, valW k (nth E i) = v := ⟨_, rfl⟩
      rw [hv] at HC
      rw [hv]
      clear hv
      rcases List.eq_nil_or_concat L with rfl | ⟨L', ⟨x, y, u⟩, rfl⟩
      · obtain ⟨a, c, hsv, _⟩ := sp_form (unhide HS2).1
        have hll : ([] : List Sp).length = 0 := rfl
        rw [hll] at hsv
        subst hsv
        clear hll
        have HN : Hid (headNe ([] : List Sp).reverse v) := hide (headNe_nil v)
        have hii : (i : Int) < (E.length : Int) := by omega
        have hiN : i < E.length := by omega
        have h0i : (0 : Int) ≤ (i : Int) + 1 := by omega
        have hw1 : IntKind.i64.wrap ((i : Int) + 1) = (i : Int) + 1 := wrap_i64 _ (by omega) (by omega)
        have hw2 : IntKind.i64.wrap (nth E (i + 1) - 1) = nth E (i + 1) - 1 := wrap_i64 _ (by omega) (by omega)
        have d0 : ∀ o, (w2.alloc o).cell? ⟨ge, i, none⟩ = some (.int .i64 (nth E i)) := fun o => (World.cell?_of_block (Below.heap_alloc w2 o ge (block_lt_of_cell (a := ⟨ge, i, none⟩) e0))).trans e0
        have d1 : ∀ o, (w2.alloc o).cell? ⟨ge, i + 1, none⟩ = some (.int .i64 (nth E (i + 1))) := fun o => (World.cell?_of_block (Below.heap_alloc w2 o ge (block_lt_of_cell (a := ⟨ge, i, none⟩) e0))).trans e1
        go_upto_region 11 with fail
        go_region_law (refine step_append_own rfl (.tmp 55) (.tmp 68) 28 rfl w.heap.size 33 i0 (.agg #[.int .i64 0, .int .i64 0, .int .i64 0]) 3 24 Tryd.underlying28 hi hz0 hz1 hz2 rfl (by decide) _ _ _ (by simp [Act.eval]) (own_drew (unhide HS2).1 _) ⟨w2.heap.size, 0, none⟩ 1 1 [.int .i64 (nth E i), .int .i64 (nth E (i + 1) - 1), .int .i64 v] (by simp [Act.eval]) rfl (by first | exact three_new' _ _ _ _ _ | (rw [hw2]; exact three_new' _ _ _ _ _)) (three_one _ _ _) (by unfold maxLen; omega) (by omega) (by simp; omega) ?_; intro v' w3 hown' hgrow; have HS3 := hide (SpL.app (unhide HS2) hlo (fun p a b => (unhide HC) p a b) (unhide HN) hown' (grown_dr hgrow)); clear hown' hgrow)
        all_goals
          go_wp2
          go_roundw
          case rel => exact ⟨[] ++ [(nth E i, nth E (i + 1) - 1, v)], i + 1, by omega, by simp, by go_num, HS3⟩
          case measure => simp [intOf]; omega
      · rw [List.concat_eq_append] at *
        obtain ⟨a, c, hsv, hg⟩ := sp_form (unhide HS2).1
        obtain ⟨g, rfl, hgB, hgl⟩ := hg (by simp)
        have hll : (L' ++ [(x, y, u)]).length = L'.length + 1 := by simp
        rw [hll] at hsv hLi
        subst hsv
        obtain ⟨c1, f1⟩ := sp_cell (unhide HS2).1 1 (by omega)
        obtain ⟨c2, f2⟩ := sp_cell (unhide HS2).1 2 (by omega)
        simp only [List.getElem?_cons_succ, List.getElem?_cons_zero] at c1 c2
        by_cases huv : u = v
        · have huv' : (u == v) = true := by simpa using huv
          have HU := hide huv
          clear huv
          have HS3 := hide (SpL.upd (unhide HS2) hgB hlo (fun p a b => (unhide HC) p a b) (unhide HU))
          go_wp2
          go_roundw
          case rel => exact ⟨L' ++ [(x, nth E (i + 1) - 1, u)], i + 1, by omega, by simp; omega, by go_num, HS3⟩
          case measure => simp [intOf]; omega
        · have huv' : (u == v) = false := by simpa using huv
          have HN : Hid (headNe (L' ++ [(x, y, u)]).reverse v) := hide (by rw [List.reverse_append]; exact headNe_cons _ _ _ huv)
          clear huv
          have hii : (i : Int) < (E.length : Int) := by omega
          have hiN : i < E.length := by omega
          have h0i : (0 : Int) ≤ (i : Int) + 1 := by omega
          have hw1 : IntKind.i64.wrap ((i : Int) + 1) = (i : Int) + 1 := wrap_i64 _ (by omega) (by omega)
          have hw2 : IntKind.i64.wrap (nth E (i + 1) - 1) = nth E (i + 1) - 1 := wrap_i64 _ (by omega) (by omega)
          have d0 : ∀ o, (w2.alloc o).cell? ⟨ge, i, none⟩ = some (.int .i64 (nth E i)) := fun o => (World.cell?_of_block (Below.heap_alloc w2 o ge (block_lt_of_cell (a := ⟨ge, i, none⟩) e0))).trans e0
          have d1 : ∀ o, (w2.alloc o).cell? ⟨ge, i + 1, none⟩ = some (.int .i64 (nth E (i + 1))) := fun o => (World.cell?_of_block (Below.heap_alloc w2 o ge (block_lt_of_cell (a := ⟨ge, i, none⟩) e0))).trans e1
          go_upto_region 11 with fail
          go_region_law (refine step_append_own rfl (.tmp 55) (.tmp 68) 28 rfl w.heap.size 33 i0 (.agg #[.int .i64 0, .int .i64 0, .int .i64 0]) 3 24 Tryd.underlying28 hi hz0 hz1 hz2 rfl (by decide) _ _ _ (by simp [Act.eval]) (own_drew (unhide HS2).1 _) ⟨w2.heap.size, 0, none⟩ 1 1 [.int .i64 (nth E i), .int .i64 (nth E (i + 1) - 1), .int .i64 v] (by simp [Act.eval]) rfl (by first | exact three_new' _ _ _ _ _ | (rw [hw2]; exact three_new' _ _ _ _ _)) (three_one _ _ _) (by unfold maxLen; omega) (by omega) (by simp; omega) ?_; intro v' w3 hown' hgrow; have HS3 := hide (SpL.app (unhide HS2) hlo (fun p a b => (unhide HC) p a b) (unhide HN) hown' (grown_dr hgrow)); clear hown' hgrow)
          all_goals
            go_wp2
            go_roundw
            case rel => exact ⟨(L' ++ [(x, y, u)]) ++ [(nth E i, nth E (i + 1) - 1, v)], i + 1, by omega, by simp; omega, by go_num, HS3⟩
            case measure => simp [intOf]; omega
    · have hge : (E.length : Int) ≤ (i : Int) + 1 := by omega
      have hie : i = E.length - 1 := by omega
      have HR : Hid (RunsR (valW k) L.reverse 32768) := hide (by have := (unhide HS).2.2.2; rw [hie, E_last] at this; exact this)
      clear hie
      go_wp2
      go_ret
      exact ⟨_, _, rfl, unhide HR, by omega, (unhide HS).1, (unhide HS).2.2.1⟩
end Go.Proofs.YtbkeaoplncaihaaDoor.Kd
