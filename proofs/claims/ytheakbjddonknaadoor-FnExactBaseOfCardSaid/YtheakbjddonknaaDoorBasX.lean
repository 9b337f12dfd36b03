/- What l09TextOf lays. -/
import Derived.Test.YtheakbjddonknaaDoorBasW
import Derived.Test.YtheakbjddonknaaDoorAppG
import Derived.Deep.Cut
import Derived.RegionTactic
import Derived.ChangeAlike
namespace Go.Proofs.YtheakbjddonknaaDoor.Bs
open Go.RowKit Chr
set_option linter.unusedVariables false
theorem info3 : (Tryd.prog.info? 3).map (fun i => (i.zero, i.size, i.bytes)) = some (some (.int .i64 0), 1, 8) := by kernel_rfl
theorem alloc_at (w : World) (o : Obj) : (w.alloc o).heap[w.heap.size]? = some o := heap_alloc_last _ _
/-- The open isolates, the last one last. -/
def opn (C : List Int) (k : Nat) : List Int := ((stk C k).1.reverse).map fun (i : Nat) => (i : Int)
theorem opn_iso {C : List Int} {k : Nat} (h : 16 ≤ nth C k ∧ nth C k ≤ 18) : opn C (k + 1) = opn C k ++ [(k : Int)] := by unfold opn; rw [stk_iso h]; simp
theorem opn_pop {C : List Int} {k i : Nat} {r : List Nat} (h : nth C k = 19) (e : (stk C k).1 = i :: r) : opn C k = opn C (k + 1) ++ [(i : Int)] := by unfold opn; rw [stk_pop h e, e]; simp
theorem stk_len1 (C : List Int) (k : Nat) : (stk C k).1.length ≤ k := by
  induction k with
  | zero => simp [stk]
  | succ k ih =>
    rcases stk_way C k with h | h | ⟨h, e⟩ | ⟨h, i, r, e⟩ | ⟨h1, h2, h3⟩
    · rw [stk_iso h]; simp; omega
    · rw [stk_b h]; simp
    · rw [stk_none h e]; simp
    · rw [stk_pop h e]; rw [e] at ih; simp at ih ⊢; omega
    · rw [stk_oth h1 h2 h3]; show (stk C k).1.length ≤ k + 1; omega
theorem opn_len (C : List Int) (k : Nat) : (opn C k).length = (stk C k).1.length := by simp [opn]
theorem box_cells {w : World} {g : Nat} {a b c d e : Value} {t : TypeId} (h : w.heap[g]? = some (.cells #[a, b, c, d, e] t (0, 0))) : w.cell? ⟨g, 1, none⟩ = some b ∧ w.cell? ⟨g, 2, none⟩ = some c ∧ w.cell? ⟨g, 4, none⟩ = some e ∧ ∀ i, w.frozen? ⟨g, i, none⟩ = false := by
  refine ⟨?_, ?_, ?_, fun i => ?_⟩ <;> simp [World.cell?, World.frozen?, h]
theorem row_form {w : World} {B : Nat} {e : TypeId} {v : Value} {n : Nat} {xs : List Value} (h : w.ownsRow B e 1 v n xs) : ∃ a c, v = .slice a n c ∧ (0 < n → ∃ g, a = some ⟨g, 0, none⟩) := by
  rcases h.2 with ⟨hv, hn⟩ | ⟨g, cap, cur, hv, hg, hh, _⟩
  · exact ⟨none, 0, by rw [hv, hn], fun h => by omega⟩
  · exact ⟨_, _, hv, fun _ => ⟨g, rfl⟩⟩
theorem row_cell {w : World} {B g c n : Nat} {e : TypeId} {F : List Int} (h : w.ownsRow B e 1 (.slice (some ⟨g, 0, none⟩) n c) n (F.map (Value.int .i64))) (i : Nat) (hi : i < n) : w.cell? ⟨g, i, none⟩ = some (.int .i64 (nth F i)) ∧ w.frozen? ⟨g, i, none⟩ = false := by
  refine ⟨?_, World.ownsRow.frozenAt h i⟩
  have e : F.length = n := by have := h.1; simpa using this
  rw [World.ownsRow.cellAt h i (by omega), List.getElem?_map]
  simp [nth, List.getD, e, hi]
theorem setQn {w wr : World} {g b cap n : Nat} {pv cv lv fv ov : Value} {F Q O : List Int} (h : TS w wr g pv cv lv fv (.slice (some ⟨b, 0, none⟩) n cap) ov F Q O) (hn : n = Q.length) (i : Nat) (x : Int) :
    TS w (wr.setCell ⟨b, i, none⟩ (.int .i64 x)) g pv cv lv fv (.slice (some ⟨b, 0, none⟩) n cap) ov F (Q.set i x) O := by
  subst hn
  exact h.setQ i x
theorem drew_bel (w : World) : Below w.heap.size w w.drew := ⟨rfl, rfl, rfl, Nat.le_refl _, fun _ _ => rfl⟩
theorem row_cap {w : World} {B g c n : Nat} {e : TypeId} {xs : List Value} (h : w.ownsRow B e 1 (.slice (some ⟨g, 0, none⟩) n c) n xs) : n ≤ c := by
  rcases h.2 with ⟨hv, hn⟩ | ⟨g', cap, cur, hv, hg, hh, hn, _⟩
  · cases hv
  · injection hv with _ _ e3
    omega
theorem owned_at {w : World} {base : Nat} {e : TypeId} {v : Value} {l : List Int} {n : Nat} (h : w.ownsRow base e 1 v n (l.map (Value.int .i64))) : IntsAt w v l := by
  have hn : l.length = n := by have := h.1; simpa using this
  rcases h.2 with ⟨hv, h0⟩ | ⟨g, cap, cur, hv, hg, hh, r⟩
  · have : l = [] := List.eq_nil_of_length_eq_zero (by omega)
    subst this
    exact ⟨none, 0, by rw [hv]; rfl, .inl rfl⟩
  · subst hv
    refine ⟨some ⟨g, 0, none⟩, cap, by rw [hn], .inr ⟨g, 0, rfl, (Array.getElem?_eq_some_iff.1 hh).1, fun i hi => ?_⟩⟩
    have c := (row_cell h i (by omega)).1
    rw [Nat.zero_add]
    exact c
theorem TS.done {w wr : World} {g : Nat} {pv cv lv fv qv ov : Value} {F Q O : List Int} (h : TS w wr g pv cv lv fv qv ov F Q O) (u : Value) :
    (wr.setCell ⟨g, 2, none⟩ u).cell? ⟨g, 1, none⟩ = some fv ∧ (wr.setCell ⟨g, 2, none⟩ u).cell? ⟨g, 4, none⟩ = some qv ∧ IntsAt (wr.setCell ⟨g, 2, none⟩ u) fv F ∧ IntsAt (wr.setCell ⟨g, 2, none⟩ u) qv Q ∧ Below w.heap.size w (wr.setCell ⟨g, 2, none⟩ u) := by
  have b : (wr.setCell ⟨g, 2, none⟩ u).heap[g]? = some (.cells #[pv, fv, u, lv, qv] 35 (0, 0)) := by rw [heap_setCell_same _ _ _ _ _ _ h.bx]; rfl
  have oth : ∀ k, k ≠ g → (wr.setCell ⟨g, 2, none⟩ u).heap[k]? = wr.heap[k]? := fun k hk => heap_setCell_other wr ⟨g, 2, none⟩ k _ hk
  obtain ⟨b1, _, b4, _⟩ := box_cells b
  refine ⟨b1, b4, ?_, ?_, h.bel.setCell (p := ⟨g, 2, none⟩) h.gB _⟩
  · exact owned_at (row_at h.fo (fun k e => oth k (fun e2 => h.nf (by rw [← e2]; exact e))))
  · exact owned_at (row_at h.qo (fun k e => oth k (fun e2 => h.nq (by rw [← e2]; exact e))))
theorem alloc_sz (w : World) (o : Obj) : (w.alloc o).heap.size = w.heap.size + 1 := by simp
set_option maxHeartbeats 4000000 in
set_option maxRecDepth 100000 in
theorem textLays : TextLays := by
  intro v L w h hl
  have HV : Hid (∀ wr, Below w.heap.size w wr → ∀ k, k < L.length → ∃ a b off c, v = .slice a L.length c ∧ a = some ⟨b, off, none⟩ ∧ wr.cell? ⟨b, off + k, none⟩ = some (.int .i64 (nth L k))) := hide (fun wr hb k hk => by
    obtain ⟨a, c, e, hc⟩ := cells_of (h.below hb)
    obtain ⟨b, off, e2, hcell⟩ := hc k hk
    exact ⟨a, b, off, c, e, e2, hcell⟩)
  obtain ⟨va, vc, rfl, _⟩ := h
  obtain ⟨i0, hi, hz0, hz1, hz2⟩ := info_parts info2
  obtain ⟨j0, hj, hy0, hy1, hy2⟩ := info_parts info3
  go_enter Tryd.func7, Tryd.ntmps7
  go_wp2_with (at_make; refine wpList_make_full _ rfl _ _ 24 rfl w.heap.size 2 i0 (.int .i64 0) 1 Tryd.underlying24 hi hz0 hz1 .i64 .i64 _ _ L.length rfl rfl rfl rfl ?b2 ?b3 ?b4 ?_)
  case b2 => rw [hz2]; omega
  case b3 => unfold maxLen; omega
  case b4 => omega
  intro w1 hown hgrow
  have HB1 := hide (made_below hgrow)
  have z1 := (unhide HB1).size
  clear hown hgrow
  have T0 : Hid (TS w (w1.alloc (.cells #[.slice va L.length vc, .slice none 0 0, .slice none 0 0, .slice (some ⟨w.heap.size, 0, none⟩) L.length L.length, .slice none 0 0] 35)) w1.heap.size (.slice va L.length vc) (.slice none 0 0) (.slice (some ⟨w.heap.size, 0, none⟩) L.length L.length) (.slice none 0 0) (.slice none 0 0) (.slice none 0 0) [] [] []) := hide
    ⟨alloc_at _ _, World.ownsRow_nil _ _ _ _, World.ownsRow_nil _ _ _ _, World.ownsRow_nil _ _ _ _, z1, by simp [Value.ownBlock], by simp [Value.ownBlock], by simp [Value.ownBlock], fun b hb => by simp [Value.ownBlock] at hb, fun b hb => by simp [Value.ownBlock] at hb, fun b hb => by simp [Value.ownBlock] at hb, (unhide HB1).alloc z1 _⟩
  have t1 := (unhide T0).newO
  rw [alloc_sz] at t1
  have T1 := hide t1
  clear t1 T0 HB1
  have EC : Hid (∀ k, k < L.length → nth (L.map clS) k = clS (nth L k) ∧ (L.map clS).take (k + 1) = (L.map clS).take k ++ [clS (nth L k)]) := hide (fun k hk => by
    have e : nth L k = L[k] := by simp [nth, List.getD, hk]
    have e1 : nth (L.map clS) k = clS (nth L k) := by simp [nth, List.getD, hk]
    refine ⟨e1, ?_⟩
    rw [List.take_succ_eq_append_getElem (by simpa using hk)]
    simp [e])
  obtain ⟨C, hC⟩ : ∃ C, C = L.map clS := ⟨_, rfl⟩
  have HC := hide hC
  have hCl : C.length = L.length := by rw [hC]; simp
  rw [← hC] at EC
  clear hC
  have T2 : Hid (TS w _ w1.heap.size (.slice va L.length vc) (.slice none 0 0) (.slice (some ⟨w.heap.size, 0, none⟩) L.length L.length) (.slice none 0 0) (.slice none 0 0) (.slice (some ⟨w1.heap.size + 1, 0, none⟩) 0 0) (C.take 0) (stk C 0).2 (opn C 0)) := T1
  clear T1
  go_wp2
  go_loopw [4, 5] (fun ov i wr => ∃ (k : Nat) (fv qv : Value), k ≤ L.length ∧ i = .int .i64 k ∧ Hid (k = 0 → fv = .slice none 0 0) ∧ Hid (TS w wr w1.heap.size (.slice va L.length vc) (.slice none 0 0) (.slice (some ⟨w.heap.size, 0, none⟩) L.length L.length) fv qv ov (C.take k) (stk C k).2 (opn C k))) (fun _ i _ => L.length - (intOf i).toNat)
  case atStart => exact ⟨0, _, _, Nat.zero_le _, rfl, hide (fun _ => rfl), T2⟩
  case round =>
    obtain ⟨k, fv, qv, hk, rfl, HF0, T⟩ := hrel
    clear T2
    by_cases hlt : k < L.length
    · have hlt' : (k : Int) < (L.length : Int) := by omega
      obtain ⟨a', b, off, c', ev, rfl, c1⟩ := unhide HV wr (unhide T).bel k hlt
      injection ev with e1 e2 e3
      subst e1 e3
      obtain ⟨ec1, ec2⟩ := unhide EC k hlt
      have EC1 := hide ec1
      have EC2 := hide ec2
      obtain ⟨c, hc⟩ : ∃ c, c = clS (nth L k) := ⟨_, rfl⟩
      have CL := hide (l09Class_any (nth L k) wr)
      rw [← hc] at CL EC1 EC2
      clear ec1 ec2 hc e2 HF0
      generalize nth L k = p at *
      go_wp2_with fail
      refine (unhide CL).mono ?_
      rintro e w2 ⟨rfl, hb2⟩
      have T2 := hide ((unhide T).below hb2)
      obtain ⟨f1, _, _, _⟩ := (unhide T2).cells
      have ml : (C.take k).length = k := by simp; omega
      generalize C.take k = F at *
      have s2 := (unhide T2).bel.size
      have c1a : (w2.alloc (.cells #[.int .i64 c] 2)).cell? ⟨w1.heap.size, 1, none⟩ = some fv := (((Below.refl _ _).alloc (Nat.le_refl _) _ : Below w2.heap.size w2 _).cell (p := ⟨w1.heap.size, 1, none⟩) (unhide T2).lt).trans f1
      clear hb2 T CL
      go_wp2_with (at_builtin; go_loud (refine wpList_appG _ rfl _ _ 24 rfl w.heap.size 2 i0 (.int .i64 0) 1 8 Tryd.underlying24 hi hz0 hz1 hz2 rfl (by decide) _ _ _ rfl (owned_alloc (unhide T2).fo _) ⟨w2.heap.size, 0, none⟩ 1 1 [.int .i64 c] rfl rfl (cell_one_new _ _ _) (by intro u hu; simp at hu; subst hu; rfl) (by unfold maxLen; omega) (by omega) (by simp; omega) ?_))
      intro fv' w3 hown' hgrow hblk
      have hb3 := box_cells (((unhide T2).other hgrow _ (unhide T2).lt (unhide T2).nf).trans (unhide T2).bx)
      obtain ⟨d1, _, _, d4⟩ := hb3
      have d4' := d4 1
      have hown2 : w3.ownsRow w.heap.size 2 1 fv' (F.length + 1) (F.map (Value.int .i64) ++ [.int .i64 c]) := by rw [ml]; exact hown'
      obtain ⟨fa, fc, rfl, hfa⟩ := row_form hown2
      obtain ⟨fb, rfl⟩ := hfa (by omega)
      have T3 := hide ((unhide T2).appF hown2 hgrow hblk)
      rw [ml] at T3
      rw [← unhide EC2] at T3
      obtain ⟨_, g4, _, _⟩ := (unhide T3).cells
      have sl := stk_len C k
      have s3 := (unhide T3).bel.size
      clear hown' hown2 hgrow hblk d4 T2 f1 c1a
      go_upto_region 8 with fail
      generalize w3.setCell ⟨w1.heap.size, 1, none⟩ (.slice (some ⟨fb, 0, none⟩) (k + 1) fc) = w4 at *
      generalize hQ : (stk C k).2 = Q at *
      have s4 := (unhide T3).bel.size
      go_wp2_with (at_builtin; go_loud (refine wpList_appG _ rfl _ _ 33 rfl w.heap.size 3 j0 (.int .i64 0) 1 8 Tryd.underlying33 hj hy0 hy1 hy2 rfl (by decide) _ _ _ rfl (owned_alloc (unhide T3).qo _) ⟨w4.heap.size, 0, none⟩ 1 1 [.int .i64 (-1)] rfl rfl (cell_one_new _ _ _) (by intro u hu; simp at hu; subst hu; rfl) (by unfold maxLen; omega) (by omega) (by simp; omega) ?_))
      intro qv' w5 hown' hgrow hblk
      have hown2 : w5.ownsRow w.heap.size 3 1 qv' (Q.length + 1) (Q.map (Value.int .i64) ++ [.int .i64 (-1)]) := by rw [sl]; exact hown'
      obtain ⟨_, _, e1, ef⟩ := box_cells (((unhide T3).other hgrow _ (unhide T3).lt (unhide T3).nq).trans (unhide T3).bx)
      have ef4 := ef 4
      obtain ⟨qa, qc, rfl, hqa⟩ := row_form hown2
      obtain ⟨qb, rfl⟩ := hqa (by omega)
      have T4 := hide ((unhide T3).appQ hown2 hgrow hblk)
      rw [sl] at T4
      obtain ⟨oa, oc, rfl, hoa⟩ := row_form (unhide T4).oo
      have ol : (opn C k).length ≤ 1000 := by rw [opn_len]; have := stk_len1 C k; omega
      have HOA := hide hoa
      clear hown' hown2 hgrow hblk ef T3 hqa hoa hfa g4 c1
      go_upto_region 9 with fail
      generalize w5.setCell ⟨w1.heap.size, 4, none⟩ (.slice (some ⟨qb, 0, none⟩) (k + 1) qc) = w6 at *
      clear e1 ef4 d1 d4'
      have s6 := (unhide T4).bel.size
      have CI := hide (fun W => sIso_any c W)
      have WY := stk_way C k
      have ec := unhide EC1
      rcases WY with h | h | ⟨h, e⟩ | ⟨h, i, r, e⟩ | ⟨h1, h2, h3⟩
      · have EO := hide (opn_iso h)
        have EQ : Hid ((stk C (k + 1)).2 = Q ++ [-1]) := hide (by rw [stk_iso h, hQ])
        rw [ec] at h
        rw [decide_eq_true h] at CI
        clear h ec EC1 hQ HOA
        generalize opn C k = O at *
        go_wp2_with fail
        refine ((unhide CI) _).mono ?_
        rintro e w7 ⟨rfl, rfl⟩
        go_wp2_with (at_builtin; go_loud (refine wpList_appG _ rfl _ _ 33 rfl w.heap.size 3 j0 (.int .i64 0) 1 8 Tryd.underlying33 hj hy0 hy1 hy2 rfl (by decide) _ _ _ rfl (owned_alloc (unhide T4).oo _) ⟨w7.heap.size, 0, none⟩ 1 1 [.int .i64 (k : Int)] rfl rfl (cell_one_new _ _ _) (by intro u hu; simp at hu; subst hu; rfl) (by unfold maxLen; omega) (by omega) (by simp; omega) ?_))
        intro ov' w8 hown' hgrow hblk
        have T5 := hide ((unhide T4).appO hown' hgrow hblk)
        rw [← unhide EO, ← unhide EQ] at T5
        clear hown' hgrow hblk
        go_wp2
        go_roundw
        case rel => exact ⟨k + 1, _, _, by omega, by go_num, hide (by omega), T5⟩
        case measure => simp [intOf]; omega
      · have EO : Hid (opn C (k + 1) = []) := hide (by unfold opn; rw [stk_b h]; rfl)
        have EQ : Hid ((stk C (k + 1)).2 = Q ++ [-1]) := hide (by rw [stk_b h, hQ])
        rw [ec] at h
        rw [decide_eq_false (show ¬ (16 ≤ c ∧ c ≤ 18) by omega)] at CI
        have y6 : (c == 6) = true := by simpa using h
        clear h ec EC1 hQ HOA
        generalize opn C k = O at *
        have T5 := hide ((unhide T4).newO)
        rw [← unhide EQ] at T5
        rw [← unhide EO] at T5
        go_wp2_with fail
        refine ((unhide CI) _).mono ?_
        rintro e w7 ⟨rfl, rfl⟩
        go_wp2
        go_roundw
        case rel => exact ⟨k + 1, _, _, by omega, by go_num, hide (by omega), T5⟩
        case measure => simp [intOf]; omega
      · have e0 : opn C k = [] := by unfold opn; rw [e]; rfl
        have EO : Hid (opn C (k + 1) = []) := hide (by unfold opn; rw [stk_none h e]; rfl)
        have EQ : Hid ((stk C (k + 1)).2 = Q ++ [-1]) := hide (by rw [stk_none h e, hQ])
        rw [ec] at h
        rw [decide_eq_false (show ¬ (16 ≤ c ∧ c ≤ 18) by omega)] at CI
        have y6 : (c == 6) = false := by simp; omega
        have y19 : (c == 19) = true := by simpa using h
        rw [e0] at T4
        have T5 := T4
        rw [← unhide EQ] at T5
        rw [← unhide EO] at T5
        rw [unhide EO] at T5
        rw [e0]
        clear h ec EC1 hQ HOA
        go_wp2_with fail
        refine ((unhide CI) _).mono ?_
        rintro e w7 ⟨rfl, rfl⟩
        go_wp2
        go_roundw
        case rel => exact ⟨k + 1, _, _, by omega, by go_num, hide (by omega), hide (by rw [unhide EO]; exact unhide T5)⟩
        case measure => simp [intOf]; omega
      · have EO := hide (opn_pop h e)
        have il : i < k := stk_lt C k i (by rw [e]; simp)
        have EQ : Hid ((stk C (k + 1)).2 = ((Q ++ [-1]).set k (i : Int)).set i (k : Int)) := hide (by rw [stk_pop h e, hQ])
        rw [ec] at h
        rw [decide_eq_false (show ¬ (16 ≤ c ∧ c ≤ 18) by omega)] at CI
        have y6 : (c == 6) = false := by simp; omega
        have y19 : (c == 19) = true := by simpa using h
        generalize opn C k = O at *
        obtain ⟨P, hP⟩ : ∃ P, P = opn C (k + 1) := ⟨_, rfl⟩
        rw [← hP] at EO
        have HP := hide hP
        have eo := unhide EO
        subst eo
        obtain ⟨m, hm⟩ : ∃ m, m = P.length := ⟨_, rfl⟩
        have hlen : (P ++ [(i : Int)]).length = m + 1 := by simp [hm]
        rw [hlen] at T4 HOA ol ⊢
        obtain ⟨ob, rfl⟩ := unhide HOA (by omega)
        obtain ⟨x1, _⟩ := row_cell (by have := (unhide T4).oo; rw [hlen] at this; exact this) m (by omega)
        have x1' : nth (P ++ [(i : Int)]) m = (i : Int) := nth_last _ _ _ hm
        rw [x1'] at x1
        have hql : k + 1 = (Q ++ [(-1 : Int)]).length := by simp [sl]
        obtain ⟨_, b4, _, _⟩ := (unhide T4).cells
        obtain ⟨p4, pf4⟩ := row_cell (by have := (unhide T4).qo; rw [← hql] at this; exact this) k (by omega)
        have T5 := hide (setQn (unhide T4) hql k (i : Int))
        have hql5 : k + 1 = ((Q ++ [(-1 : Int)]).set k (i : Int)).length := by simp [sl]
        obtain ⟨_, b5, _, _⟩ := (unhide T5).cells
        obtain ⟨x2, _⟩ := row_cell (by have := (unhide T5).oo; rw [hlen] at this; exact this) m (by omega)
        rw [x1'] at x2
        obtain ⟨p5, pf5⟩ := row_cell (by have := (unhide T5).qo; rw [← hql5] at this; exact this) i (by omega)
        have T5d := hide ((unhide T5).below (drew_bel _))
        obtain ⟨_, b5d, _, _⟩ := (unhide T5d).cells
        obtain ⟨x2d, _⟩ := row_cell (by have := (unhide T5d).oo; rw [hlen] at this; exact this) m (by omega)
        rw [x1'] at x2d
        obtain ⟨p5d, pf5d⟩ := row_cell (by have := (unhide T5d).qo; rw [← hql5] at this; exact this) i (by omega)
        have T6 := hide (((setQn (unhide T5) hql5 i (k : Int)).below (drew_bel _)).below (drew_bel _))
        have hoc : m + 1 ≤ oc := row_cap (by have := (unhide T4).oo; rw [hlen] at this; exact this)
        have hoc' : (m : Int) ≤ (oc : Int) := by omega
        have hoc0 : ¬ oc = 0 := by omega
        have T7 := hide ((unhide T6).cutO)
        rw [← hm, ← unhide EQ] at T7
        have hil : (i : Int) < (k : Int) + 1 := by omega
        have h0i : (0 : Int) ≤ (i : Int) := by omega
        generalize nth (Q ++ [-1]) k = y1 at *
        generalize nth ((Q ++ [(-1 : Int)]).set k (i : Int)) i = y2 at *
        clear T4 T5 T5d T6 hlen hm h ec EC1 hQ HOA EO EQ x1' hP e hql hql5 sl ml
        go_wp2_with fail
        refine ((unhide CI) _).mono ?_
        rintro e w7 ⟨rfl, rfl⟩
        go_wp2
        go_region
        clear b4 p4 pf4 x1
        go_wp2
        go_region
        go_wp2
        go_roundw
        case rel => exact ⟨k + 1, _, _, by omega, by go_num, hide (by omega), hide (by rw [← unhide HP]; exact unhide T7)⟩
        case measure => simp [intOf]; omega
      · have EO : Hid (opn C (k + 1) = opn C k) := hide (by unfold opn; rw [stk_oth h1 h2 h3])
        have EQ : Hid ((stk C (k + 1)).2 = Q ++ [-1]) := hide (by rw [stk_oth h1 h2 h3, hQ])
        rw [ec] at h1 h2 h3
        rw [decide_eq_false h1] at CI
        have y6 : (c == 6) = false := by simpa using h2
        have y19 : (c == 19) = false := by simpa using h3
        clear h1 h2 h3 ec EC1 hQ HOA
        generalize opn C k = O at *
        go_wp2_with fail
        refine ((unhide CI) _).mono ?_
        rintro e w7 ⟨rfl, rfl⟩
        go_wp2
        go_roundw
        case rel => exact ⟨k + 1, _, _, by omega, by go_num, hide (by omega), hide (by rw [unhide EO, unhide EQ]; exact unhide T4)⟩
        case measure => simp [intOf]; omega
    · obtain rfl : k = L.length := by omega
      have hB : Below wr.heap.size wr (wr.alloc (.cells #[] 2)) := (Below.refl _ _).alloc (Nat.le_refl _) _
      have TA := hide ((unhide T).below hB)
      obtain ⟨a1, _, a2, af⟩ := (unhide TA).cells
      have af2 := af 2
      have ff := row_form (unhide TA).fo
      have ect : C.take L.length = C := by rw [← hCl]; exact List.take_length
      rw [ect] at ff TA
      have HE : Hid ((stk C L.length).2 = (stk (L.map clS) (L.map clS).length).2) := hide (by rw [← unhide HC, hCl])
      have E0 : (wr.alloc (.cells #[] 2)).ownsRow wr.heap.size 2 1 (.slice (some ⟨wr.heap.size, 0, none⟩) 0 0) 0 [] := World.ownsRow_lit wr #[] 0 (Nat.le_refl _) (by unfold maxLen; omega) rfl
      have HE0 := hide E0
      obtain ⟨fa, fc, rfl, hfa⟩ := ff
      by_cases hz : L.length = 0
      · have e0 := unhide HF0 hz
        injection e0 with e1 e2 e3
        subst e1 e3
        have hz' : (C.length) = 0 := by omega
        rw [hz'] at a1 TA
        have TD := hide ((unhide TA).done (.slice (some ⟨wr.heap.size, 0, none⟩) 0 0))
        clear af hfa e2 T HF0
        go_wp2
        go_ret
        obtain ⟨q1, q2, q3, q4, q5⟩ := unhide TD
        exact ⟨_, _, _, rfl, q1, q2, by rw [← unhide HC]; exact q3, by rw [← unhide HE]; exact q4, q5⟩
      · obtain ⟨fb, rfl⟩ := hfa (by omega)
        rw [hCl] at a1 TA
        have NC : Hid (∀ j u, (C.map (Value.int .i64))[j]? = some u → (wr.alloc (.cells #[] 2)).cell? ((⟨fb, 0, none⟩ : Addr).add j) = some u) := hide (fun j u hu => by
          have hj : j < C.length := by
            have := (List.getElem?_eq_some_iff.1 hu).1
            simpa using this
          have fo := (unhide TA).fo
          rw [hCl] at fo
          have c := World.ownsRow.cellAt fo j (by omega)
          rw [hu] at c
          have e : (⟨fb, 0, none⟩ : Addr).add j = ⟨fb, j, none⟩ := by
            simp [Addr.add]
            omega
          rw [e]
          exact c)
        have hnl : (C.map (Value.int .i64)).length = L.length * 1 := by simp [hCl]
        have h1c : ∀ u ∈ C.map (Value.int .i64), u.oneCell' = true := by
          intro u hu
          obtain ⟨x, _, rfl⟩ := List.mem_map.1 hu
          rfl
        have HL1 := hide hnl
        have H1C := hide h1c
        clear af hfa hnl h1c
        go_wp2_with (at_builtin; go_loud (refine wpList_appG _ rfl _ _ 24 rfl wr.heap.size 2 i0 (.int .i64 0) 1 8 Tryd.underlying24 hi hz0 hz1 hz2 rfl (by decide) _ _ _ rfl (unhide HE0) ⟨fb, 0, none⟩ L.length fc (C.map (Value.int .i64)) rfl (unhide HL1) (unhide NC) (unhide H1C) (by unfold maxLen; omega) (by omega) (by simp) ?_))
        intro cv' w3 hown' hgrow hblk
        have hB3 : Below wr.heap.size wr w3 := hB.trans ((Below.refl _ _).grown hgrow (by simp) (fun k hk => by simp [Value.ownBlock] at hk; omega))
        have T3 := hide ((unhide T).below hB3)
        rw [ect] at T3
        obtain ⟨_, _, g2, gf⟩ := (unhide T3).cells
        have gf2 := gf 2
        obtain ⟨ca, cc, rfl, hca⟩ := row_form hown'
        obtain ⟨cb, rfl⟩ := hca (by omega)
        have TD := hide ((unhide T3).done (.slice (some ⟨cb, 0, none⟩) (0 + L.length) cc))
        clear hown' hgrow hblk gf hca
        go_wp2
        go_ret
        obtain ⟨q1, q2, q3, q4, q5⟩ := unhide TD
        rw [Nat.zero_add] at q1 q2 q3 q4 q5
        exact ⟨_, _, _, rfl, q1, q2, by rw [← unhide HC]; exact q3, by rw [← unhide HE]; exact q4, q5⟩
theorem lawBaseOf (s : ByteArray) (w : World) (ht : TabAt w) :
    Calls Tryd.prog 3 #[.string s] w fun e w' => e = .returned (.bool true) ∧ Below w.heap.size w w' := lawBase textLays s w ht
end Go.Proofs.YtheakbjddonknaaDoor.Bs
