/- Scripts and systems of digits, as the specification tells them. -/
import Derived.Test.YtomgficdlfadaaaDoorRisJ
import Derived.Test.YtomgficdlfadaaaDoorNPts
namespace Go.Proofs.YtomgficdlfadaaaDoor.Ris
open Go.RowKit
set_option linter.unusedVariables false
set_option maxRecDepth 100000 in
theorem letS (p : Int) (w : World) : Calls Tryd.prog 21 #[.int .i64 p] w fun e w' => e = .returned (.bool (let1 p)) ∧ Below w.heap.size w w' := by
  have hU : undef = Value.tuple #[] := rfl
  have C := hide (specCat p w)
  rw [cat_eq] at C
  have HL : Hid (let1 p = ((catI p == 4 || catI p == 5 || catI p == 6) || catI p == 7)) := hide rfl
  generalize let1 p = l at *
  generalize catI p = c at *
  by_cases h4 : c = 4
  · subst h4
    go_enter Tryd.func21, Tryd.ntmps21
    go_wp2_with (go_at_call 31; refine (unhide C).mono ?_; rintro e w1 ⟨rfl, hb1⟩)
    go_ret
    exact ⟨by rw [unhide HL]; rfl, hb1⟩
  · have n4 := bf h4
    by_cases h5 : c = 5
    · subst h5
      go_enter Tryd.func21, Tryd.ntmps21
      go_wp2_with (go_at_call 31; refine (unhide C).mono ?_; rintro e w1 ⟨rfl, hb1⟩)
      go_ret
      exact ⟨by rw [unhide HL]; rfl, hb1⟩
    · have n5 := bf h5
      by_cases h6 : c = 6
      · subst h6
        go_enter Tryd.func21, Tryd.ntmps21
        go_wp2_with (go_at_call 31; refine (unhide C).mono ?_; rintro e w1 ⟨rfl, hb1⟩)
        go_ret
        exact ⟨by rw [unhide HL]; rfl, hb1⟩
      · have n6 := bf h6
        rw [n4, n5, n6] at HL
        go_enter Tryd.func21, Tryd.ntmps21
        go_wp2_with (go_at_call 31; refine (unhide C).mono ?_; rintro e w1 ⟨rfl, hb1⟩)
        go_ret
        exact ⟨by rw [unhide HL]; rfl, hb1⟩
theorem al1 (w : World) (a : Obj) : Below w.heap.size w (w.alloc a) := (Below.refl _ _).alloc (Nat.le_refl _) _
theorem ones (M : List Int) : ∀ u ∈ M.map (Value.int .i64), u.oneCell' = true := by
  intro u hu
  obtain ⟨x, _, rfl⟩ := List.mem_map.1 hu
  rfl
/-- A row of the call's own that has its block. -/
def Ob (B : Nat) (w : World) (v : Value) (l : List Int) : Prop := w.ownsRow B 2 1 v l.length (l.map (Value.int .i64)) ∧ ∃ g c, v = .slice (some ⟨g, 0, none⟩) l.length c ∧ l.length ≤ c ∧ c ≤ maxLen ∧ g < w.heap.size
theorem Ob.below {B : Nat} {w w' : World} {v : Value} {l : List Int} (h : Ob B w v l) (hb : Below w.heap.size w w') : Ob B w' v l := by
  obtain ⟨h1, g, c, e, h2, h3, h4⟩ := h
  exact ⟨ownsRow_below h1 hb, g, c, e, h2, h3, Nat.lt_of_lt_of_le h4 hb.size⟩
theorem Ob.of {B : Nat} {w : World} {v : Value} {l : List Int} (h : w.ownsRow B 2 1 v l.length (l.map (Value.int .i64))) (hn : l ≠ []) : Ob B w v l := by
  refine ⟨h, ?_⟩
  rcases h.2 with ⟨_, hn'⟩ | ⟨g, cap, cur, hv, hg, hh, h1, h2, r⟩
  · exact absurd (List.length_eq_zero_iff.1 hn') hn
  · exact ⟨g, cap, hv, h1, h2, (Array.getElem?_eq_some_iff.1 hh).1⟩
theorem ob_lit (w : World) : Ob w.heap.size (w.alloc (.cells #[] 2)) (.slice (some ⟨w.heap.size, 0, none⟩) 0 0) [] :=
  ⟨World.ownsRow_lit w #[] 0 (Nat.le_refl _) (by unfold maxLen; omega) rfl, _, _, rfl, by simp, by omega, by simp⟩
theorem put_ne (l : List Int) (n : Int) : put l n ≠ [] := by
  cases l with
  | nil => simp [put]
  | cons a l =>
    unfold put
    split
    · simp
    · split <;> simp
theorem cell_of {B : Nat} {w : World} {g c : Nat} {l : List Int} (h : w.ownsRow B 2 1 (.slice (some ⟨g, 0, none⟩) l.length c) l.length (l.map (Value.int .i64))) (i : Nat) (hi : i < l.length) : w.cell? ⟨g, i, none⟩ = some (.int .i64 (nth l i)) := by
  have hc := h.cellAt i (by omega)
  rw [hc, List.getElem?_map]
  simp [nth, List.getD, hi]
theorem row_app {w wr w1 w2 : World} {base n m : Nat} {v v' : Value} {R S : List Int} {xs : List Value} (hb : Below base w wr) (hb1 : Below base wr w1) (hB : base ≤ w1.heap.size)
    (ho : w1.ownsRow base 2 1 v n xs) (ho2 : w2.ownsRow base 2 1 v' m (R.map (Value.int .i64) ++ S.map (Value.int .i64))) (hm : m = (R ++ S).length) (hg : w1.grownBy w2 v.ownBlock) :
    w2.ownsRow base 2 1 v' (R ++ S).length ((R ++ S).map (Value.int .i64)) ∧ Below base w w2 := by
  refine ⟨?_, (hb.trans hb1).grown hg hB (fun j hj => (ho.lt j hj).1)⟩
  rw [← hm, List.map_append]
  exact ho2
theorem cells_take {w : World} {g k : Nat} {l : List Int} (hk : k ≤ l.length) (hc : ∀ i, i < l.length → w.cell? ⟨g, i, none⟩ = some (.int .i64 (nth l i))) : ∀ (j : Nat) (u : Value), ((l.take k).map (Value.int .i64))[j]? = some u → w.cell? ((⟨g, 0, none⟩ : Addr).add j) = some u := by
  intro j u hj
  have e : (⟨g, 0, none⟩ : Addr).add j = ⟨g, j, none⟩ := by unfold Addr.add; split <;> simp_all
  rw [List.getElem?_map, List.getElem?_take] at hj
  split at hj
  · rename_i hjk
    rw [e, hc j (by omega)]
    rw [List.getElem?_eq_getElem (by omega : j < l.length)] at hj
    simp at hj
    rw [← hj]
    congr 2
    unfold nth
    rw [List.getD_eq_getElem?_getD, List.getElem?_eq_getElem (by omega : j < l.length)]
    rfl
  · simp at hj
theorem cells_drop {w : World} {g k : Nat} {l : List Int} (hc : ∀ i, i < l.length → w.cell? ⟨g, i, none⟩ = some (.int .i64 (nth l i))) : ∀ (j : Nat) (u : Value), ((l.drop k).map (Value.int .i64))[j]? = some u → w.cell? ((⟨g, k, none⟩ : Addr).add j) = some u := by
  intro j u hj
  have e : (⟨g, k, none⟩ : Addr).add j = ⟨g, k + j, none⟩ := by unfold Addr.add; split <;> simp_all
  rw [List.getElem?_map, List.getElem?_drop] at hj
  by_cases hl : k + j < l.length
  · rw [e, hc _ hl]
    rw [List.getElem?_eq_getElem hl] at hj
    simp at hj
    rw [← hj]
    congr 2
    unfold nth
    rw [List.getD_eq_getElem?_getD, List.getElem?_eq_getElem hl]
    rfl
  · rw [List.getElem?_eq_none (by omega)] at hj
    simp at hj
set_option maxRecDepth 100000 in
set_option maxHeartbeats 4000000 in
theorem putS (B : Nat) (v : Value) (l : List Int) (n : Int) (w : World) (hB : B ≤ w.heap.size) (hl : l.length ≤ 1000000) (h : Ob B w v l) :
    Calls Tryd.prog 23 #[v, .int .i64 n] w fun e w' => ∃ v', e = .returned v' ∧ Ob B w' v' (put l n) ∧ Below w.heap.size w w' := by
  obtain ⟨i0, hi, hz0, hz1, hz2⟩ := info_parts info2
  have HO := hide h
  obtain ⟨ho, g, c, rfl, hc1, hc2, hg⟩ := h
  have HC := hide (fun i hi => cell_of ho i hi)
  clear ho
  unfold maxLen at hc2
  go_enter Tryd.func23, Tryd.ntmps23
  go_wp2
  go_loopw [5] (fun iv wr => ∃ k : Nat, k ≤ l.length ∧ iv = .int .i64 k ∧ Hid (∀ i, i < k → nth l i < n) ∧ wr = w) (fun iv _ => l.length - (intOf iv).toNat)
  case atStart => exact ⟨0, Nat.zero_le _, rfl, hide (fun i hi => by omega), rfl⟩
  case round =>
    obtain ⟨k, hk, rfl, HL, rfl⟩ := hrel
    by_cases hlt : k < l.length
    · have kc := (unhide HC) k hlt
      have hlt' : (k : Int) < (l.length : Int) := by omega
      obtain ⟨x, hx⟩ : ∃ x, nth l k = x := ⟨_, rfl⟩
      have HX := hide hx
      rw [hx] at kc
      clear hx
      by_cases c1 : x < n
      · go_wp2
        go_roundw
        case rel => exact ⟨k + 1, by omega, by go_num, hide (fun i hi => by by_cases e : i = k; (rw [e, unhide HX]; exact c1); exact (unhide HL) i (by omega)), trivial⟩
        case measure => simp [intOf]; omega
      · have HP := hide (put_at n l k hk (unhide HL) (.inr (by rw [unhide HX]; omega)))
        by_cases c2 : x = n
        · have c2' : (x == n) = true := by rw [beq_iff_eq]; exact c2
          have HQ : Hid (put l n = l) := hide (by rw [unhide HP, if_pos ⟨hlt, by rw [unhide HX]; exact c2⟩])
          clear HP
          go_wp2
          go_ret
          exact ⟨_, rfl, by rw [unhide HQ]; exact unhide HO, Below.refl _ _⟩
        · have c2' : (x == n) = false := by rw [beq_eq_false_iff_ne]; exact c2
          have HQ : Hid (put l n = (l.take k ++ [n]) ++ l.drop k) := hide (by rw [unhide HP, if_neg (fun g => c2 (by rw [← unhide HX]; exact g.2))]; simp)
          clear HP
          have HL0 : Hid ((wr.alloc (.cells #[] 2)).ownsRow wr.heap.size 2 1 (.slice (some ⟨wr.heap.size, 0, none⟩) 0 0) 0 []) := hide (World.ownsRow_lit wr #[] 0 (Nat.le_refl _) (by unfold maxLen; omega) rfl)
          have HB1 : Hid (Below wr.heap.size wr (wr.alloc (.cells #[] 2))) := hide (al1 _ _)
          obtain ⟨P, hP⟩ : ∃ P, l.take k = P := ⟨_, rfl⟩
          obtain ⟨Q, hQ⟩ : ∃ Q, l.drop k = Q := ⟨_, rfl⟩
          have hPl : P.length = k := by rw [← hP, List.length_take]; omega
          have hQl : Q.length = l.length - k := by rw [← hQ, List.length_drop]
          have HCT : Hid (∀ W, Below wr.heap.size wr W → ∀ (j : Nat) (u : Value), (P.map (Value.int .i64))[j]? = some u → W.cell? ((⟨g, 0, none⟩ : Addr).add j) = some u) := hide (fun W hW => by rw [← hP]; exact cells_take (by omega) (fun i hi => (hW.cell (p := ⟨g, i, none⟩) hg).trans ((unhide HC) i hi)))
          have HCD : Hid (∀ W, Below wr.heap.size wr W → ∀ (j : Nat) (u : Value), (Q.map (Value.int .i64))[j]? = some u → W.cell? ((⟨g, k, none⟩ : Addr).add j) = some u) := hide (fun W hW => by rw [← hQ]; exact cells_drop (fun i hi => (hW.cell (p := ⟨g, i, none⟩) hg).trans ((unhide HC) i hi)))
          have HQ2 : Hid (put l n = (P ++ [n]) ++ Q) := hide (by rw [unhide HQ, hP, hQ])
          clear hP hQ HQ
          go_wp2_with (at_builtin; go_loud (refine wpList_appG _ rfl _ _ 22 rfl wr.heap.size 2 i0 (.int .i64 0) 1 8 Tryd.underlying22 hi hz0 hz1 hz2 rfl (by decide) _ _ _ rfl (unhide HL0) ⟨g, 0, none⟩ k _ (P.map (Value.int .i64)) rfl (by rw [List.length_map]; omega) ((unhide HCT) _ (unhide HB1)) (ones _) ?c3 ?c4 ?c5 ?_))
          case c3 => unfold maxLen; omega
          case c4 => omega
          intro v2 w2 ho2 hg2 _
          have B2 := hide ((unhide HB1).trans ((Below.refl wr.heap.size _).grown hg2 (by simp) (fun j hj => ((unhide HL0).lt j hj).1)))
          have hs2 := (unhide B2).size
          have O2 : Hid (w2.ownsRow wr.heap.size 2 1 v2 P.length (P.map (Value.int .i64))) := hide (by rw [hPl]; exact ho2)
          clear ho2 hg2 HL0
          go_wp2_with (at_builtin; refine wpList_appG _ rfl _ _ 22 rfl wr.heap.size 2 i0 (.int .i64 0) 1 8 Tryd.underlying22 hi hz0 hz1 hz2 rfl (by decide) _ _ _ rfl ((unhide O2).alloc _) ⟨w2.heap.size, 0, none⟩ 1 1 [.int .i64 n] rfl rfl (one_newR _ _ _) ?d2 ?d3 ?d4 ?d5 ?_)
          case d2 => intro u hu; simp at hu; subst hu; rfl
          case d3 => unfold maxLen; omega
          case d4 => omega
          case d5 => simp; omega
          intro v3 w3 ho3 hg3 _
          have R3 := hide (row_many (R := P) (S := [n]) (unhide B2) (Below.refl _ _) hs2 (unhide O2) ho3 (by simp; omega) hg3)
          have hs3 := (unhide R3).2.size
          have hRl : (P ++ [n]).length = P.length + 1 := by simp
          have O3 := hide (unhide R3).1
          have B3 := hide (unhide R3).2
          clear ho3 hg3 R3
          generalize P ++ [n] = R at *
          go_wp2_with (at_builtin; go_loud (refine wpList_appG _ rfl _ _ 22 rfl wr.heap.size 2 i0 (.int .i64 0) 1 8 Tryd.underlying22 hi hz0 hz1 hz2 rfl (by decide) _ _ _ rfl (unhide O3) ⟨g, k, none⟩ _ _ (Q.map (Value.int .i64)) rfl (by rw [List.length_map]; omega) ((unhide HCD) _ (unhide B3)) (ones _) ?e3 ?e4 ?e5 ?_))
          case e3 => unfold maxLen; omega
          case e4 => omega
          case e5 => exact hs3
          intro v4 w4 ho4 hg4 _
          have R4 := hide (row_app (R := R) (S := Q) (unhide B3) (Below.refl _ _) hs3 (unhide O3) ho4 (by rw [List.length_append]; omega) hg4)
          clear ho4 hg4
          go_wp2
          go_ret
          exact ⟨_, rfl, by rw [unhide HQ2]; exact Ob.of (own_monoR (unhide R4).1 hB) (by intro e; have h9 := congrArg List.length e; rw [List.length_append, List.length_nil] at h9; omega), (unhide R4).2⟩
    · obtain rfl : k = l.length := by omega
      have HP := hide (put_at n l l.length (Nat.le_refl _) (unhide HL) (.inl rfl))
      have HQ : Hid (put l n = (l.take l.length ++ [n]) ++ l.drop l.length) := hide (by rw [unhide HP, if_neg (fun g => by omega)]; simp)
      clear HP
      by_cases hcc : c = l.length
      · subst hcc
        have HL0 : Hid ((wr.alloc (.cells #[] 2)).ownsRow wr.heap.size 2 1 (.slice (some ⟨wr.heap.size, 0, none⟩) 0 0) 0 []) := hide (World.ownsRow_lit wr #[] 0 (Nat.le_refl _) (by unfold maxLen; omega) rfl)
        have HB1 : Hid (Below wr.heap.size wr (wr.alloc (.cells #[] 2))) := hide (al1 _ _)
        obtain ⟨P, hP⟩ : ∃ P, l.take l.length = P := ⟨_, rfl⟩
        obtain ⟨Q, hQ⟩ : ∃ Q, l.drop l.length = Q := ⟨_, rfl⟩
        have hPl : P.length = l.length := by rw [← hP, List.length_take]; omega
        have hQl : Q.length = l.length - l.length := by rw [← hQ, List.length_drop]
        have HCT : Hid (∀ W, Below wr.heap.size wr W → ∀ (j : Nat) (u : Value), (P.map (Value.int .i64))[j]? = some u → W.cell? ((⟨g, 0, none⟩ : Addr).add j) = some u) := hide (fun W hW => by rw [← hP]; exact cells_take (by omega) (fun i hi => (hW.cell (p := ⟨g, i, none⟩) hg).trans ((unhide HC) i hi)))
        have HCD : Hid (∀ W, Below wr.heap.size wr W → ∀ (j : Nat) (u : Value), (Q.map (Value.int .i64))[j]? = some u → W.cell? ((⟨g, l.length, none⟩ : Addr).add j) = some u) := hide (fun W hW => by rw [← hQ]; exact cells_drop (fun i hi => (hW.cell (p := ⟨g, i, none⟩) hg).trans ((unhide HC) i hi)))
        have HQ2 : Hid (put l n = (P ++ [n]) ++ Q) := hide (by rw [unhide HQ, hP, hQ])
        clear hP hQ HQ
        go_wp2_with (at_builtin; go_loud (refine wpList_appG _ rfl _ _ 22 rfl wr.heap.size 2 i0 (.int .i64 0) 1 8 Tryd.underlying22 hi hz0 hz1 hz2 rfl (by decide) _ _ _ rfl (unhide HL0) ⟨g, 0, none⟩ l.length _ (P.map (Value.int .i64)) rfl (by rw [List.length_map]; omega) ((unhide HCT) _ (unhide HB1)) (ones _) ?c3 ?c4 ?c5 ?_))
        case c3 => unfold maxLen; omega
        case c4 => omega
        intro v2 w2 ho2 hg2 _
        have B2 := hide ((unhide HB1).trans ((Below.refl wr.heap.size _).grown hg2 (by simp) (fun j hj => ((unhide HL0).lt j hj).1)))
        have hs2 := (unhide B2).size
        have O2 : Hid (w2.ownsRow wr.heap.size 2 1 v2 P.length (P.map (Value.int .i64))) := hide (by rw [hPl]; exact ho2)
        clear ho2 hg2 HL0
        go_wp2_with (at_builtin; refine wpList_appG _ rfl _ _ 22 rfl wr.heap.size 2 i0 (.int .i64 0) 1 8 Tryd.underlying22 hi hz0 hz1 hz2 rfl (by decide) _ _ _ rfl ((unhide O2).alloc _) ⟨w2.heap.size, 0, none⟩ 1 1 [.int .i64 n] rfl rfl (one_newR _ _ _) ?d2 ?d3 ?d4 ?d5 ?_)
        case d2 => intro u hu; simp at hu; subst hu; rfl
        case d3 => unfold maxLen; omega
        case d4 => omega
        case d5 => simp; omega
        intro v3 w3 ho3 hg3 _
        have R3 := hide (row_many (R := P) (S := [n]) (unhide B2) (Below.refl _ _) hs2 (unhide O2) ho3 (by simp; omega) hg3)
        have hs3 := (unhide R3).2.size
        have hRl : (P ++ [n]).length = P.length + 1 := by simp
        have O3 := hide (unhide R3).1
        have B3 := hide (unhide R3).2
        clear ho3 hg3 R3
        generalize P ++ [n] = R at *
        go_wp2_with (at_builtin; go_loud (refine wpList_appG _ rfl _ _ 22 rfl wr.heap.size 2 i0 (.int .i64 0) 1 8 Tryd.underlying22 hi hz0 hz1 hz2 rfl (by decide) _ _ _ rfl (unhide O3) _ _ _ (Q.map (Value.int .i64)) rfl (by rw [List.length_map]; omega) (fun j u hj => by have e : Q = [] := List.length_eq_zero_iff.1 (by omega); subst e; simp at hj) (ones _) ?e3 ?e4 ?e5 ?_))
        case e3 => unfold maxLen; omega
        case e4 => omega
        case e5 => exact hs3
        intro v4 w4 ho4 hg4 _
        have R4 := hide (row_app (R := R) (S := Q) (unhide B3) (Below.refl _ _) hs3 (unhide O3) ho4 (by rw [List.length_append]; omega) hg4)
        clear ho4 hg4
        go_wp2
        go_ret
        exact ⟨_, rfl, by rw [unhide HQ2]; exact Ob.of (own_monoR (unhide R4).1 hB) (by intro e; have h9 := congrArg List.length e; rw [List.length_append, List.length_nil] at h9; omega), (unhide R4).2⟩
      · have hcc' : l.length < c := by omega
        have HL0 : Hid ((wr.alloc (.cells #[] 2)).ownsRow wr.heap.size 2 1 (.slice (some ⟨wr.heap.size, 0, none⟩) 0 0) 0 []) := hide (World.ownsRow_lit wr #[] 0 (Nat.le_refl _) (by unfold maxLen; omega) rfl)
        have HB1 : Hid (Below wr.heap.size wr (wr.alloc (.cells #[] 2))) := hide (al1 _ _)
        obtain ⟨P, hP⟩ : ∃ P, l.take l.length = P := ⟨_, rfl⟩
        obtain ⟨Q, hQ⟩ : ∃ Q, l.drop l.length = Q := ⟨_, rfl⟩
        have hPl : P.length = l.length := by rw [← hP, List.length_take]; omega
        have hQl : Q.length = l.length - l.length := by rw [← hQ, List.length_drop]
        have HCT : Hid (∀ W, Below wr.heap.size wr W → ∀ (j : Nat) (u : Value), (P.map (Value.int .i64))[j]? = some u → W.cell? ((⟨g, 0, none⟩ : Addr).add j) = some u) := hide (fun W hW => by rw [← hP]; exact cells_take (by omega) (fun i hi => (hW.cell (p := ⟨g, i, none⟩) hg).trans ((unhide HC) i hi)))
        have HCD : Hid (∀ W, Below wr.heap.size wr W → ∀ (j : Nat) (u : Value), (Q.map (Value.int .i64))[j]? = some u → W.cell? ((⟨g, l.length, none⟩ : Addr).add j) = some u) := hide (fun W hW => by rw [← hQ]; exact cells_drop (fun i hi => (hW.cell (p := ⟨g, i, none⟩) hg).trans ((unhide HC) i hi)))
        have HQ2 : Hid (put l n = (P ++ [n]) ++ Q) := hide (by rw [unhide HQ, hP, hQ])
        clear hP hQ HQ
        go_wp2_with (at_builtin; go_loud (refine wpList_appG _ rfl _ _ 22 rfl wr.heap.size 2 i0 (.int .i64 0) 1 8 Tryd.underlying22 hi hz0 hz1 hz2 rfl (by decide) _ _ _ rfl (unhide HL0) ⟨g, 0, none⟩ l.length _ (P.map (Value.int .i64)) rfl (by rw [List.length_map]; omega) ((unhide HCT) _ (unhide HB1)) (ones _) ?c3 ?c4 ?c5 ?_))
        case c3 => unfold maxLen; omega
        case c4 => omega
        intro v2 w2 ho2 hg2 _
        have B2 := hide ((unhide HB1).trans ((Below.refl wr.heap.size _).grown hg2 (by simp) (fun j hj => ((unhide HL0).lt j hj).1)))
        have hs2 := (unhide B2).size
        have O2 : Hid (w2.ownsRow wr.heap.size 2 1 v2 P.length (P.map (Value.int .i64))) := hide (by rw [hPl]; exact ho2)
        clear ho2 hg2 HL0
        go_wp2_with (at_builtin; refine wpList_appG _ rfl _ _ 22 rfl wr.heap.size 2 i0 (.int .i64 0) 1 8 Tryd.underlying22 hi hz0 hz1 hz2 rfl (by decide) _ _ _ rfl ((unhide O2).alloc _) ⟨w2.heap.size, 0, none⟩ 1 1 [.int .i64 n] rfl rfl (one_newR _ _ _) ?d2 ?d3 ?d4 ?d5 ?_)
        case d2 => intro u hu; simp at hu; subst hu; rfl
        case d3 => unfold maxLen; omega
        case d4 => omega
        case d5 => simp; omega
        intro v3 w3 ho3 hg3 _
        have R3 := hide (row_many (R := P) (S := [n]) (unhide B2) (Below.refl _ _) hs2 (unhide O2) ho3 (by simp; omega) hg3)
        have hs3 := (unhide R3).2.size
        have hRl : (P ++ [n]).length = P.length + 1 := by simp
        have O3 := hide (unhide R3).1
        have B3 := hide (unhide R3).2
        clear ho3 hg3 R3
        generalize P ++ [n] = R at *
        go_wp2_with (at_builtin; go_loud (refine wpList_appG _ rfl _ _ 22 rfl wr.heap.size 2 i0 (.int .i64 0) 1 8 Tryd.underlying22 hi hz0 hz1 hz2 rfl (by decide) _ _ _ rfl (unhide O3) _ _ _ (Q.map (Value.int .i64)) rfl (by rw [List.length_map]; omega) (fun j u hj => by have e : Q = [] := List.length_eq_zero_iff.1 (by omega); subst e; simp at hj) (ones _) ?e3 ?e4 ?e5 ?_))
        case e3 => unfold maxLen; omega
        case e4 => omega
        case e5 => exact hs3
        intro v4 w4 ho4 hg4 _
        have R4 := hide (row_app (R := R) (S := Q) (unhide B3) (Below.refl _ _) hs3 (unhide O3) ho4 (by rw [List.length_append]; omega) hg4)
        clear ho4 hg4
        go_wp2
        go_ret
        exact ⟨_, rfl, by rw [unhide HQ2]; exact Ob.of (own_monoR (unhide R4).1 hB) (by intro e; have h9 := congrArg List.length e; rw [List.length_append, List.length_nil] at h9; omega), (unhide R4).2⟩
set_option maxRecDepth 100000 in
theorem sysS_any (p : Int) (w : World) (h0 : 0 ≤ p) (h1 : p ≤ 1114111) : Calls Tryd.prog 32 #[.int .i64 p] w fun e w' => e = .returned (.int .i64 (sysS p)) ∧ w' = w := by
  have eq : p.tdiv 256 = p / 256 := Int.tdiv_eq_ediv_of_nonneg h0
  by_cases c1 : p < 512
  · rw [show sysS p = 0 by unfold sysS; rw [if_pos c1]]
    go_enter Tryd.func32, Tryd.ntmps32
    go_wp2
    go_ret
    exact ⟨rfl, rfl⟩
  · by_cases c2 : p < 1792
    · rw [show sysS p = p / 256 - 1 by unfold sysS; rw [if_neg c1, if_pos c2]]
      have q0 : 0 ≤ p / 256 := by omega
      have q1 : p / 256 ≤ 10 := by omega
      generalize p / 256 = q at *
      go_enter Tryd.func32, Tryd.ntmps32
      go_wp2
      go_ret
      exact ⟨rfl, rfl⟩
    · rw [show sysS p = 6 by unfold sysS; rw [if_neg c1, if_neg c2]]
      go_enter Tryd.func32, Tryd.ntmps32
      go_wp2
      go_ret
      exact ⟨rfl, rfl⟩
theorem nth_in {L : List Int} {j : Nat} (h : j < L.length) : nth L j ∈ L := by
  unfold nth
  rw [List.getD_eq_getElem?_getD, List.getElem?_eq_getElem h]
  exact List.getElem_mem h
theorem allT_len (ask : Int → Bool) (tel : Int → Int) (L : List Int) (k : Nat) : (all (tld ask tel L k)).length ≤ L.length := Nat.le_trans (all_len _) (tld_len ask tel L k)
set_option maxRecDepth 100000 in
set_option maxHeartbeats 2000000 in
theorem scriptsS (v : Value) (L : List Int) (w : World) (hv : IntsAt w v L) (hL : L.length ≤ 131072) :
    Calls Tryd.prog 12 #[v] w fun e w' => ∃ v', e = .returned v' ∧ Ob w.heap.size w' v' (all (tld let1 scr L L.length)) ∧ Below w.heap.size w w' := by
  have HV := hide hv
  obtain ⟨va, cap, rfl, _⟩ := hv
  have HO0 := hide (ob_lit w)
  have HB0 : Hid (Below w.heap.size w (w.alloc (.cells #[] 2))) := hide (al1 _ _)
  go_enter Tryd.func12, Tryd.ntmps12
  go_wp2
  go_loopw [3, 4] (fun lv iv wr => ∃ k : Nat, k ≤ L.length ∧ iv = .int .i64 k ∧ Hid (Ob w.heap.size wr lv (all (tld let1 scr L k))) ∧ Hid (Below w.heap.size w wr)) (fun _ iv _ => L.length - (intOf iv).toNat)
  case atStart => exact ⟨0, Nat.zero_le _, rfl, HO0, HB0⟩
  case round =>
    obtain ⟨k, hk, rfl, HO, HB⟩ := hrel
    clear HO0 HB0
    have hBs := (unhide HB).size
    have hal := allT_len let1 scr L k
    by_cases hlt : k < L.length
    · obtain ⟨b, off, cp, he, hbw, hc⟩ := rd_at (unhide HV) (by omega)
      cases he
      have kc := ((unhide HB).cell (p := ⟨b, off + k, none⟩) hbw).trans (hc k hlt)
      have hbr : b < wr.heap.size := by omega
      have CA := hide (fun W => letS (nth L k) W)
      have CT := hide (fun W => scrS_any (nth L k) W)
      have HY := hide (fun h => tld_yes (ask := let1) (tel := scr) hlt h)
      have HN := hide (fun h => tld_no (ask := let1) (tel := scr) hlt h)
      have HSC := hide (fun h => let_scr (nth L k) h)
      clear hc
      cases ha : let1 (nth L k) with
      | true =>
        rw [ha] at CA
        have hsc := (unhide HSC) ha
        have HS : Hid (all (tld let1 scr L (k + 1)) = put (all (tld let1 scr L k)) (scr (nth L k))) := hide (by rw [(unhide HY) ha, all_snoc])
        clear ha HY HN HSC
        generalize nth L k = p at *
        generalize scr p = z at *
        generalize hA : all (tld let1 scr L k) = Rr at *
        clear hA
        have CPt := hide (fun V W h o => putS w.heap.size V Rr z W h (by omega) o)
        have TOK : True := trivial
        go_wp2_with (first
          | (go_at_call 21; refine ((unhide CA) _).mono ?_; rintro e w1 ⟨rfl, hb1⟩; have kc1 := (hb1.cell (p := ⟨b, off + k, none⟩) hbr).trans kc; have hbr1 : b < w1.heap.size := Nat.lt_of_lt_of_le hbr hb1.size; have O1 := hide ((unhide HO).below hb1); have B1 := hide (j2 (unhide HB) hb1); clear hb1)
          | (clear TOK; go_at_call 22; refine ((unhide CT) _).mono ?_; rintro e w2 ⟨rfl, hb2⟩; have kc2 := (hb2.cell (p := ⟨b, off + k, none⟩) hbr1).trans kc1; have hbr2 : b < w2.heap.size := Nat.lt_of_lt_of_le hbr1 hb2.size; have O2 := hide ((unhide O1).below hb2); have B2 := hide (j2 (unhide B1) hb2); clear hb2)
          | (go_at_call 22; refine ((unhide CT) _).mono ?_; rintro e w3 ⟨rfl, hb3⟩; have O3 := hide ((unhide O2).below hb3); have B3 := hide (j2 (unhide B2) hb3); have h3s := (unhide B3).size; clear hb3)
          | (go_at_call 23; refine ((unhide CPt) _ _ h3s (unhide O3)).mono ?_; rintro e w4 ⟨v4, rfl, ho4, hb4⟩; have O4 := hide ho4; have B4 := hide (j2 (unhide B3) hb4); clear ho4 hb4))
        go_roundw
        case rel => exact ⟨k + 1, by omega, by go_num, hide (by rw [unhide HS]; exact unhide O4), B4⟩
        case measure => simp [intOf]; omega
      | false =>
        rw [ha] at CA
        have HS := hide ((unhide HN) ha)
        clear ha HY HN HSC
        generalize nth L k = p at *
        go_wp2_with (go_at_call 21; refine ((unhide CA) _).mono ?_; rintro e w1 ⟨rfl, hb1⟩; have O1 := hide ((unhide HO).below hb1); have B1 := hide (j2 (unhide HB) hb1); clear hb1)
        go_roundw
        case rel => exact ⟨k + 1, by omega, by go_num, hide (by rw [unhide HS]; exact unhide O1), B1⟩
        case measure => simp [intOf]; omega
    · obtain rfl : k = L.length := by omega
      go_wp2
      go_ret
      exact ⟨_, rfl, unhide HO, unhide HB⟩
end Go.Proofs.YtomgficdlfadaaaDoor.Ris
