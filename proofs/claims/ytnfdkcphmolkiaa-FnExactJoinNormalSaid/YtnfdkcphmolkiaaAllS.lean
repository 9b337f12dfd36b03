/- All parts of a point to the last, as the specification tells them; Decompose of the specification. -/
import Derived.Test.YtnfdkcphmolkiaaPrtA
import Derived.Test.YtnfdkcphmolkiaaDecI
namespace Go.Proofs.Ytnfdkcphmolkiaa
open Go.RowKit
theorem flat_take (k : Bool) (d : Nat) (l : List Int) (j : Nat) (h : j < l.length) : (l.take (j + 1)).flatMap (allF k d) = (l.take j).flatMap (allF k d) ++ allF k d (nth l j) := by
  have e : nth l j = l[j] := by simp [nth, List.getD, h]
  rw [List.take_succ_eq_append_getElem h, List.flatMap_append, e]
  simp
theorem parts_len (k : Bool) (p : Int) : (partsZ k p).length ≤ 2 := by
  rcases parts_cases k p with e | ⟨a, e, _⟩ | ⟨a, b, e, _⟩ <;> rw [e] <;> simp
theorem flat_len4 (k : Bool) (d : Nat) (hd : d ≤ 2) (l : List Int) (hl : l.length ≤ 2) (j : Nat) : ((l.take j).flatMap (allF k d)).length ≤ 16 := by
  have h4 : ∀ x, (allF k d x).length ≤ 4 := fun x => by
    have h1 := (allF_len k d x).2
    have h2 : 2 ^ d ≤ 2 ^ 2 := Nat.pow_le_pow_right (by omega) hd
    omega
  have : ∀ (m : List Int), m.length ≤ 2 → (m.flatMap (allF k d)).length ≤ 16 := fun m hm => by
    match m, hm with
    | [], _ => simp
    | [a], _ => have := h4 a; simp; omega
    | [a, b], _ => have := h4 a; have := h4 b; simp; omega
  exact this _ (by rw [List.length_take]; omega)
set_option maxHeartbeats 4000000 in
set_option maxRecDepth 100000 in
theorem allS (k : Bool) : ∀ (d : Nat), d ≤ 2 → ∀ (p : Int) (w : World), deep k d p → 0 ≤ p ∧ p ≤ 1114111 → Calls Try.prog 61 #[.int .i64 p, .bool k] w fun e w' => NewRow w w' e (allF k d p) := by
  have base : ∀ (d : Nat) (p : Int) (w : World), partsZ k p = [] → 0 ≤ p ∧ p ≤ 1114111 → Calls Try.prog 61 #[.int .i64 p, .bool k] w fun e w' => NewRow w w' e (allF k d p) := by
    intro d p w hp hb
    have PS := hide (fun W => partsS p k W hb)
    rw [hp] at PS
    have HE : Hid (allF k d p = [p]) := hide (allF_none hp d)
    clear hp
    go_enter Try.func61, Try.ntmps61
    go_wp2_with fail
    refine ((unhide PS) _).mono ?_
    rintro e w1 ⟨v, rfl, ho, hb1⟩
    obtain ⟨a, cap, rfl⟩ := form_ownI ho
    have B1 := hide hb1
    have z1 := hb1.size
    clear ho hb1
    go_wp2
    go_ret
    exact newRow_from ⟨_, rfl, row1 w1 (unhide HE), one_below _ _⟩ (unhide B1)
  intro d
  induction d with
  | zero => exact fun _ p w hd hb => base 0 p w hd hb
  | succ d ih =>
    intro hd2 p w hd hb
    by_cases hp : partsZ k p = []
    · exact base (d + 1) p w hp hb
    · obtain ⟨i0, hi, hz0, hz1, hz2⟩ := info_parts info2
      have PS := hide (fun W => partsS p k W hb)
      have HE : Hid (allF k (d + 1) p = (partsZ k p).flatMap (allF k d)) := hide (by rw [allF, if_neg hp])
      have IH : Hid (∀ j, j < (partsZ k p).length → ∀ W, Calls Try.prog 61 #[.int .i64 (nth (partsZ k p) j), .bool k] W fun e w' => NewRow W w' e (allF k d (nth (partsZ k p) j))) := hide (fun j hj W => by
        have hm : nth (partsZ k p) j ∈ partsZ k p := by
          have e : nth (partsZ k p) j = (partsZ k p)[j] := by simp [nth, List.getD, hj]
          rw [e]
          exact List.getElem_mem hj
        exact ih (by omega) _ W (hd _ hm) (parts_bd hm))
      have hl2 := parts_len k p
      have hl0 : 0 < (partsZ k p).length := List.length_pos_iff.2 hp
      have HL : Hid (∀ j, (((partsZ k p).take j).flatMap (allF k d)).length ≤ 16) := hide (fun j => flat_len4 k d (by omega) _ hl2 j)
      clear ih hd base hp
      generalize partsZ k p = l at *
      have hne : ((l.length : Int) == 0) = false := by rw [beq_eq_false_iff_ne]; omega
      go_enter Try.func61, Try.ntmps61
      go_wp2_with fail
      refine ((unhide PS) _).mono ?_
      rintro e w1 ⟨v, rfl, ho, hb1⟩
      obtain ⟨gp, cp, hv⟩ := own_pos ho hl0
      subst hv
      have hgp := (ho.lt gp rfl).2
      have HC : Hid (∀ j, j < l.length → w1.cell? ⟨gp, j, none⟩ = some (.int .i64 (nth l j))) := hide (fun j hj => by
        rw [ho.cellAt j (by omega), List.getElem?_map]
        simp [nth, List.getD, hj])
      have B1 := hide hb1
      have O0 : Hid ((w1.alloc (.cells #[] 2)).ownsRow w1.heap.size 2 1 (.slice (some ⟨w1.heap.size, 0, none⟩) 0 0) ((l.take 0).flatMap (allF k d)).length (((l.take 0).flatMap (allF k d)).map (Value.int .i64))) := hide (World.ownsRow_lit w1 #[] 0 (Nat.le_refl _) (by unfold maxLen; omega) rfl)
      have W0 : Hid (Below w1.heap.size w1 (w1.alloc (.cells #[] 2))) := hide (one_below _ _)
      clear ho hb1 PS
      go_wp2
      go_loopw [6, 7] (fun s i wr => ∃ j : Nat, j ≤ l.length ∧ i = .int .i64 j ∧ Hid (wr.ownsRow w1.heap.size 2 1 s ((l.take j).flatMap (allF k d)).length (((l.take j).flatMap (allF k d)).map (Value.int .i64))) ∧ Hid (Below w1.heap.size w1 wr)) (fun _ i _ => l.length - (intOf i).toNat)
      case atStart => exact ⟨0, Nat.zero_le _, rfl, O0, W0⟩
      case round =>
        obtain ⟨j, hj, rfl, HO, HB⟩ := hrel
        clear O0 W0
        by_cases hlt : j < l.length
        · have hlt' : (j : Int) < (l.length : Int) := by omega
          have c0 := ((unhide HB).cell (p := ⟨gp, j, none⟩) hgp).trans ((unhide HC) j hlt)
          have CA := hide ((unhide IH) j hlt)
          have HT := hide (flat_take k d l j hlt)
          have h16 := (unhide HL) j
          have h16' := (unhide HL) (j + 1)
          rw [unhide HT, List.length_append] at h16'
          have hbs := (unhide HB).size
          have hpos := (allF_len k d (nth l j)).1
          generalize allF k d (nth l j) = xs at *
          generalize nth l j = y at *
          generalize (l.take j).flatMap (allF k d) = ys at *
          go_wp2_with (first | (go_at_call 61; refine ((unhide CA) _).mono ?_; rintro e w2 ⟨u, rfl, ho2, hb2⟩; obtain ⟨g2, c2, hu⟩ := own_pos ho2 hpos; subst hu; have HU := hide ho2; have HO2 := hide (ownsRow_below (unhide HO) hb2); have B2 := hide ((unhide HB).trans (hb2.mono hbs)); have hs2 := hb2.size; clear ho2 hb2) | (at_builtin; refine wpList_append_own _ rfl _ _ 24 rfl w1.heap.size 2 i0 (.int .i64 0) 1 8 Try.underlying24 hi hz0 hz1 hz2 rfl (by decide) _ _ _ rfl (unhide HO2) ⟨g2, 0, none⟩ xs.length c2 (xs.map (Value.int .i64)) rfl (by simp) ?c1 ?c2 ?c3 ?c4 ?c5 ?_))
          case c1 =>
            intro m x hx
            rw [addr_add, Nat.zero_add]
            have hm : m < xs.length := by
              have := (List.getElem?_eq_some_iff.1 hx).1
              simpa using this
            rw [(unhide HU).cellAt m (by omega)]
            exact hx
          case c2 =>
            intro x hx
            obtain ⟨z, _, rfl⟩ := List.mem_map.1 hx
            rfl
          case c3 => unfold maxLen; omega
          case c4 => omega
          case c5 => omega
          intro v' w3 hown' hgrow _
          have O3 : Hid (w3.ownsRow w1.heap.size 2 1 v' ((l.take (j + 1)).flatMap (allF k d)).length (((l.take (j + 1)).flatMap (allF k d)).map (Value.int .i64))) := hide (by
            rw [unhide HT, List.length_append, List.map_append]
            exact hown')
          have B3 := hide ((unhide B2).grown hgrow (by omega) (fun m hm => ((unhide HO2).lt m hm).1))
          clear hown' hgrow HO2 B2 HU
          go_wp2
          go_roundw
          case rel => exact ⟨j + 1, by omega, by go_num, O3, B3⟩
          case measure => simp [intOf]; omega
        · obtain rfl : j = l.length := by omega
          have HO' := unhide HO
          rw [List.take_length] at HO'
          have HO2 := hide HO'
          clear HO HO'
          go_wp2
          go_ret
          rw [unhide HE]
          exact newRow_from ⟨_, rfl, unhide HO2, unhide HB⟩ (unhide B1)
end Go.Proofs.Ytnfdkcphmolkiaa
