/- Tries held against each other; what a trie tells of a point; the laws of TrieFault and TrieAt. -/
import Derived.Test.YtipnakpfjniiiaaDoorTriO
namespace Go.Proofs.YtipnakpfjniiiaaDoor
open Go.ChangeShapes Go.WideShapes Go.ChangeAt Go.RowKit Go.Deep
set_option maxHeartbeats 1000000 in
theorem eqI_any (v1 v2 : Value) (l1 l2 : List Int) (w : World) (h1 : IntsAt w v1 l1) (h2 : IntsAt w v2 l2) (hl1 : l1.length ≤ 1048576) (_ : l2.length ≤ 1048576) :
    Calls Tryd.prog 59 #[v1, v2] w fun e w' => e = .returned (.bool (sameB l1 l2)) ∧ ∃ n, w' = w.drewN n := by
  obtain ⟨a1, c1, rfl, h1⟩ := h1
  obtain ⟨a2, c2, rfl, h2⟩ := h2
  have H1 := hide h1
  have H2 := hide h2
  clear h1 h2
  by_cases hne : l1.length = l2.length
  · have hne' : ((l1.length : Int) != (l2.length : Int)) = false := by simp; omega
    have HE := hide hne
    have hle : (l1.length : Int) = (l2.length : Int) := by omega
    clear hne
    go_enter Tryd.func59, Tryd.ntmps59
    go_wp2
    go_loopw [5] (fun i wr => ∃ k n : Nat, k ≤ l1.length ∧ i = .int .i64 k ∧ wr = w.drewN n ∧ Hid (∀ j, j < k → nth l1 j = nth l2 j)) (fun i _ => l1.length - (intOf i).toNat)
    case atStart => exact ⟨0, 0, Nat.zero_le _, rfl, rfl, hide (fun j hj => by omega)⟩
    case round =>
      obtain ⟨k, n, hk, rfl, rfl, HC⟩ := hrel
      by_cases hlt : k < l1.length
      · have hlt2 : k < l2.length := by have := unhide HE; omega
        rcases unhide H1 with e | ⟨b1, o1, rfl, hb1, hc1⟩
        · rw [e] at hlt; simp at hlt
        rcases unhide H2 with e | ⟨b2, o2, rfl, hb2, hc2⟩
        · rw [e] at hlt2; simp at hlt2
        have d1 := hc1 k hlt
        have d2 := hc2 k hlt2
        have i1 : (k : Int) < (l1.length : Int) := by omega
        have i2 : (k : Int) < (l2.length : Int) := by omega
        clear hc1 hc2
        by_cases he : nth l1 k = nth l2 k
        · have HC' : Hid (∀ j, j < k + 1 → nth l1 j = nth l2 j) := hide (fun j hj => by
            by_cases e : j = k
            · rw [e]; exact he
            · exact unhide HC j (by omega))
          have he' : (nth l1 k != nth l2 k) = false := by simp [he]
          clear he
          generalize nth l1 k = x at *
          generalize nth l2 k = y at *
          go_wp2_with fail
          go_quiet (fail)
          go_wp2
          go_roundw
          case rel => exact ⟨k + 1, _, by omega, by go_num, rfl, HC'⟩
          case measure => simp [intOf]; omega
        · have HN : Hid (sameB l1 l2 = false) := hide (decide_eq_false (ne_nth he))
          have he' : (nth l1 k != nth l2 k) = true := by simp [he]
          clear he
          generalize nth l1 k = x at *
          generalize nth l2 k = y at *
          go_wp2_with fail
          go_quiet (fail)
          go_wp2
          go_ret
          exact ⟨ret_bool (unhide HN).symm, _, drewN_add _ _ _⟩
      · have HN : Hid (sameB l1 l2 = true) := hide (decide_eq_true (ext_nth (unhide HE) (fun j hj => unhide HC j (by omega))))
        go_wp2
        go_ret
        exact ⟨ret_bool (unhide HN).symm, n, rfl⟩
  · have hne' : ((l1.length : Int) != (l2.length : Int)) = true := by simp; omega
    have HN : Hid (sameB l1 l2 = false) := hide (decide_eq_false (fun e => hne (by rw [e])))
    clear hne
    go_enter Tryd.func59, Tryd.ntmps59
    go_wp2
    go_ret
    exact ⟨ret_bool (unhide HN).symm, 0, rfl⟩
theorem sameB_self (l : List Int) : sameB l l = true := by simp [sameB]
set_option maxHeartbeats 1000000 in
theorem eqTrie_any (v1 v2 u1 u2 : Value) (ix dt : List Int) (w : World) (h1 : IntsAt w v1 ix) (h2 : IntsAt w v2 dt) (k1 : IntsAt w u1 ix) (k2 : IntsAt w u2 dt) (l1 : ix.length ≤ 1048576) (l2 : dt.length ≤ 1048576) :
    Calls Tryd.prog 25 #[.agg #[v1, v2], .agg #[u1, u2]] w fun e w' => e = .returned (.bool true) ∧ Below w.heap.size w w' := by
  have H1 := hide h1
  have H2 := hide h2
  have K1 := hide k1
  have K2 := hide k2
  obtain ⟨a1, c1, rfl, _⟩ := h1
  obtain ⟨a2, c2, rfl, _⟩ := h2
  obtain ⟨b1, d1, rfl, _⟩ := k1
  obtain ⟨b2, d2, rfl, _⟩ := k2
  have HB1 : Hid (∀ o o', Below w.heap.size w ((w.alloc o).alloc o')) := hide (fun o o' => ((Below.refl _ _).alloc (Nat.le_refl _) o).alloc (by simp) o')
  go_enter Tryd.func25, Tryd.ntmps25
  go_wp2_with fail
  refine (eqI_any _ _ ix ix _ ((unhide H1).below (unhide HB1 _ _)) ((unhide K1).below (unhide HB1 _ _)) l1 l1).mono ?_
  rintro e w2 ⟨rfl, n, rfl⟩
  rw [sameB_self]
  go_wp2_with fail
  refine (eqI_any _ _ dt dt _ (((unhide H2).below (unhide HB1 _ _)).drewN n) (((unhide K2).below (unhide HB1 _ _)).drewN n) l2 l2).mono ?_
  rintro e w2 ⟨rfl, m, rfl⟩
  rw [sameB_self]
  go_wp2
  go_ret
  exact ⟨rfl, bdrew (unhide HB1 _ _) _⟩
theorem ints_of_trod {H : Type} {enc : TypeId × Value → H} {w : World} {held : Bool} {base fuel : Nat} {v : Value} {y : DataW H × List MemPlace} (hf : DataW.trod enc Tryd.prog w base (fun _ => true) held fuel 26 [v] = some y) : ∃ l, IntsAt w v l ∧ l.length ≤ maxLen := by
  rcases open_ints Tryd.underlying26 Tryd.underlying2 int_cells hf with ⟨hcs, _⟩ | ⟨x, len, cap, zs, hcs, _, hl, hm, hz, _, hcell, _⟩
  · simp at hcs
    subst hcs
    exact ⟨[], ⟨none, 0, rfl, .inl rfl⟩, by simp⟩
  · simp at hcs
    subst hcs
    have hz' : zs.length = cap := by simpa using hz
    have hlen : (zs.take len).length = len := by simp; omega
    refine ⟨zs.take len, ⟨some x, cap, by rw [hlen], ?_⟩, by rw [hlen]; omega⟩
    by_cases h0 : len = 0
    · exact .inl (List.length_eq_zero_iff.1 (by omega))
    · obtain ⟨b, off, rfl⟩ := add_spot (hcell 0 (by omega))
      have hb := block_lt_of_cell (hcell 0 (by omega))
      rw [addr_add] at hb
      refine .inr ⟨b, off, rfl, hb, fun i hi => ?_⟩
      have := hcell i (by omega)
      rw [addr_add] at this
      rw [this]
      have e : nth (zs.take len) i = zs.getD i 0 := by simp [nth, List.getD, show i < len by omega]
      rw [e]
theorem ints_cells : Tryd.prog.cellsOf 26 = 1 := by kernel_rfl
theorem trie_cells : Tryd.prog.cellsOf 44 = 2 := by kernel_rfl
set_option maxRecDepth 100000 in
theorem open_trie {H : Type} {enc : TypeId × Value → H} {w : World} {held : Bool} {b0 : Nat} {r : Reach} {base : Nat} {v : Value} {d : DataW H} {ps : List MemPlace} (hval : Value.okWide Tryd.prog w r b0 44 v) (h : DataW.Trod enc Tryd.prog w base (fun _ => true) held 44 v d ps) :
    ∃ vi vd ix dt, v = .agg #[vi, vd] ∧ IntsAt w vi ix ∧ IntsAt w vd dt ∧ ix.length ≤ maxLen ∧ dt.length ≤ maxLen := by
  obtain ⟨fuel, hf⟩ := h
  obtain ⟨cs, rfl, hcs⟩ := okWide_struct Tryd.underlying44 hval
  rw [trie_cells] at hcs
  obtain ⟨xs, k, hk, hxy, _, hxl, hfl⟩ := DataW.trod_struct Tryd.underlying44 hf
  obtain ⟨vi, vd, rfl⟩ : ∃ vi vd, cs = #[vi, vd] := by
    obtain ⟨l⟩ := cs
    match l, hcs with
    | [vi, vd], _ => exact ⟨vi, vd, rfl⟩
  have g0 := hfl 0 _ rfl
  have g1 := hfl 1 _ rfl
  simp [ints_cells, Value.cells] at g0 g1
  have j0 : ∃ y, DataW.trod enc Tryd.prog w base (fun _ => true) held k 26 [vi] = some y := by
    match xs, hxl with
    | [y0, y1], _ => exact ⟨_, g0⟩
  have j1 : ∃ y, DataW.trod enc Tryd.prog w base (fun _ => true) held k 26 [vd] = some y := by
    match xs, hxl with
    | [y0, y1], _ => exact ⟨_, g1⟩
  obtain ⟨_, j0⟩ := j0
  obtain ⟨_, j1⟩ := j1
  obtain ⟨ix, a0, m0⟩ := ints_of_trod j0
  obtain ⟨dt, a1, m1⟩ := ints_of_trod j1
  exact ⟨vi, vd, ix, dt, rfl, a0, a1, m0, m1⟩
theorem bdrew1 {B : Nat} {a w : World} (h : Below B a w) : Below B a w.drew := h.trans ⟨rfl, rfl, rfl, Nat.le_refl _, fun _ _ => rfl⟩
end Go.Proofs.YtipnakpfjniiiaaDoor
