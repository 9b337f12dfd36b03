/- Marks written into a trie of the call's own, and found again. -/
import Derived.Test.YtnfdkcphmolkiaaMrkI
import Derived.Test.YtnfdkcphmolkiaaBldK
import Derived.Test.YtnfdkcphmolkiaaBldU
import Derived.Test.YtnfdkcphmolkiaaTriL
namespace Go.Proofs.Ytnfdkcphmolkiaa
open Go.RowKit
theorem form_own {w : World} {B n : Nat} {v : Value} {xs : List Value} (h : w.ownsRow B 2 1 v n xs) : ∃ a cap, v = .slice a n cap := by
  rcases h.2 with ⟨rfl, rfl⟩ | ⟨g, cap, cur, rfl, _⟩
  · exact ⟨_, _, rfl⟩
  · exact ⟨_, _, rfl⟩
set_option maxHeartbeats 2000000 in
theorem markTrie_own (N n1 n2 : Nat) (vi vd : Value) (xs1 xs2 : List Value) (w : World) (hN : N ≤ w.heap.size) (l1 : n1 ≤ 1048576) (l2 : n2 ≤ 1048576) (h1 : w.ownsRow N 2 1 vi n1 xs1) (h2 : w.ownsRow N 2 1 vd n2 xs2) (hne : Apart vi vd) :
    Calls Try.prog 27 #[.agg #[vi, vd], .int .i64 1] w fun e w' => e = .returned (.int .i64 (1 + (n1 : Int) + (n2 : Int))) ∧ w'.ownsRow N 2 1 vi n1 (mkI 1 n1) ∧ w'.ownsRow N 2 1 vd n2 (mkI (1 + (n1 : Int)) n2) ∧ Below N w w' ∧ (∀ k, k < w.heap.size → vi.ownBlock ≠ some k → vd.ownBlock ≠ some k → w'.heap[k]? = w.heap[k]?) := by
  obtain ⟨a1, c1, rfl⟩ := form_own h1
  obtain ⟨a2, c2, rfl⟩ := form_own h2
  have H1 := hide (World.ownsRow.alloc h1 (.cells #[.slice a1 n1 c1, .slice a2 n2 c2] 34))
  have H2 := hide (World.ownsRow.alloc h2 (.cells #[.slice a1 n1 c1, .slice a2 n2 c2] 34))
  have A0 : Hid (∀ k, k < w.heap.size → (w.alloc (.cells #[.slice a1 n1 c1, .slice a2 n2 c2] 34)).heap[k]? = w.heap[k]?) := hide (fun k hk => alloc_block w _ hk)
  have L1 : Hid (∀ k, (Value.slice a1 n1 c1).ownBlock = some k → N ≤ k ∧ k < w.heap.size) := hide (fun k hk => World.ownsRow.lt h1 k hk)
  have L2 : Hid (∀ k, (Value.slice a2 n2 c2).ownBlock = some k → N ≤ k ∧ k < w.heap.size) := hide (fun k hk => World.ownsRow.lt h2 k hk)
  have NE := hide hne
  have W0 : Hid (Below N w (w.alloc (.cells #[.slice a1 n1 c1, .slice a2 n2 c2] 34))) := hide ((Below.refl _ _).alloc hN _)
  have S0 : Hid ((w.alloc (.cells #[.slice a1 n1 c1, .slice a2 n2 c2] 34)).heap.size = w.heap.size + 1) := hide (by simp)
  clear h1 h2 hne
  go_enter Try.func27, Try.ntmps27
  go_upto_region 1 with fail
  have X := hide (Box.new w (.slice a1 n1 c1) (.slice a2 n2 c2) 34)
  generalize w.alloc (.cells #[.slice a1 n1 c1, .slice a2 n2 c2] 34) = w1 at *
  obtain ⟨⟨x0, x1⟩, _, _⟩ := unhide X
  go_wp2_with fail
  refine (markI_own N n1 _ xs1 1 _ (by omega) l1 (unhide H1)).mono ?_
  rintro e w2 ⟨rfl, ho, hg⟩
  have O1 := hide ho
  have H2' := hide (World.ownsRow.kept (unhide H2) hg (by
    cases hv : (Value.slice a2 n2 c2).ownBlock with
    | none => exact .inl rfl
    | some k => exact .inr (fun e => unhide NE k e.symm hv)))
  have hX2 : w2.heap[w.heap.size]? = w1.heap[w.heap.size]? := hg.block _ (unhide X).lt (fun e => by have := (unhide L1 _ e.symm).2; omega)
  have y1 := (World.cell?_of_block (a := ⟨w.heap.size, 1, none⟩) hX2).trans x1
  have W2 := hide ((unhide W0).grown hg (by rw [unhide S0]; omega) (fun k hk => (unhide L1 k hk).1))
  have S2 : Hid (w.heap.size + 1 ≤ w2.heap.size) := hide (by have := hg.size; have := unhide S0; omega)
  have A2 : Hid (∀ k, k < w.heap.size → (Value.slice a1 n1 c1).ownBlock ≠ some k → w2.heap[k]? = w.heap[k]?) := hide (fun k hk hn => (hg.block k (by have := unhide S0; omega) (fun e => hn e.symm)).trans (unhide A0 k hk))
  clear ho hg x0 x1 hX2 H1 H2 W0
  go_wp2_with fail
  refine (markI_own N n2 _ xs2 _ _ (by omega) l2 (unhide H2')).mono ?_
  rintro e w3 ⟨rfl, ho, hg⟩
  have O2 := hide ho
  have O1' := hide (World.ownsRow.kept (unhide O1) hg (by
    cases hv : (Value.slice a1 n1 c1).ownBlock with
    | none => exact .inl rfl
    | some k => exact .inr (fun e => unhide NE k hv e.symm)))
  have W3 := hide ((unhide W2).grown hg (by have := unhide S2; omega) (fun k hk => (unhide L2 k hk).1))
  have A3 : Hid (∀ k, k < w.heap.size → (Value.slice a1 n1 c1).ownBlock ≠ some k → (Value.slice a2 n2 c2).ownBlock ≠ some k → w3.heap[k]? = w.heap[k]?) := hide (fun k hk hn hm => (hg.block k (by have := unhide S2; omega) (fun e => hm e.symm)).trans (unhide A2 k hk hn))
  clear ho hg O1 W2 A2 A0
  go_wp2
  go_ret
  exact ⟨rfl, unhide O1', unhide O2, unhide W3, unhide A3⟩
set_option maxHeartbeats 2000000 in
theorem heldTrie_own (N n1 n2 : Nat) (vi vd : Value) (w : World) (l1 : n1 ≤ 1048576) (l2 : n2 ≤ 1048576) (h1 : w.ownsRow N 2 1 vi n1 (mkI 1 n1)) (h2 : w.ownsRow N 2 1 vd n2 (mkI (1 + (n1 : Int)) n2)) :
    Calls Try.prog 28 #[.agg #[vi, vd], .int .i64 1] w fun e w' => e = .returned (.int .i64 (1 + (n1 : Int) + (n2 : Int))) ∧ Below w.heap.size w w' := by
  obtain ⟨a1, c1, rfl⟩ := form_own h1
  obtain ⟨a2, c2, rfl⟩ := form_own h2
  have H1 := hide (World.ownsRow.alloc h1 (.cells #[.slice a1 n1 c1, .slice a2 n2 c2] 34))
  have H2 := hide (World.ownsRow.alloc h2 (.cells #[.slice a1 n1 c1, .slice a2 n2 c2] 34))
  have W0 : Hid (Below w.heap.size w (w.alloc (.cells #[.slice a1 n1 c1, .slice a2 n2 c2] 34))) := hide ((Below.refl _ _).alloc (Nat.le_refl _) _)
  clear h1 h2
  go_enter Try.func28, Try.ntmps28
  go_upto_region 1 with fail
  have X := hide (Box.new w (.slice a1 n1 c1) (.slice a2 n2 c2) 34)
  generalize w.alloc (.cells #[.slice a1 n1 c1, .slice a2 n2 c2] 34) = w1 at *
  obtain ⟨⟨x0, x1⟩, _, _⟩ := unhide X
  have p1 : ¬ (1 + (n1 : Int)) < 0 := by omega
  have p2 : ¬ (1 + (n1 : Int) + (n2 : Int)) < 0 := by omega
  go_wp2_with fail
  refine (heldI_own N n1 _ 1 _ (by omega) l1 (unhide H1)).mono ?_
  rintro e w2 ⟨rfl, rfl⟩
  go_wp2_with fail
  refine (heldI_own N n2 _ _ _ (by omega) l2 (unhide H2)).mono ?_
  rintro e w3 ⟨rfl, rfl⟩
  go_wp2
  go_ret
  exact ⟨rfl, unhide W0⟩
/-- Rows of a trie, the same whether the spans are right or not. -/
def rowI (L : List Sp) (o : Int) : List Int := if right L = true then (bld (valsL L o) 512).2 else []
def rowD (L : List Sp) (o : Int) : List Int := if right L = true then (bld (valsL L o) 512).1.flatten else []
theorem rows_len (L : List Sp) (o : Int) : (rowI L o).length ≤ 512 ∧ (rowD L o).length ≤ 32768 := by
  unfold rowI rowD
  by_cases h : right L = true
  · rw [if_pos h, if_pos h]
    have h1 := bld_ix_len (valsL L o) 512
    have h2 := bld_len (valsL L o) 512
    have h3 := flat_len (bld (valsL L o) 512).1 (bld_all (valsL L o) 512 (valsL_len L o) 512 (Nat.le_refl _))
    omega
  · rw [if_neg h, if_neg h]
    simp
theorem own_rows {w : World} {N : Nat} {vi vd : Value} {L : List Sp} {o : Int} (hr : right L = true) (h1 : w.ownsRow N 2 1 vi 512 ((bld (valsL L o) 512).2.map (Value.int .i64))) (h2 : w.ownsRow N 2 1 vd ((bld (valsL L o) 512).1.length * 64) ((bld (valsL L o) 512).1.flatten.map (Value.int .i64))) :
    w.ownsRow N 2 1 vi (rowI L o).length ((rowI L o).map (Value.int .i64)) ∧ w.ownsRow N 2 1 vd (rowD L o).length ((rowD L o).map (Value.int .i64)) := by
  have e1 : rowI L o = (bld (valsL L o) 512).2 := if_pos hr
  have e2 : rowD L o = (bld (valsL L o) 512).1.flatten := if_pos hr
  have l1 := bld_ix_len (valsL L o) 512
  have l2 := flat_len (bld (valsL L o) 512).1 (bld_all (valsL L o) 512 (valsL_len L o) 512 (Nat.le_refl _))
  rw [e1, e2, l1, l2]
  exact ⟨h1, h2⟩
theorem own_none {w : World} {N : Nat} {L : List Sp} {o : Int} (hr : right L = false) : w.ownsRow N 2 1 (.slice none 0 0) (rowI L o).length ((rowI L o).map (Value.int .i64)) ∧ w.ownsRow N 2 1 (.slice none 0 0) (rowD L o).length ((rowD L o).map (Value.int .i64)) := by
  have e1 : rowI L o = [] := if_neg (by rw [hr]; simp)
  have e2 : rowD L o = [] := if_neg (by rw [hr]; simp)
  rw [e1, e2]
  exact ⟨World.ownsRow_nil _ _ _ _, World.ownsRow_nil _ _ _ _⟩
theorem implB (v : Value) (L : List Sp) (o : Int) (B : Nat) (w : World) (h : SpRow w B v L) (hl : L.length ≤ 1048576) :
    Calls Try.prog 23 #[v, .int .i64 o] w fun e w' => ∃ vi vd, e = .returned (.agg #[vi, vd]) ∧ w'.ownsRow w.heap.size 2 1 vi (rowI L o).length ((rowI L o).map (Value.int .i64)) ∧ w'.ownsRow w.heap.size 2 1 vd (rowD L o).length ((rowD L o).map (Value.int .i64)) ∧ Below w.heap.size w w' ∧ Apart vi vd := by
  cases hr : right L with
  | true =>
    refine (implBuild v L o B w h hr hl).mono ?_
    rintro e w' ⟨vi, vd, rfl, h1, h2, hb, ha⟩
    exact ⟨vi, vd, rfl, (own_rows hr h1 h2).1, (own_rows hr h1 h2).2, hb, ha⟩
  | false =>
    refine (implBuild_no v L o B w h hr hl).mono ?_
    rintro e w' ⟨rfl, hb⟩
    exact ⟨_, _, rfl, (own_none hr).1, (own_none hr).2, hb, fun k hk => by simp [Value.ownBlock] at hk⟩
theorem specB (v : Value) (L : List Sp) (o : Int) (B : Nat) (w : World) (h : SpRow w B v L) (hl : L.length ≤ 1048576) :
    Calls Try.prog 21 #[v, .int .i64 o] w fun e w' => ∃ vi vd, e = .returned (.agg #[vi, vd]) ∧ w'.ownsRow w.heap.size 2 1 vi (rowI L o).length ((rowI L o).map (Value.int .i64)) ∧ w'.ownsRow w.heap.size 2 1 vd (rowD L o).length ((rowD L o).map (Value.int .i64)) ∧ Below w.heap.size w w' := by
  cases hr : right L with
  | true =>
    refine (specBuild v L o B w h hr hl).mono ?_
    rintro e w' ⟨vi, vd, rfl, h1, h2, hb⟩
    exact ⟨vi, vd, rfl, (own_rows hr h1 h2).1, (own_rows hr h1 h2).2, hb⟩
  | false =>
    refine (specBuild_no v L o B w h hr hl).mono ?_
    rintro e w' ⟨rfl, hb⟩
    exact ⟨_, _, rfl, (own_none hr).1, (own_none hr).2, hb⟩
end Go.Proofs.Ytnfdkcphmolkiaa
