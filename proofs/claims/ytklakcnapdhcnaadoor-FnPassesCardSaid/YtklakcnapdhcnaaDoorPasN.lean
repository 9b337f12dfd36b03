/- Marks written into passes that the call owns, and found there again. -/
import Derived.Test.YtklakcnapdhcnaaDoorPasM
namespace Go.Proofs.YtklakcnapdhcnaaDoor.Pas
open Go.RowKit
set_option linter.unusedVariables false
/-- Rules in a row of one's own, in the block g from lo to hi. -/
def RuG (lo hi : Nat) (w : World) (g : Option Nat) (v : Value) (L : List Ru) : Prop :=
  (g = none ∧ v = .slice none 0 0 ∧ L = []) ∨ ∃ b cap xs, g = some b ∧ v = .slice (some ⟨b, 0, none⟩) L.length cap ∧ lo ≤ b ∧ b < hi ∧ Has xs L L.length ∧ w.ownsRow lo 40 5 (.slice (some ⟨b, 0, none⟩) L.length cap) L.length xs
theorem own_atP {w w' : World} {B : Nat} {e : TypeId} {s : Nat} {v : Value} {n : Nat} {xs : List Value} (h : w.ownsRow B e s v n xs) (hs : ∀ k, v.ownBlock = some k → w'.heap[k]? = w.heap[k]?) : w'.ownsRow B e s v n xs := by
  refine ⟨h.1, ?_⟩
  rcases h.2 with h' | ⟨g, cap, cur, hv, hg, hh, r⟩
  · exact .inl h'
  · exact .inr ⟨g, cap, cur, hv, hg, (hs g (by rw [hv]; rfl)).trans hh, r⟩
theorem RuG.at {lo hi : Nat} {w w' : World} {g : Option Nat} {v : Value} {L : List Ru} (h : RuG lo hi w g v L) (hb : ∀ k, g = some k → w'.heap[k]? = w.heap[k]?) : RuG lo hi w' g v L := by
  rcases h with h | ⟨b, cap, xs, rfl, rfl, h1, h2, h3, h4⟩
  · exact .inl h
  · exact .inr ⟨b, cap, xs, rfl, rfl, h1, h2, h3, own_atP h4 (fun k hk => by cases hk; exact hb b rfl)⟩
theorem RuG.lt {lo hi : Nat} {w : World} {g : Option Nat} {v : Value} {L : List Ru} (h : RuG lo hi w g v L) {k : Nat} (hk : g = some k) : lo ≤ k ∧ k < hi ∧ k < w.heap.size := by
  rcases h with ⟨rfl, _⟩ | ⟨b, cap, xs, rfl, rfl, h1, h2, h3, h4⟩
  · cases hk
  · cases hk
    exact ⟨h1, h2, (h4.lt _ rfl).2⟩
theorem RuG.below {lo hi : Nat} {w w' : World} {g : Option Nat} {v : Value} {L : List Ru} (h : RuG lo hi w g v L) (hb : Below w.heap.size w w') : RuG lo hi w' g v L :=
  h.at fun k hk => hb.block k (h.lt hk).2.2
theorem five_of {w : World} {lo b cap : Nat} {L : List Ru} {xs : List Value} (h : w.ownsRow lo 40 5 (.slice (some ⟨b, 0, none⟩) L.length cap) L.length xs) (hx : Has xs L L.length) (i : Nat) (hi : i < L.length) : Five w b (0 + i * 5) (gr L i) := by
  obtain ⟨c0, c1, c2, c3, c4⟩ := hx i hi
  rw [Nat.zero_add]
  exact ⟨(h.cellAt (i * 5) (by omega)).trans c0, (h.cellAt (i * 5 + 1) (by omega)).trans c1, (h.cellAt (i * 5 + 2) (by omega)).trans c2, (h.cellAt (i * 5 + 3) (by omega)).trans c3, (h.cellAt (i * 5 + 4) (by omega)).trans c4⟩
theorem RuG.ru {lo hi : Nat} {w : World} {g : Option Nat} {v : Value} {L : List Ru} (h : RuG lo hi w g v L) : RuAt lo w v L := by
  rcases h with ⟨rfl, rfl, rfl⟩ | ⟨b, cap, xs, rfl, rfl, h1, h2, h3, h4⟩
  · exact ⟨none, 0, rfl, .inl rfl⟩
  · exact ⟨_, _, rfl, .inr ⟨b, 0, rfl, h1, (h4.lt _ rfl).2, fun i hi => five_of h4 h3 i hi⟩⟩
/-- Passes in rows of one's own, no block in two of them. -/
def PaG (lo hi : Nat) (w : World) (v : Value) (P : List Pa) : Prop :=
  ∃ (gs : Nat → Option Nat) (xs : List Value), w.ownsRow lo 37 2 v P.length xs ∧ (∀ k, v.ownBlock = some k → k < hi ∧ ∀ i, i < P.length → gs i ≠ some k) ∧ (∀ i, i < P.length → ∃ u, xs[i * 2]? = some u ∧ RuG lo hi w (gs i) u (gp P i).1 ∧ xs[i * 2 + 1]? = some (.int .i64 (gp P i).2)) ∧ ∀ i j k, i < P.length → j < P.length → i ≠ j → gs i = some k → gs j ≠ some k
theorem own_lt {w : World} {B : Nat} {e : TypeId} {s : Nat} {v : Value} {n : Nat} {xs : List Value} (h : w.ownsRow B e s v n xs) {k : Nat} (hk : v.ownBlock = some k) : B ≤ k ∧ k < w.heap.size := h.lt k hk
theorem PaG.at {lo hi : Nat} {w w' : World} {v : Value} {P : List Pa} (h : PaG lo hi w v P) (hb : ∀ k, lo ≤ k → k < hi → k < w.heap.size → w'.heap[k]? = w.heap[k]?) : PaG lo hi w' v P := by
  obtain ⟨gs, xs, h1, h2, h3, h4⟩ := h
  refine ⟨gs, xs, own_atP h1 (fun k hk => hb k (own_lt h1 hk).1 (h2 k hk).1 (own_lt h1 hk).2), h2, fun i hi => ?_, h4⟩
  obtain ⟨u, c1, hu, c2⟩ := h3 i hi
  exact ⟨u, c1, hu.at (fun k hk => hb k (hu.lt hk).1 (hu.lt hk).2.1 (hu.lt hk).2.2), c2⟩
theorem PaG.below {lo hi : Nat} {w w' : World} {v : Value} {P : List Pa} (h : PaG lo hi w v P) (hb : Below w.heap.size w w') : PaG lo hi w' v P :=
  h.at fun k _ _ hk => hb.block k hk
theorem PaG.pa {lo hi : Nat} {w : World} {v : Value} {P : List Pa} (h : PaG lo hi w v P) : PaAt lo w v P := by
  obtain ⟨gs, xs, h1, h2, h3, h4⟩ := h
  have h1' := h1
  rcases h1.2 with ⟨rfl, hn⟩ | ⟨g, cap, cur, rfl, hg, r⟩
  · refine ⟨none, 0, by rw [hn], .inl (List.length_eq_zero_iff.1 hn)⟩
  · refine ⟨some ⟨g, 0, none⟩, cap, rfl, .inr ⟨g, 0, rfl, hg, (own_lt h1' rfl).2, fun i hi => ?_⟩⟩
    obtain ⟨u, c1, hu, c2⟩ := h3 i hi
    rw [Nat.zero_add]
    exact ⟨u, (h1'.cellAt (i * 2) (by omega)).trans c1, hu.ru, (h1'.cellAt (i * 2 + 1) (by omega)).trans c2⟩
/-- The number that the marks have reached ahead of pass i. -/
def num (P : List Pa) : Nat → Nat
  | 0 => 1
  | i + 1 => num P i + (gp P i).1.length * 5 + 1
theorem num_pos (P : List Pa) (i : Nat) : 0 < num P i := by cases i <;> simp [num]
theorem num_le (P : List Pa) (i j : Nat) (h : i ≤ j) : num P i ≤ num P j := by
  induction j with
  | zero => obtain rfl : i = 0 := by omega
            exact Nat.le_refl _
  | succ j ih =>
    by_cases e : i = j + 1
    · subst e; exact Nat.le_refl _
    · have := ih (by omega)
      have e2 : num P (j + 1) = num P j + (gp P j).1.length * 5 + 1 := rfl
      omega
def mkp (P : List Pa) (i : Nat) : Pa := (mkR (gp P i).1 (num P i), ((num P i + (gp P i).1.length * 5 : Nat) : Int))
def mkQ (P : List Pa) (k : Nat) : List Pa := (List.range P.length).map fun i => if i < k then mkp P i else gp P i
theorem mkQ_len (P : List Pa) (k : Nat) : (mkQ P k).length = P.length := by simp [mkQ]
theorem mkQ_at (P : List Pa) (k i : Nat) (h : i < P.length) : gp (mkQ P k) i = if i < k then mkp P i else gp P i := by simp [mkQ, gp, List.getD, h]
def mkP (P : List Pa) : List Pa := mkQ P P.length
theorem mkR_len (L : List Ru) (c : Nat) : (mkR L c).length = L.length := mkTo_len L c L.length
theorem mkR_at (L : List Ru) (c i : Nat) (h : i < L.length) : gr (mkR L c) i = mkr (c + i * 5) := by unfold mkR; rw [mkTo_at L c _ i h, if_pos h]
theorem PaG.row {lo hi : Nat} {w w2 : World} {gv cap : Nat} {P : List Pa} {k : Nat} (h : PaG lo hi w (.slice (some ⟨gv, 0, none⟩) P.length cap) (mkQ P k)) (hk : k < P.length) :
    ∃ g u, w.cell? ⟨gv, k * 2, none⟩ = some u ∧ RuG lo hi w g u (gp P k).1 ∧ (∀ x, w.cell? ⟨gv, k * 2 + 1, none⟩ = some x → True) ∧ ∀ (w' : World), RuG lo hi w' g u (mkR (gp P k).1 (num P k)) → w.grownBy w' g → w'.cell? ⟨gv, k * 2, none⟩ = some u ∧ (∃ x, w'.cell? ⟨gv, k * 2 + 1, none⟩ = some x) ∧ w'.frozen? ⟨gv, k * 2 + 1, none⟩ = false ∧ PaG lo hi (w'.setCell ⟨gv, k * 2 + 1, none⟩ (.int .i64 ((num P k + (gp P k).1.length * 5 : Nat) : Int))) (.slice (some ⟨gv, 0, none⟩) P.length cap) (mkQ P (k + 1)) := by
  obtain ⟨gs, xs, h1, h2, h3, h4⟩ := h
  rw [mkQ_len] at h1 h2 h3 h4
  obtain ⟨u, c1, hu, c2⟩ := h3 k hk
  rw [mkQ_at P k k hk, if_neg (by omega)] at hu c2
  have hgv := (h2 gv rfl).2
  have hgl := own_lt h1 (k := gv) rfl
  refine ⟨gs k, u, (h1.cellAt (k * 2) (by omega)).trans c1, hu, fun _ _ => trivial, fun w' hu' hg => ?_⟩
  have hblk : w'.heap[gv]? = w.heap[gv]? := hg.block gv hgl.2 (fun e => hgv k hk e.symm)
  have h1' : w'.ownsRow lo 37 2 (.slice (some ⟨gv, 0, none⟩) P.length cap) P.length xs := own_atP h1 (fun q hq => by cases hq; exact hblk)
  have hx : xs.length = P.length * 2 := h1.1
  refine ⟨(h1'.cellAt (k * 2) (by omega)).trans c1, ⟨_, (h1'.cellAt (k * 2 + 1) (by omega)).trans c2⟩, h1'.frozenAt _, gs, xs.set (k * 2 + 1) (.int .i64 ((num P k + (gp P k).1.length * 5 : Nat) : Int)), ?_, ?_, fun i hi => ?_, ?_⟩
  · rw [mkQ_len]
    exact (h1'.stored (k * 2 + 1) _).1
  · rw [mkQ_len]; exact h2
  · rw [mkQ_len] at hi
    rw [mkQ_at P (k + 1) i hi]
    by_cases e : i = k
    · subst e
      rw [if_pos (by omega)]
      refine ⟨u, ?_, hu'.at (fun q hq => heap_setCell_other w' ⟨gv, i * 2 + 1, none⟩ q _ (by intro e; exact hgv i hk (by rw [hq, show q = gv from e]))), ?_⟩
      · rw [List.getElem?_set, if_neg (by omega)]; exact c1
      · rw [List.getElem?_set, if_pos rfl, if_pos (by omega)]; rfl
    · obtain ⟨u', d1, hv', d2⟩ := h3 i hi
      rw [mkQ_at P k i hi] at hv' d2
      have hiff : (if i < k + 1 then mkp P i else gp P i) = (if i < k then mkp P i else gp P i) := by
        by_cases e2 : i < k
        · rw [if_pos e2, if_pos (by omega)]
        · rw [if_neg e2, if_neg (by omega)]
      rw [hiff]
      refine ⟨u', ?_, hv'.at (fun q hq => ?_), ?_⟩
      · rw [List.getElem?_set, if_neg (by omega)]; exact d1
      · rw [heap_setCell_other w' ⟨gv, k * 2 + 1, none⟩ q _ (by intro e; exact hgv i hi (by rw [hq, show q = gv from e]))]
        exact hg.block q (hv'.lt hq).2.2 (fun e3 => h4 i k q hi hk e hq e3.symm)
      · rw [List.getElem?_set, if_neg (by omega)]; exact d2
  · rw [mkQ_len]; exact h4
end Go.Proofs.YtklakcnapdhcnaaDoor.Pas
