/- A tree of patterns in memory: its nodes and their digits by the letters that lead to them. -/
import Derived.Test.YtgmpkapeemiecaaHypG
namespace Go.Proofs.Ytgmpkapeemiecaa
namespace Hyp
open Go.RowKit
set_option linter.unusedVariables false
set_option linter.unusedSimpArgs false
/-- Where a node lies, and where its digits are, if it has any. -/
abbrev Nd := Nat × Option (Nat × List Int)
abbrev Mp := List Nat → Option Nd
def dgV : Option (Nat × List Int) → Value
  | none => .slice none 0 0
  | some (g, L) => .slice (some ⟨g, 0, none⟩) L.length L.length
def chV (A : Mp) (p : List Nat) (k : Nat) : Value := .pointer ((A (p ++ [k])).map fun x => ⟨x.1, 0, none⟩)
structure Nde (w : World) (b : Nat) (c : Nat → Value) (d : Value) : Prop where
  ex : ∃ cs : Array Value, w.heap[b]? = some (.cells cs 56 (0, 0)) ∧ cs.size = 28 ∧ (∀ k, k < 27 → cs[k]? = some (c k)) ∧ cs[27]? = some d
theorem Nde.kept {w w' : World} {b : Nat} {c : Nat → Value} {d : Value} (h : Nde w b c d) (e : w'.heap[b]? = w.heap[b]?) : Nde w' b c d := by
  obtain ⟨cs, h1, h2, h3, h4⟩ := h.ex
  exact ⟨cs, e.trans h1, h2, h3, h4⟩
theorem Nde.lt {w : World} {b : Nat} {c : Nat → Value} {d : Value} (h : Nde w b c d) : b < w.heap.size := by
  obtain ⟨cs, h1, h2, h3, h4⟩ := h.ex
  exact lt_of_block h1
theorem Nde.cell {w : World} {b : Nat} {c : Nat → Value} {d : Value} (h : Nde w b c d) : (∀ k, k < 27 → w.cell? ⟨b, k, none⟩ = some (c k)) ∧ w.cell? ⟨b, 27, none⟩ = some d ∧ ∀ j, w.frozen? ⟨b, j, none⟩ = false := by
  obtain ⟨cs, h1, h2, h3, h4⟩ := h.ex
  refine ⟨fun k hk => ?_, ?_, fun j => by simp [World.frozen?, h1]⟩
  · have := h3 k hk
    simp [World.cell?, h1, this]
  · simp [World.cell?, h1, h4]
theorem setG_heap {W : World} {p : Nat} {cs : Array Value} {t : TypeId} (h : W.heap[p]? = some (.cells cs t (0, 0))) (i : Nat) (u : Value) : (W.setCell ⟨p, i, none⟩ u).heap[p]? = some (.cells (cs.setIfInBounds i u) t (0, 0)) := by
  have hlt := lt_of_block h
  have h' : W.heap[p] = .cells cs t (0, 0) := by simpa [Array.getElem?_eq_getElem hlt] using h
  show (W.heap.modify p _)[p]? = _
  rw [Array.getElem?_eq_getElem (by simpa using hlt), Array.getElem_modify_self, h']
  simp [Addr.spot]
theorem Nde.setC {w : World} {b : Nat} {c : Nat → Value} {d : Value} (h : Nde w b c d) (k : Nat) (hk : k < 27) (v : Value) : Nde (w.setCell ⟨b, k, none⟩ v) b (fun j => if j = k then v else c j) d := by
  obtain ⟨cs, h1, h2, h3, h4⟩ := h.ex
  refine ⟨_, setG_heap h1 k v, by simp [h2], fun j hj => ?_, ?_⟩
  · rw [Array.getElem?_setIfInBounds]
    by_cases e : k = j
    · subst e; simp [h2, show k < 28 by omega]
    · rw [if_neg e, h3 j hj]; simp [Ne.symm e]
  · rw [Array.getElem?_setIfInBounds, if_neg (by omega), h4]
theorem Nde.setD {w : World} {b : Nat} {c : Nat → Value} {d : Value} (h : Nde w b c d) (v : Value) : Nde (w.setCell ⟨b, 27, none⟩ v) b c v := by
  obtain ⟨cs, h1, h2, h3, h4⟩ := h.ex
  refine ⟨_, setG_heap h1 27 v, by simp [h2], fun j hj => ?_, ?_⟩
  · rw [Array.getElem?_setIfInBounds, if_neg (by omega), h3 j hj]
  · simp [h2]
theorem Nde.val {w : World} {b : Nat} {c c' : Nat → Value} {d : Value} (h : Nde w b c d) (e : ∀ k, k < 27 → c' k = c k) : Nde w b c' d := by
  obtain ⟨cs, h1, h2, h3, h4⟩ := h.ex
  exact ⟨cs, h1, h2, fun k hk => by rw [h3 k hk, e k hk], h4⟩
structure Tr (B : Nat) (w : World) (A : Mp) : Prop where
  up : ∀ p k, A (p ++ [k]) ≠ none → A p ≠ none
  node : ∀ p x, A p = some x → B ≤ x.1 ∧ Nde w x.1 (chV A p) (dgV x.2)
  dig : ∀ p b g L, A p = some (b, some (g, L)) → B ≤ g ∧ w.heap[g]? = some (.cells (u8s L).toArray 5 (0, 0)) ∧ L.length = p.length + 1
  inj : ∀ p q x y, A p = some x → A q = some y → x.1 = y.1 → p = q
  dinj : ∀ p q b b' g L L', A p = some (b, some (g, L)) → A q = some (b', some (g, L')) → p = q
/-- A block that is not the tree's. -/
def Nb (A : Mp) (x : Nat) : Prop := ∀ p y, A p = some y → y.1 ≠ x ∧ ∀ g L, y.2 = some (g, L) → g ≠ x
def upd (A : Mp) (p : List Nat) (x : Nd) : Mp := fun q => if q = p then some x else A q
theorem upd_at (A : Mp) (p : List Nat) (x : Nd) : upd A p x p = some x := if_pos rfl
theorem upd_ne {A : Mp} {p q : List Nat} (h : q ≠ p) (x : Nd) : upd A p x q = A q := if_neg h
theorem Tr.keep {B : Nat} {w w' : World} {A : Mp} (h : Tr B w A) (hk : ∀ p y, A p = some y → w'.heap[y.1]? = w.heap[y.1]? ∧ ∀ g L, y.2 = some (g, L) → w'.heap[g]? = w.heap[g]?) : Tr B w' A := by
  refine ⟨h.up, fun p x e => ⟨(h.node p x e).1, (h.node p x e).2.kept (hk p x e).1⟩, fun p b g L e => ?_, h.inj, h.dinj⟩
  obtain ⟨a1, a2, a3⟩ := h.dig p b g L e
  exact ⟨a1, ((hk p _ e).2 g L rfl).trans a2, a3⟩
theorem Tr.dlt {B : Nat} {w : World} {A : Mp} (h : Tr B w A) {p : List Nat} {b g : Nat} {L : List Int} (e : A p = some (b, some (g, L))) : g < w.heap.size := lt_of_block (h.dig p b g L e).2.1
/-- A node is no row of digits. -/
theorem Tr.ndg {B : Nat} {w : World} {A : Mp} (h : Tr B w A) {p q : List Nat} {x : Nd} {b g : Nat} {L : List Int} (e1 : A p = some x) (e2 : A q = some (b, some (g, L))) : x.1 ≠ g := by
  intro e
  obtain ⟨cs, h1, _⟩ := (h.node p x e1).2.ex
  have h2 := (h.dig q b g L e2).2.1
  rw [← e, h1] at h2
  injection h2 with h2
  injection h2 with _ h2
  exact absurd h2 (by decide)
theorem Tr.below {B : Nat} {w w' : World} {A : Mp} (h : Tr B w A) (hb : Below w.heap.size w w') : Tr B w' A :=
  h.keep fun p y e => ⟨hb.block _ (h.node p y e).2.lt, fun g L e2 => by
    obtain ⟨b, d⟩ := y
    simp only at e2
    subst e2
    exact hb.block _ (h.dlt e)⟩
/-- A node more. -/
theorem Tr.child {B : Nat} {w w1 : World} {A : Mp} (h : Tr B w A) {p : List Nat} {x : Nd} (e : A p = some x) {k : Nat} (hk : k < 27) (hn : A (p ++ [k]) = none) (hB : B ≤ w.heap.size)
    (hb : Below w.heap.size w w1) (n1 : Nde w1 w.heap.size (fun _ => .pointer none) (.slice none 0 0)) :
    Tr B (w1.setCell ⟨x.1, k, none⟩ (.pointer (some ⟨w.heap.size, 0, none⟩))) (upd A (p ++ [k]) (w.heap.size, none)) := by
  have hlt := (h.node p x e).2.lt
  have hs : ∀ j, j ≠ x.1 → (w1.setCell ⟨x.1, k, none⟩ (.pointer (some ⟨w.heap.size, 0, none⟩))).heap[j]? = w1.heap[j]? := fun j hj => Below.heap_setCell _ _ _ _ hj
  have none_below : ∀ j, A (p ++ [k] ++ [j]) = none := fun j => by
    by_cases c : A (p ++ [k] ++ [j]) = none
    · exact c
    · exact absurd hn (h.up _ _ c)
  have hne : ∀ q, q ≠ p → ∀ j, q ++ [j] ≠ p ++ [k] := fun q hq j c => hq (List.append_inj' c rfl).1
  refine ⟨fun q j c => ?_, fun q y c => ?_, fun q b g L c => ?_, fun q r y z c1 c2 c3 => ?_, fun q r b b' g L L' c1 c2 => ?_⟩
  · by_cases e1 : q = p ++ [k]
    · rw [e1, upd_at]; exact fun c => by cases c
    · rw [upd_ne e1]
      by_cases e2 : q ++ [j] = p ++ [k]
      · have := (List.append_inj' e2 rfl).1
        rw [this, e]; exact fun c => by cases c
      · rw [upd_ne e2] at c
        exact h.up _ _ c
  · by_cases e1 : q = p ++ [k]
    · subst e1
      rw [upd_at] at c
      obtain rfl := Option.some.inj c
      refine ⟨hB, (n1.kept (hs _ (by show w.heap.size ≠ x.1; omega))).val fun j hj => ?_⟩
      unfold chV
      rw [upd_ne (fun c => by have := congrArg List.length c; simp at this), none_below j]
      rfl
    · rw [upd_ne e1] at c
      obtain ⟨a1, a2⟩ := h.node q y c
      refine ⟨a1, ?_⟩
      by_cases e2 : q = p
      · subst e2
        rw [e] at c
        obtain rfl := Option.some.inj c
        refine (((a2.kept (hb.block _ hlt)).setC k hk (.pointer (some ⟨w.heap.size, 0, none⟩)))).val fun j hj => ?_
        unfold chV
        by_cases e3 : j = k
        · rw [if_pos e3, e3, upd_at]; rfl
        · rw [if_neg e3, upd_ne (fun c => e3 (by simpa using c))]
      · have hx : y.1 ≠ x.1 := fun c2 => e2 (h.inj q p y x c e c2)
        refine ((a2.kept (hb.block _ a2.lt)).kept (hs _ hx)).val fun j hj => ?_
        unfold chV
        rw [upd_ne (hne q e2 j)]
  · by_cases e1 : q = p ++ [k]
    · rw [e1, upd_at] at c
      injection c with c
      injection c with c1 c2
      cases c2
    · rw [upd_ne e1] at c
      obtain ⟨a1, a2, a3⟩ := h.dig q b g L c
      exact ⟨a1, (hs g (h.ndg e c).symm).trans ((hb.block _ (lt_of_block a2)).trans a2), a3⟩
  · by_cases e1 : q = p ++ [k]
    · by_cases e2 : r = p ++ [k]
      · rw [e1, e2]
      · subst e1
        rw [upd_at] at c1
        rw [upd_ne e2] at c2
        obtain rfl := Option.some.inj c1
        have := (h.node r z c2).2.lt
        simp only at c3
        omega
    · rw [upd_ne e1] at c1
      by_cases e2 : r = p ++ [k]
      · subst e2
        rw [upd_at] at c2
        obtain rfl := Option.some.inj c2
        have := (h.node q y c1).2.lt
        simp only at c3
        omega
      · rw [upd_ne e2] at c2
        exact h.inj q r y z c1 c2 c3
  · have f : ∀ q b g L, upd A (p ++ [k]) (w.heap.size, none) q = some (b, some (g, L)) → A q = some (b, some (g, L)) := fun q b g L c => by
      by_cases e1 : q = p ++ [k]
      · rw [e1, upd_at] at c; injection c with c; injection c with c1 c2; cases c2
      · rw [upd_ne e1] at c; exact c
    exact h.dinj q r b b' g L L' (f _ _ _ _ c1) (f _ _ _ _ c2)
/-- Digits that are new, or others: of a node whose children stay. -/
theorem Tr.digits {B : Nat} {w w2 : World} {A : Mp} (h : Tr B w A) {p : List Nat} {b : Nat} {dg : Option (Nat × List Int)} (e : A p = some (b, dg)) (g : Nat) (L : List Int) (hg : B ≤ g) (hgn : ∀ q y, A q = some y → y.1 ≠ g) (hgd : ∀ q b' L', q ≠ p → A q ≠ some (b', some (g, L')))
    (hl : L.length = p.length + 1) (n2 : Nde w2 b (chV A p) (dgV (some (g, L)))) (r2 : w2.heap[g]? = some (.cells (u8s L).toArray 5 (0, 0))) (hk : ∀ k, k < w.heap.size → k ≠ b → k ≠ g → w2.heap[k]? = w.heap[k]?) : Tr B w2 (upd A p (b, some (g, L))) := by
  have hch : ∀ q, chV (upd A p (b, some (g, L))) q = chV A q := fun q => by
    funext j
    unfold chV
    by_cases e1 : q ++ [j] = p
    · rw [e1, upd_at, e]; rfl
    · rw [upd_ne e1]
  refine ⟨fun q j c => ?_, fun q y c => ?_, fun q b' g' L' c => ?_, fun q r y z c1 c2 c3 => ?_, fun q r b1 b2 g' L1 L2 c1 c2 => ?_⟩
  · by_cases e1 : q = p
    · rw [e1, upd_at]; exact fun c => by cases c
    · rw [upd_ne e1]
      by_cases e2 : q ++ [j] = p
      · refine h.up q j ?_
        rw [e2, e]; exact fun c => by cases c
      · rw [upd_ne e2] at c; exact h.up q j c
  · rw [hch]
    by_cases e1 : q = p
    · subst e1
      rw [upd_at] at c
      obtain rfl := Option.some.inj c
      exact ⟨(h.node q _ e).1, n2⟩
    · rw [upd_ne e1] at c
      obtain ⟨a1, a2⟩ := h.node q y c
      exact ⟨a1, a2.kept (hk _ a2.lt (fun c2 => e1 (h.inj q p y _ c e c2)) (hgn q y c))⟩
  · by_cases e1 : q = p
    · subst e1
      rw [upd_at] at c
      injection c with c
      injection c with c1 c2
      injection c2 with c2
      injection c2 with c2 c3
      subst c1 c2 c3
      exact ⟨hg, r2, hl⟩
    · rw [upd_ne e1] at c
      obtain ⟨a1, a2, a3⟩ := h.dig q b' g' L' c
      refine ⟨a1, (hk g' (lt_of_block a2) (fun c2 => h.ndg e c c2.symm) (fun c2 => ?_)).trans a2, a3⟩
      subst c2
      exact hgd q b' L' e1 c
  · have f : ∀ q y, upd A p (b, some (g, L)) q = some y → ∃ y', A q = some y' ∧ y'.1 = y.1 := fun q y c => by
      by_cases e1 : q = p
      · subst e1
        rw [upd_at] at c
        obtain rfl := Option.some.inj c
        exact ⟨_, e, rfl⟩
      · rw [upd_ne e1] at c; exact ⟨y, c, rfl⟩
    obtain ⟨y', f1, f2⟩ := f q y c1
    obtain ⟨z', f3, f4⟩ := f r z c2
    exact h.inj q r y' z' f1 f3 (by rw [f2, f4, c3])
  · by_cases e1 : q = p
    · by_cases e2 : r = p
      · rw [e1, e2]
      · subst e1
        rw [upd_at] at c1
        rw [upd_ne e2] at c2
        injection c1 with c1
        injection c1 with _ c1
        injection c1 with c1
        injection c1 with c1 _
        subst c1
        exact absurd c2 (hgd r b2 L2 e2)
    · rw [upd_ne e1] at c1
      by_cases e2 : r = p
      · subst e2
        rw [upd_at] at c2
        injection c2 with c2
        injection c2 with _ c2
        injection c2 with c2
        injection c2 with c2 _
        subst c2
        exact absurd c1 (hgd q b1 L1 e1)
      · rw [upd_ne e2] at c2
        exact h.dinj q r b1 b2 g' L1 L2 c1 c2
end Hyp
end Go.Proofs.Ytgmpkapeemiecaa
