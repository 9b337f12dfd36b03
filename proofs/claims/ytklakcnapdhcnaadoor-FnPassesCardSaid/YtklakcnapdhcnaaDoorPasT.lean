/- Turned passes: in plain numbers, and rows that grow. -/
import Derived.Test.YtklakcnapdhcnaaDoorPasQ
import Derived.Test.YtklakcnapdhcnaaDoorPasK
import Derived.Test.YtklakcnapdhcnaaDoorAppG
namespace Go.Proofs.YtklakcnapdhcnaaDoor.Pas
open Go.RowKit
set_option linter.unusedVariables false
def trn (r : Ru) : Ru := (r.1, r.2.2.2.1, r.2.2.1, r.2.1, 0)
/-- The first k rules turned. -/
def tr (L : List Ru) (k : Nat) : List Ru := (List.range k).map fun i => trn (gr L i)
theorem tr_len (L : List Ru) (k : Nat) : (tr L k).length = k := by simp [tr]
theorem tr_at (L : List Ru) (k i : Nat) (h : i < k) : gr (tr L k) i = trn (gr L i) := by simp [tr, gr, List.getD, h]
def tp (p : Pa) : Pa := (tr p.1 p.1.length, p.2)
def tl (P : List Pa) (is : List Nat) : List Pa := is.map fun i => tp (gp P i)
theorem tl_len (P : List Pa) (is : List Nat) : (tl P is).length = is.length := by simp [tl]
theorem tl_snoc (P : List Pa) (is : List Nat) (i : Nat) : tl P (is ++ [i]) = tl P is ++ [tp (gp P i)] := by simp [tl]
def down (n m : Nat) : List Nat := (List.range m).map fun j => n - 1 - j
theorem down_len (n m : Nat) : (down n m).length = m := by simp [down]
theorem down_succ (n m : Nat) : down n (m + 1) = down n m ++ [n - 1 - m] := by simp [down, List.range_succ]
/-- None of the first k rules has an empty Output. -/
def canR (L : List Ru) : Nat → Bool
  | 0 => true
  | k + 1 => canR L k && decide (¬ (gr L k).2.2.2.1.size = 0)
theorem canR_no {L : List Ru} {k n : Nat} (hk : k < n) (h : (gr L k).2.2.2.1.size = 0) : canR L n = false := by
  induction n with
  | zero => omega
  | succ n ih =>
    unfold canR
    by_cases e : k = n
    · subst e; simp [h]
    · rw [ih (by omega)]; rfl
theorem canR_next {L : List Ru} {k : Nat} (h : canR L k = true) (h2 : ¬ (gr L k).2.2.2.1.size = 0) : canR L (k + 1) = true := by
  unfold canR
  rw [h, decide_eq_true h2]
  rfl
def canA (P : List Pa) : Bool := (List.range P.length).all fun i => canR (gp P i).1 (gp P i).1.length
theorem canA_no {P : List Pa} {i : Nat} (hi : i < P.length) (h : canR (gp P i).1 (gp P i).1.length = false) : canA P = false := by
  rw [Bool.eq_false_iff]
  intro e
  unfold canA at e
  rw [List.all_eq_true] at e
  have := e i (List.mem_range.2 hi)
  rw [h] at this
  cases this
theorem canA_yes {P : List Pa} (h : ∀ i, i < P.length → canR (gp P i).1 (gp P i).1.length = true) : canA P = true := by
  unfold canA
  rw [List.all_eq_true]
  intro i hi
  exact h i (List.mem_range.1 hi)
/-- What TurnedPasses tells. -/
def ans (P : List Pa) : List Pa := if (right P && canA P) = true then tl P (down P.length P.length) else []
theorem flt_iff (P : List Pa) : flt P = 0 ∧ right P = true ∨ flt P = 1 ∧ right P = false := by
  unfold flt
  cases right P
  · exact .inr ⟨rfl, rfl⟩
  · exact .inl ⟨rfl, rfl⟩
theorem ans_bad {P : List Pa} (h : right P = false) : ans P = [] := by unfold ans; rw [h]; rfl
theorem ans_no {P : List Pa} (h : canA P = false) : ans P = [] := by unfold ans; rw [h]; simp
theorem ans_yes {P : List Pa} (h : right P = true) (h2 : canA P = true) : ans P = tl P (down P.length P.length) := by unfold ans; rw [h, h2]; rfl
/-- A row of rules of one's own. -/
def RuX (lo : Nat) (w : World) (u : Value) (L : List Ru) : Prop := ∃ xs, Has xs L L.length ∧ w.ownsRow lo 40 5 u L.length xs
theorem RuX.nil (lo : Nat) (w : World) : RuX lo w (.slice none 0 0) [] := ⟨[], fun i hi => by simp at hi, World.ownsRow_nil w _ _ _⟩
theorem RuX.below {lo : Nat} {w w' : World} {u : Value} {L : List Ru} (h : RuX lo w u L) (hb : Below w.heap.size w w') : RuX lo w' u L := by
  obtain ⟨xs, h1, h2⟩ := h
  exact ⟨xs, h1, ownsRow_below h2 hb⟩
theorem RuX.at {lo : Nat} {w w' : World} {u : Value} {L : List Ru} (h : RuX lo w u L) (hs : ∀ k, u.ownBlock = some k → w'.heap[k]? = w.heap[k]?) : RuX lo w' u L := by
  obtain ⟨xs, h1, h2⟩ := h
  exact ⟨xs, h1, own_atP h2 hs⟩
theorem RuX.lt {lo : Nat} {w : World} {u : Value} {L : List Ru} (h : RuX lo w u L) {k : Nat} (hk : u.ownBlock = some k) : lo ≤ k ∧ k < w.heap.size := by
  obtain ⟨xs, h1, h2⟩ := h
  exact own_lt h2 hk
theorem own_down {w : World} {B B2 : Nat} {e : TypeId} {s : Nat} {v : Value} {n : Nat} {xs : List Value} (h : w.ownsRow B2 e s v n xs) (hb : B ≤ B2) : w.ownsRow B e s v n xs := by
  refine ⟨h.1, ?_⟩
  rcases h.2 with h' | ⟨g, cap, cur, hv, hg, r⟩
  · exact .inl h'
  · exact .inr ⟨g, cap, cur, hv, by omega, r⟩
theorem RuX.toG {lo lo2 hi : Nat} {w : World} {u : Value} {L : List Ru} (h : RuX lo w u L) (hl : lo2 ≤ lo) (hh : w.heap.size ≤ hi) : RuG lo2 hi w u.ownBlock u L := by
  obtain ⟨xs, h1, h2⟩ := h
  have h2' := h2
  rcases h2.2 with ⟨rfl, hn⟩ | ⟨g, cap, cur, rfl, hg, r⟩
  · exact .inl ⟨rfl, rfl, List.length_eq_zero_iff.1 hn⟩
  · exact .inr ⟨g, cap, xs, rfl, rfl, by omega, Nat.lt_of_lt_of_le (own_lt h2' rfl).2 hh, h1, own_down h2' hl⟩
theorem RuX.form {lo : Nat} {w : World} {u : Value} {L : List Ru} (h : RuX lo w u L) : ∃ a c, u = .slice a L.length c := by
  obtain ⟨xs, h1, h2⟩ := h
  rcases h2.2 with ⟨rfl, hn⟩ | ⟨g, cap, cur, rfl, hg, r⟩
  · exact ⟨none, 0, by rw [hn]⟩
  · exact ⟨_, _, rfl⟩
def cells5 (r : Ru) : List Value := [.string r.1, .string r.2.1, .string r.2.2.1, .string r.2.2.2.1, .int .i64 r.2.2.2.2]
theorem five_new (w : World) (r : Ru) (T : TypeId) : ∀ (j : Nat) (u : Value), (cells5 r)[j]? = some u → (w.alloc (.cells #[.string r.1, .string r.2.1, .string r.2.2.1, .string r.2.2.2.1, .int .i64 r.2.2.2.2] T)).cell? ((⟨w.heap.size, 0, none⟩ : Addr).add j) = some u := by
  intro j u h
  have e : (⟨w.heap.size, 0, none⟩ : Addr).add j = ⟨w.heap.size, j, none⟩ := by unfold Addr.add; split <;> simp_all
  rw [e]
  have hn := heap_new w (.cells #[.string r.1, .string r.2.1, .string r.2.2.1, .string r.2.2.2.1, .int .i64 r.2.2.2.2] T)
  simp only [World.cell?, hn]
  unfold cells5 at h
  match j, h with
  | 0, h => simpa using h
  | 1, h => simpa using h
  | 2, h => simpa using h
  | 3, h => simpa using h
  | 4, h => simpa using h
theorem five_one (r : Ru) : ∀ u ∈ cells5 r, u.oneCell' = true := by
  intro u hu
  unfold cells5 at hu
  simp at hu
  rcases hu with rfl | rfl | rfl | rfl | rfl <;> rfl
theorem two_new (w : World) (x : Value) (g : Int) (T : TypeId) : ∀ (j : Nat) (u : Value), [x, .int .i64 g][j]? = some u → (w.alloc (.cells #[x, .int .i64 g] T)).cell? ((⟨w.heap.size, 0, none⟩ : Addr).add j) = some u := by
  intro j u h
  have e : (⟨w.heap.size, 0, none⟩ : Addr).add j = ⟨w.heap.size, j, none⟩ := by unfold Addr.add; split <;> simp_all
  rw [e]
  have hn := heap_new w (.cells #[x, .int .i64 g] T)
  simp only [World.cell?, hn]
  match j, h with
  | 0, h => simpa using h
  | 1, h => simpa using h
theorem two_one (a : Option Addr) (n c : Nat) (g : Int) : ∀ u ∈ [Value.slice a n c, .int .i64 g], u.oneCell' = true := by
  intro u hu
  simp at hu
  rcases hu with rfl | rfl <;> rfl
theorem Has.snoc {xs : List Value} {L : List Ru} {k : Nat} (h : Has xs (tr L k) (tr L k).length) (hl : xs.length = (tr L k).length * 5) : Has (xs ++ cells5 (trn (gr L k))) (tr L (k + 1)) (tr L (k + 1)).length := by
  rw [tr_len] at *
  intro i hi
  by_cases e : i = k
  · subst e
    rw [tr_at L (i + 1) i (by omega)]
    have g : ∀ j, j < 5 → (xs ++ cells5 (trn (gr L i)))[i * 5 + j]? = (cells5 (trn (gr L i)))[j]? := fun j hj => by
      rw [List.getElem?_append_right (by omega), hl]; congr 1; omega
    refine ⟨?_, ?_, ?_, ?_, ?_⟩
    · have := g 0 (by omega); rw [Nat.add_zero] at this; rw [this]; rfl
    · rw [g 1 (by omega)]; rfl
    · rw [g 2 (by omega)]; rfl
    · rw [g 3 (by omega)]; rfl
    · rw [g 4 (by omega)]; rfl
  · have := h i (by omega)
    rw [tr_at L k i (by omega)] at this
    rw [tr_at L (k + 1) i (by omega), List.getElem?_append_left (by omega), List.getElem?_append_left (by omega), List.getElem?_append_left (by omega), List.getElem?_append_left (by omega), List.getElem?_append_left (by omega)]
    exact this
theorem RuG.up {lo hi hi2 : Nat} {w : World} {g : Option Nat} {v : Value} {L : List Ru} (h : RuG lo hi w g v L) (hh : hi ≤ hi2) : RuG lo hi2 w g v L := by
  rcases h with h | ⟨b, cap, xs, rfl, rfl, h1, h2, h3, h4⟩
  · exact .inl h
  · exact .inr ⟨b, cap, xs, rfl, rfl, h1, by omega, h3, h4⟩
theorem gp_left (Q : List Pa) (x : Pa) (i : Nat) (h : i < Q.length) : gp (Q ++ [x]) i = gp Q i := by
  unfold gp
  rw [List.getD_eq_getElem?_getD, List.getD_eq_getElem?_getD, List.getElem?_append_left h]
theorem gp_last (Q : List Pa) (x : Pa) : gp (Q ++ [x]) Q.length = x := by
  unfold gp
  rw [List.getD_eq_getElem?_getD, List.getElem?_append_right (Nat.le_refl _), Nat.sub_self]
  rfl
/-- A pass more behind a row of passes. -/
theorem pag_snoc {lo hi q : Nat} {w w1 w2 : World} {gs : Nat → Option Nat} {xs : List Value} {out out' u : Value} {Q : List Pa} {L : List Ru} {g : Int}
    (h1 : w.ownsRow lo 37 2 out Q.length xs) (h2 : ∀ k, out.ownBlock = some k → k < hi ∧ ∀ i, i < Q.length → gs i ≠ some k) (h3 : ∀ i, i < Q.length → ∃ u, xs[i * 2]? = some u ∧ RuG lo hi w (gs i) u (gp Q i).1 ∧ xs[i * 2 + 1]? = some (.int .i64 (gp Q i).2)) (h4 : ∀ i j k, i < Q.length → j < Q.length → i ≠ j → gs i = some k → gs j ≠ some k)
    (hu : RuX q w u L) (hq : hi ≤ q) (hlo : lo ≤ q) (hhi : hi ≤ w.heap.size) (hb : Below w.heap.size w w1) (ho : w2.ownsRow lo 37 2 out' (Q.length + 1) (xs ++ [u, .int .i64 g])) (hg : w1.grownBy w2 out.ownBlock) (hk : ∀ k, out'.ownBlock = some k → out.ownBlock = some k ∨ w1.heap.size ≤ k) :
    PaG lo w2.heap.size w2 out' (Q ++ [(L, g)]) := by
  have hx : xs.length = Q.length * 2 := h1.1
  have hs1 := hb.size
  have hs2 := hg.size
  have hul : ∀ k, u.ownBlock = some k → q ≤ k ∧ k < w.heap.size := fun k e => hu.lt e
  have hun : ∀ k, u.ownBlock = some k → out.ownBlock ≠ some k := fun k e e2 => by have := (h2 k e2).1; have := (hul k e).1; omega
  have hut : RuX q w2 u L := (hu.below hb).at (fun k e => hg.block k (Nat.lt_of_lt_of_le (hul k e).2 hs1) (fun e2 => hun k e e2.symm))
  have hlen : (Q ++ [(L, g)]).length = Q.length + 1 := by simp
  have hgl : ∀ i k, i < Q.length → gs i = some k → lo ≤ k ∧ k < hi ∧ k < w.heap.size := fun i k hi' e => by
    obtain ⟨v, _, hv, _⟩ := h3 i hi'
    exact hv.lt e
  refine ⟨fun i => if i < Q.length then gs i else u.ownBlock, xs ++ [u, .int .i64 g], by rw [hlen]; exact ho, fun k e => ⟨(own_lt ho e).2, fun i hi' => ?_⟩, fun i hi' => ?_, fun i j k hi' hj' hij e e2 => ?_⟩
  · rw [hlen] at hi'
    simp only
    by_cases c : i < Q.length
    · rw [if_pos c]
      intro e2
      have := hgl i k c e2
      rcases hk k e with e3 | e3
      · exact (h2 k e3).2 i c e2
      · omega
    · rw [if_neg c]
      intro e2
      have := hul k e2
      rcases hk k e with e3 | e3
      · have := (h2 k e3).1; omega
      · omega
  · rw [hlen] at hi'
    simp only
    by_cases c : i < Q.length
    · rw [if_pos c, gp_left Q _ i c]
      obtain ⟨v, c1, hv, c2⟩ := h3 i c
      refine ⟨v, by rw [List.getElem?_append_left (by omega)]; exact c1, ?_, by rw [List.getElem?_append_left (by omega)]; exact c2⟩
      refine ((hv.below hb).at (fun k e => hg.block k (Nat.lt_of_lt_of_le (hgl i k c e).2.2 hs1) (fun e2 => ?_))).up (by omega)
      exact (h2 k e2.symm).2 i c e
    · obtain rfl : i = Q.length := by omega
      rw [if_neg c, gp_last]
      refine ⟨u, ?_, hut.toG hlo (Nat.le_refl _), ?_⟩
      · rw [List.getElem?_append_right (by omega), hx, Nat.sub_self]; rfl
      · rw [List.getElem?_append_right (by omega), hx, show Q.length * 2 + 1 - Q.length * 2 = 1 by omega]; rfl
  · rw [hlen] at hi' hj'
    simp only at e e2
    by_cases c : i < Q.length
    · rw [if_pos c] at e
      by_cases d : j < Q.length
      · rw [if_pos d] at e2
        exact h4 i j k c d hij e e2
      · rw [if_neg d] at e2
        have := hgl i k c e
        have := hul k e2
        omega
    · rw [if_neg c] at e
      by_cases d : j < Q.length
      · rw [if_pos d] at e2
        have := hgl j k d e2
        have := hul k e
        omega
      · omega
theorem PaG.up {lo hi hi2 : Nat} {w : World} {v : Value} {P : List Pa} (h : PaG lo hi w v P) (hh : hi ≤ hi2) : PaG lo hi2 w v P := by
  obtain ⟨gs, xs, h1, h2, h3, h4⟩ := h
  refine ⟨gs, xs, h1, fun k e => ⟨by have := (h2 k e).1; omega, (h2 k e).2⟩, fun i hi => ?_, h4⟩
  obtain ⟨u, c1, hu, c2⟩ := h3 i hi
  exact ⟨u, c1, hu.up hh, c2⟩
theorem PaG.down {lo lo2 hi : Nat} {w : World} {v : Value} {P : List Pa} (h : PaG lo hi w v P) (hh : lo2 ≤ lo) : PaG lo2 hi w v P := by
  obtain ⟨gs, xs, h1, h2, h3, h4⟩ := h
  refine ⟨gs, xs, own_down h1 hh, h2, fun i hi => ?_, h4⟩
  obtain ⟨u, c1, hu, c2⟩ := h3 i hi
  refine ⟨u, c1, ?_, c2⟩
  rcases hu with h | ⟨b, cap, ys, e1, e2, h1, h2, h3, h4⟩
  · exact .inl h
  · exact .inr ⟨b, cap, ys, e1, e2, by omega, h2, h3, own_down h4 hh⟩
end Go.Proofs.YtklakcnapdhcnaaDoor.Pas
