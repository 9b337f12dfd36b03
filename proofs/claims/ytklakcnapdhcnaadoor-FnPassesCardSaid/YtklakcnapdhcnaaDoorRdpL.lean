/- Lines of passes, in plain numbers: what a line adds to the passes read so far. -/
import Derived.Test.YtklakcnapdhcnaaDoorRdpY
import Derived.Test.YtklakcnapdhcnaaDoorPasT
namespace Go.Proofs.YtklakcnapdhcnaaDoor.Pas
open Go.RowKit
set_option linter.unusedVariables false
/-- A rule behind those of the last pass. -/
def addR (P : List Pa) (r : Ru) : List Pa := P.set (P.length - 1) ((gp P (P.length - 1)).1 ++ [r], (gp P (P.length - 1)).2)
theorem addR_len (P : List Pa) (r : Ru) : (addR P r).length = P.length := by simp [addR]
theorem addR_last {P : List Pa} {n : Nat} (r : Ru) (h : P.length = n + 1) : gp (addR P r) n = ((gp P n).1 ++ [r], (gp P n).2) := by
  have e : P.length - 1 = n := by omega
  unfold addR
  rw [e]
  unfold gp
  rw [List.getD_eq_getElem?_getD, List.getElem?_set, if_pos rfl, if_pos (by omega)]
  rfl
theorem addR_other {P : List Pa} {n i : Nat} (r : Ru) (h : P.length = n + 1) (hi : i ≠ n) : gp (addR P r) i = gp P i := by
  have e : P.length - 1 = n := by omega
  unfold addR
  rw [e]
  unfold gp
  have hi2 : ¬ n = i := fun e => hi e.symm
  simp [List.getD, hi2]
theorem gr_left (L : List Ru) (x : Ru) (i : Nat) (h : i < L.length) : gr (L ++ [x]) i = gr L i := by
  unfold gr
  rw [List.getD_eq_getElem?_getD, List.getD_eq_getElem?_getD, List.getElem?_append_left h]
theorem gr_last (L : List Ru) (x : Ru) : gr (L ++ [x]) L.length = x := by
  unfold gr
  rw [List.getD_eq_getElem?_getD, List.getElem?_append_right (Nat.le_refl _), Nat.sub_self]
  rfl
/-- Few passes of few rules of short texts. -/
def Sm (k : Nat) (P : List Pa) : Prop := P.length ≤ k ∧ ∀ i, i < P.length → (gp P i).1.length ≤ k ∧ ∀ j, j < (gp P i).1.length → sz1 (gr (gp P i).1 j) ≤ 262144
theorem Sm.nil : Sm 0 [] := ⟨Nat.le_refl _, fun i h => by simp at h⟩
theorem Sm.mono {k m : Nat} {P : List Pa} (h : Sm k P) (hk : k ≤ m) : Sm m P := ⟨Nat.le_trans h.1 hk, fun i hi => ⟨Nat.le_trans (h.2 i hi).1 hk, (h.2 i hi).2⟩⟩
theorem Sm.pass {k : Nat} {P : List Pa} (h : Sm k P) (g : Int) : Sm (k + 1) (P ++ [([], g)]) := by
  refine ⟨by have := h.1; simp; omega, fun i hi => ?_⟩
  by_cases c : i < P.length
  · rw [gp_left P _ i c]
    exact ⟨Nat.le_succ_of_le (h.2 i c).1, (h.2 i c).2⟩
  · obtain rfl : i = P.length := by simp at hi; omega
    rw [gp_last]
    exact ⟨Nat.zero_le _, fun j hj => by simp at hj⟩
theorem Sm.rule {k : Nat} {P : List Pa} {r : Ru} (h : Sm k P) (hr : sz1 r ≤ 262144) (hp : 0 < P.length) : Sm (k + 1) (addR P r) := by
  obtain ⟨n, hn⟩ : ∃ n, P.length = n + 1 := ⟨P.length - 1, by omega⟩
  refine ⟨by have := h.1; rw [addR_len]; omega, fun i hi => ?_⟩
  rw [addR_len] at hi
  by_cases c : i = n
  · subst c
    rw [addR_last r hn]
    have := h.2 i hi
    refine ⟨by simp; omega, fun j hj => ?_⟩
    by_cases d : j < (gp P i).1.length
    · show sz1 (gr ((gp P i).1 ++ [r]) j) ≤ _
      rw [gr_left _ _ j d]
      exact this.2 j d
    · obtain rfl : j = (gp P i).1.length := by simp at hj; omega
      show sz1 (gr ((gp P i).1 ++ [r]) _) ≤ _
      rw [gr_last]
      exact hr
  · rw [addR_other r hn c]
    exact ⟨Nat.le_succ_of_le (h.2 i hi).1, (h.2 i hi).2⟩
theorem Sm.small {k : Nat} {P : List Pa} (h : Sm k P) (hk : k ≤ 1048576) : Small P := ⟨Nat.le_trans h.1 hk, fun i hi => ⟨Nat.le_trans (h.2 i hi).1 hk, fun j hj => Nat.le_trans ((h.2 i hi).2 j hj) (by omega)⟩⟩
theorem nums_size (L : List Int) : (strOfNums L).size = L.length := by simp [strOfNums, ByteArray.size]
theorem tI_len {t : ByteArray} {x : Nat × Bool} (h : x.1 ≤ t.size) : (tI t x).1.length ≤ t.size := by
  have := txI_le t _ x.1 (Nat.le_refl _) h
  have e : (tI t x).1 = (txI t x.1).1 := rfl
  rw [e]
  omega
theorem ruI_size {t : ByteArray} (h : t.size ≤ 65536) : sz1 (ruI t).1 ≤ 262144 := by
  have l0 : ((0, false) : Nat × Bool).1 ≤ t.size := Nat.zero_le _
  have a := tI_len l0
  have b := tI_len (sgI_le (p := [91]) (tI_le l0))
  have c := tI_len (sgI_le (p := [93]) (tI_le (sgI_le (p := [91]) (tI_le l0))))
  have d := tI_len (sgI_le (p := [32, 62, 32]) (tI_le (sgI_le (p := [93]) (tI_le (sgI_le (p := [91]) (tI_le l0))))))
  unfold sz1 ruI
  simp only [nums_size]
  omega
/-- Whether a line begins with a colon. -/
abbrev colB (l : ByteArray) : Prop := 0 < l.size ∧ bt l 0 = 58
/-- What a line makes of the passes read so far; none: it is no line. -/
def wl (l : ByteArray) (P : List Pa) : Option (List Pa) :=
  if colB l then (if 0 ≤ nrm (l.extract 1 l.size) then some (P ++ [([], nrm (l.extract 1 l.size))]) else none)
  else if (ruI l).2 = true ∧ 0 < P.length then some (addR P (ruI l).1) else none
theorem wl_pass {l : ByteArray} {P : List Pa} (h : colB l) (h1 : 0 ≤ nrm (l.extract 1 l.size)) : wl l P = some (P ++ [([], nrm (l.extract 1 l.size))]) := by unfold wl; rw [if_pos h, if_pos h1]
theorem wl_none {l : ByteArray} {P : List Pa} (h : colB l) (h1 : ¬ 0 ≤ nrm (l.extract 1 l.size)) : wl l P = none := by unfold wl; rw [if_pos h, if_neg h1]
theorem wl_rule {l : ByteArray} {P : List Pa} (h : ¬ colB l) (h1 : (ruI l).2 = true) (h2 : 0 < P.length) : wl l P = some (addR P (ruI l).1) := by unfold wl; rw [if_neg h, if_pos ⟨h1, h2⟩]
theorem wl_no {l : ByteArray} {P : List Pa} (h : ¬ colB l) (h1 : ¬ ((ruI l).2 = true ∧ 0 < P.length)) : wl l P = none := by unfold wl; rw [if_neg h, if_neg h1]
theorem wl_sm {l : ByteArray} {P Q : List Pa} {k : Nat} (h : Sm k P) (hl : l.size ≤ 65536) (e : wl l P = some Q) : Sm (k + 1) Q := by
  unfold wl at e
  split at e
  · split at e
    · injection e with e; subst e; exact h.pass _
    · cases e
  · split at e
    · rename_i h2
      injection e with e; subst e; exact h.rule (ruI_size hl) h2.2
    · cases e
/-- What is read from a place on: the passes, or the line that is none. -/
def rd (s : ByteArray) : Nat → Nat → List Pa → Int → Option (List Pa) × Int
  | 0, _, P, _ => (some P, -1)
  | k + 1, p, P, n => if p < s.size then (if fnl s p < s.size then (match wl (s.extract p (fnl s p)) P with
      | some Q => rd s k (fnl s p + 1) Q (n + 1)
      | none => (none, n)) else (none, n)) else (some P, -1)
theorem rd_end {s : ByteArray} {k p : Nat} {P : List Pa} {n : Int} (h : ¬ p < s.size) : rd s (k + 1) p P n = (some P, -1) := by unfold rd; rw [if_neg h]
theorem rd_open {s : ByteArray} {k p : Nat} {P : List Pa} {n : Int} (h : p < s.size) (h1 : ¬ fnl s p < s.size) : rd s (k + 1) p P n = (none, n) := by unfold rd; rw [if_pos h, if_neg h1]
theorem rd_no {s : ByteArray} {k p : Nat} {P : List Pa} {n : Int} (h : p < s.size) (h1 : fnl s p < s.size) (h2 : wl (s.extract p (fnl s p)) P = none) : rd s (k + 1) p P n = (none, n) := by unfold rd; rw [if_pos h, if_pos h1, h2]
theorem rd_on {s : ByteArray} {k p : Nat} {P Q : List Pa} {n : Int} (h : p < s.size) (h1 : fnl s p < s.size) (h2 : wl (s.extract p (fnl s p)) P = some Q) : rd s (k + 1) p P n = rd s k (fnl s p + 1) Q (n + 1) := by
  rw [rd, if_pos h, if_pos h1, h2]
/-- What ReadPasses tells of a text that is not too long: the code, At, the passes. -/
def rdA (s : ByteArray) : Int × Int × List Pa := match rd s (s.size + 1) 0 [] 0 with
  | (none, n) => (3, n, [])
  | (some P, _) => if right P = true then (0, 0, P) else (1, 0, [])
theorem rdA_no {s : ByteArray} {n : Int} (h : rd s (s.size + 1) 0 [] 0 = (none, n)) : rdA s = (3, n, []) := by unfold rdA; rw [h]
theorem rdA_ok {s : ByteArray} {P : List Pa} {n : Int} (h : rd s (s.size + 1) 0 [] 0 = (some P, n)) (hr : right P = true) : rdA s = (0, 0, P) := by unfold rdA; rw [h]; simp [hr]
theorem rdA_bad {s : ByteArray} {P : List Pa} {n : Int} (h : rd s (s.size + 1) 0 [] 0 = (some P, n)) (hr : right P = false) : rdA s = (1, 0, []) := by unfold rdA; rw [h]; simp [hr]
/-- How far the reading has come. -/
structure Rd (s : ByteArray) (p : Nat) (P : List Pa) (n : Int) (k : Nat) : Prop where
  e : rd s (s.size + 1) 0 [] 0 = rd s k p P n
  f : s.size + 1 ≤ k + p
  m : Sm p P
  n0 : 0 ≤ n
  n1 : n ≤ p
  h : p ≤ s.size
theorem Rd.start (s : ByteArray) : Rd s 0 [] 0 (s.size + 1) := ⟨rfl, by omega, Sm.nil, by omega, by omega, by omega⟩
theorem exl_size (s : ByteArray) (p e : Nat) (h : e ≤ s.size) : (s.extract p e).size = e - p := by simp; omega
theorem Rd.next {s : ByteArray} {p : Nat} {P Q : List Pa} {n : Int} {k : Nat} (r : Rd s p P n k) (hs : s.size ≤ 65536) (h : p < s.size) (h1 : fnl s p < s.size) (h2 : wl (s.extract p (fnl s p)) P = some Q) : ∃ k', Rd s (fnl s p + 1) Q (n + 1) k' := by
  obtain ⟨k', rfl⟩ : ∃ k', k = k' + 1 := ⟨k - 1, by have := r.f; omega⟩
  have hf := (fnl_spec s _ p (Nat.le_refl _) (Nat.le_of_lt h)).1
  refine ⟨k', r.e.trans (rd_on h h1 h2), by have := r.f; omega, (wl_sm r.m (by rw [exl_size _ _ _ (by omega)]; omega) h2).mono (by omega), by have := r.n0; omega, by have := r.n1; omega, h1⟩
theorem Rd.last {s : ByteArray} {p : Nat} {P : List Pa} {n : Int} {k : Nat} (r : Rd s p P n k) (h : ¬ p < s.size) : rd s (s.size + 1) 0 [] 0 = (some P, -1) := by
  obtain ⟨k', rfl⟩ : ∃ k', k = k' + 1 := ⟨k - 1, by have := r.f; have := r.h; omega⟩
  exact r.e.trans (rd_end h)
theorem Rd.opens {s : ByteArray} {p : Nat} {P : List Pa} {n : Int} {k : Nat} (r : Rd s p P n k) (h : p < s.size) (h1 : ¬ fnl s p < s.size) : rd s (s.size + 1) 0 [] 0 = (none, n) := by
  obtain ⟨k', rfl⟩ : ∃ k', k = k' + 1 := ⟨k - 1, by have := r.f; omega⟩
  exact r.e.trans (rd_open h h1)
theorem Rd.none {s : ByteArray} {p : Nat} {P : List Pa} {n : Int} {k : Nat} (r : Rd s p P n k) (h : p < s.size) (h1 : fnl s p < s.size) (h2 : wl (s.extract p (fnl s p)) P = none) : rd s (s.size + 1) 0 [] 0 = (none, n) := by
  obtain ⟨k', rfl⟩ : ∃ k', k = k' + 1 := ⟨k - 1, by have := r.f; omega⟩
  exact r.e.trans (rd_no h h1 h2)
/-- A rule more in the row of a pass. -/
theorem Has.add {xs : List Value} {L : List Ru} {r : Ru} (h : Has xs L L.length) (hl : xs.length = L.length * 5) : Has (xs ++ cells5 r) (L ++ [r]) (L ++ [r]).length := by
  intro i hi
  have hi' : i < L.length + 1 := by simpa using hi
  by_cases e : i < L.length
  · have := h i e
    rw [gr_left _ _ i e, List.getElem?_append_left (by omega), List.getElem?_append_left (by omega), List.getElem?_append_left (by omega), List.getElem?_append_left (by omega), List.getElem?_append_left (by omega)]
    exact this
  · obtain rfl : i = L.length := by omega
    rw [gr_last]
    have g : ∀ j, j < 5 → (xs ++ cells5 r)[L.length * 5 + j]? = (cells5 r)[j]? := fun j hj => by
      rw [List.getElem?_append_right (by omega), hl]; congr 1; omega
    refine ⟨?_, ?_, ?_, ?_, ?_⟩
    · have := g 0 (by omega); rw [Nat.add_zero] at this; rw [this]; rfl
    · rw [g 1 (by omega)]; rfl
    · rw [g 2 (by omega)]; rfl
    · rw [g 3 (by omega)]; rfl
    · rw [g 4 (by omega)]; rfl
/-- The last pass of a row of passes: its row of rules, and what the row is when that has grown by a rule. -/
theorem pag_add {lo hi n : Nat} {w : World} {v : Value} {P : List Pa} (h : PaG lo hi w v P) (hn : P.length = n + 1) (hh : hi ≤ w.heap.size) :
    ∃ gv cap u xs, v = .slice (some ⟨gv, 0, none⟩) (n + 1) cap ∧ lo ≤ gv ∧ gv < w.heap.size ∧ w.cell? ⟨gv, n * 2, none⟩ = some u ∧ w.frozen? ⟨gv, n * 2, none⟩ = false ∧ (∃ a c, u = .slice a (gp P n).1.length c) ∧ xs.length = (gp P n).1.length * 5 ∧ w.ownsRow lo 40 5 u (gp P n).1.length xs ∧ u.ownBlock ≠ some gv ∧
      ∀ (w1 w2 : World) (u' : Value) (r : Ru), Below w.heap.size w w1 → w2.ownsRow lo 40 5 u' ((gp P n).1.length + 1) (xs ++ cells5 r) → w1.grownBy w2 u.ownBlock → (∀ k, u'.ownBlock = some k → u.ownBlock = some k ∨ w1.heap.size ≤ k) → PaG lo w2.heap.size (w2.setCell ⟨gv, n * 2, none⟩ u') v (addR P r) := by
  obtain ⟨gs, ys, h1, h2, h3, h4⟩ := h
  have h1' := h1
  rcases h1.2 with ⟨_, h'⟩ | ⟨gv, cap, cur, hv, hgl, _⟩
  · omega
  rw [hn] at hv
  obtain ⟨u, c1, hu, c2⟩ := h3 n (by omega)
  have hgv := (h2 gv (by rw [hv]; rfl)).2
  have hgs := own_lt h1' (k := gv) (by rw [hv]; rfl)
  have hys : ys.length = P.length * 2 := h1.1
  have hown : ∃ xs, Has xs (gp P n).1 (gp P n).1.length ∧ w.ownsRow lo 40 5 u (gp P n).1.length xs ∧ u.ownBlock = gs n := by
    rcases hu with ⟨e1, e2, e3⟩ | ⟨b, c, xs, e1, e2, _, _, e3, e4⟩
    · rw [e1, e2, e3]
      exact ⟨[], fun i hi => by simp at hi, World.ownsRow_nil w _ _ _, rfl⟩
    · rw [e1, e2]
      exact ⟨xs, e3, e4, rfl⟩
  obtain ⟨xs, hx, ho, hub⟩ := hown
  have huv : u.ownBlock ≠ some gv := by rw [hub]; exact hgv n (by omega)
  have hgl2 : ∀ i k, i < P.length → gs i = some k → lo ≤ k ∧ k < hi ∧ k < w.heap.size := fun i k hi' e => by
    obtain ⟨u', _, hu', _⟩ := h3 i hi'
    exact hu'.lt e
  have h1n : w.ownsRow lo 37 2 (.slice (some ⟨gv, 0, none⟩) (n + 1) cap) (n + 1) ys := by rw [← hv, ← hn]; exact h1'
  have hfr : w.cell? ⟨gv, n * 2, none⟩ = some u := (h1n.cellAt (n * 2) (by omega)).trans c1
  refine ⟨gv, cap, u, xs, hv, hgs.1, hgs.2, hfr, h1n.frozenAt _, ?_, ho.1, ho, huv, ?_⟩
  · rcases ho.2 with ⟨e, hz⟩ | ⟨g, c, _, e, _⟩
    · exact ⟨_, _, by rw [e, hz]⟩
    · exact ⟨_, _, e⟩
  intro w1 w2 u' r hb ho' hg hk
  have hs1 := hb.size
  have hs2 := hg.size
  have hul : ∀ k, u'.ownBlock = some k → lo ≤ k ∧ k < w2.heap.size := fun k e => own_lt ho' e
  have hugv : u'.ownBlock ≠ some gv := fun e => by
    rcases hk gv e with e2 | e2
    · exact huv e2
    · omega
  have hblk : w2.heap[gv]? = w.heap[gv]? := (hg.block gv (by omega) (fun e => huv e.symm)).trans (hb.block gv hgs.2)
  have hO2 : w2.ownsRow lo 37 2 v P.length ys := own_atP h1 (fun q hq => by rw [hv] at hq; cases hq; exact hblk)
  refine ⟨fun i => if i = n then u'.ownBlock else gs i, ys.set (n * 2) u', ?_, ?_, fun i hi' => ?_, ?_⟩
  · rw [addR_len]
    rw [hv, hn] at hO2 ⊢
    exact (hO2.stored (n * 2) _).1
  · intro k hk'
    rw [hv] at hk'
    cases hk'
    refine ⟨by show gv < _; omega, fun i hi' => ?_⟩
    rw [addR_len] at hi'
    by_cases c : i = n
    · simp only [if_pos c]; exact hugv
    · simp only [if_neg c]; exact hgv i hi'
  · rw [addR_len] at hi'
    by_cases c : i = n
    · subst c
      simp only [↓reduceIte]
      rw [addR_last r hn]
      refine ⟨u', ?_, ?_, ?_⟩
      · rw [List.getElem?_set, if_pos rfl, if_pos (by omega)]
      · have hX : RuX lo w2 u' ((gp P i).1 ++ [r]) := ⟨_, Has.add hx ho.1, by rw [List.length_append]; exact ho'⟩
        exact (hX.at (w' := w2.setCell ⟨gv, i * 2, none⟩ u') (fun k e => heap_setCell_other w2 ⟨gv, i * 2, none⟩ k _ (by intro e2; exact hugv (by rw [e, show k = gv from e2])))).toG (Nat.le_refl _) (by simp)
      · rw [List.getElem?_set, if_neg (by omega)]; exact c2
    · simp only [if_neg c]
      rw [addR_other r hn c]
      obtain ⟨x, d1, hx', d2⟩ := h3 i hi'
      refine ⟨x, ?_, (RuG.at hx' (fun q hq => ?_)).up (by omega), ?_⟩
      · rw [List.getElem?_set, if_neg (by omega)]; exact d1
      · rw [heap_setCell_other w2 ⟨gv, n * 2, none⟩ q _ (by intro e; exact hgv i hi' (by rw [hq, show q = gv from e]))]
        have hq3 := (hx'.lt hq).2.2
        rw [hg.block q (by omega) (fun e3 => h4 i n q hi' (by omega) c hq (by rw [← hub]; exact e3.symm)), hb.block q hq3]
      · rw [List.getElem?_set, if_neg (by omega)]; exact d2
  · intro i j k hi' hj' hij e e2
    rw [addR_len] at hi' hj'
    simp only at e e2
    by_cases c : i = n
    · rw [if_pos c] at e
      rw [if_neg (fun d => hij (c.trans d.symm))] at e2
      have hj2 := hgl2 j k hj' e2
      rcases hk k e with e3 | e3
      · exact h4 n j k (by omega) hj' (fun d => hij (c.trans d)) (by rw [← hub]; exact e3) e2
      · omega
    · rw [if_neg c] at e
      by_cases d : j = n
      · rw [if_pos d] at e2
        have hi2 := hgl2 i k hi' e
        rcases hk k e2 with e3 | e3
        · exact h4 i n k hi' (by omega) c e (by rw [← hub]; exact e3)
        · omega
      · rw [if_neg d] at e2
        exact h4 i j k hi' hj' hij e e2
end Go.Proofs.YtklakcnapdhcnaaDoor.Pas
