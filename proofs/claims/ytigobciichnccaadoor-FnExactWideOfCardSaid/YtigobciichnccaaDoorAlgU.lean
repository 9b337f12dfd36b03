/- The characters of a text as the program gathers them (a function that is told how many at most): all of them, or none. -/
import Derived.Test.YtigobciichnccaaDoorAlgJ
import Derived.RangeFuncBox
import Derived.Test.YtigobciichnccaaDoorStrB
namespace Go.Proofs.YtigobciichnccaaDoor
namespace Chr
open Go.RowKit Go.Shelf
set_option linter.unusedVariables false
set_option linter.unusedSimpArgs false
attribute [local go_sem] Oper.semAt_some
/-- The statement, its record unseen behind the loop. -/
theorem range_walkR {F : Fence} {n : Nat} {P : Program} {g : Operand} {ps : Array Tmp} {asg bd : Code} {Q : Exit → Act → World → Prop} {a : Act} {w : World} (hro : F.round = none) (h1 : 1 ≤ n) {gf : Nat} {lb : Array Value} (hg : a.eval g = .func (.func gf) #[] lb) (hFg : F.fn gf)
    (eg : ∀ args w, (callFunc gf args).run P w = .ok (.enter gf args) w)
    (h : ∀ fn, F.fn fn → CallsIn F (n - 1) P gf (#[.func (.yield (w.heap.size + 1)) #[] #[]] ++ lb) ((w.alloc (.deferred (some []))).alloc (.loop (lrec .ready none fn a.tmps ps asg bd w.heap.size))) fun e W => (∃ v, e = .returned v) ∧
      ((W.heap[w.heap.size + 1]? = some (.loop (lrec .ready none fn a.tmps ps asg bd w.heap.size)) ∧ ∀ o, Q .normal { a with defers := { target := .collected w.heap.size, args := #[] } :: a.defers } (W.putObj (w.heap.size + 1) o)) ∨
       (∃ c, W.heap[w.heap.size + 1]? = some (.loop (lrec .done (some c) fn a.tmps ps asg bd w.heap.size)) ∧ ∀ o, c.wpIn F n P Q { a with defers := { target := .collected w.heap.size, args := #[] } :: a.defers } (W.putObj (w.heap.size + 1) o)))) :
    (Code.rangeFunc g ps asg bd).wpIn F n P Q a w := by
  refine range_walk hro h1 hg hFg eg fun fn hfn => (h fn hfn).mono ?_
  rintro e W ⟨he, ⟨h2, h3⟩ | ⟨c, h2, h3⟩⟩
  · exact ⟨he, .inl ⟨h2, h3 _⟩⟩
  · exact ⟨he, .inr ⟨c, h2, h3 _⟩⟩
/-- A round, its record unseen. -/
theorem yield_roundR {F : Fence} {n : Nat} {P : Program} {l d : Nat} {fn : FuncId} {tm : Array Value} {ps : Array Tmp} {asg bd : Code} {args : Array Value} {W : World} {R : Ending → World → Prop} (hF : F.fn fn)
    (hl : W.heap[l]? = some (.loop (lrec .ready none fn tm ps asg bd d))) (hs : args.size = ps.size) (a1 : Act)
    (ha : ∀ K : Act → World → Prop, K a1 W → asg.wpIn (F.inRound l) n P (Exit.then K (fun _ _ _ => False)) { tmps := (ps.zip args).foldl (fun t (p, v) => t.setIfInBounds p v) tm, defers := [] } W)
    (hb : ∀ rc : LoopState → Option Code → Loop, (∀ st pe, rc st pe = lrec st pe fn tm ps asg bd d) → bd.wpIn (F.inRound l) n P (outR l rc R) a1 (W.putObj l (.loop (rc .busy none)))) :
    YieldAt F n P l args W R := yield_round hF hl hs a1 ha (hb _ (fun _ _ => rfl))
theorem own_form {W : World} {B k : Nat} {e : TypeId} {v : Value} {xs : List Value} (h : W.ownsRow B e 1 v k xs) : ∃ a cap, v = .slice a k cap := by
  rcases h.2 with ⟨rfl, h0⟩ | ⟨g, cap, cur, rfl, _⟩
  · rw [h0]; exact ⟨_, _, rfl⟩
  · exact ⟨_, _, rfl⟩
/-- While they are gathered: the boxes of the two results, the record, the row. -/
structure Wc (w V : World) (rc : Obj) (pre : List ByteArray) (v : Value) : Prop where
  bc : Boxed V w.heap.size 47 v
  bf : Boxed V (w.heap.size + 1) 4 (.bool false)
  bd : V.heap[w.heap.size + 3]? = some (.deferred (some []))
  bl : V.heap[w.heap.size + 4]? = some rc
  row : V.ownsRow (w.heap.size + 8) 9 1 v pre.length (pre.map Value.string)
  bel : Below w.heap.size w V
theorem Wc.lt {w V : World} {rc : Obj} {pre : List ByteArray} {v : Value} (h : Wc w V rc pre v) : w.heap.size + 4 < V.heap.size := (Array.getElem?_eq_some_iff.1 h.bl).1
theorem keep_own {V V' : World} {B k : Nat} {e : TypeId} {v : Value} {xs : List Value} {row : Option Nat} (h : V.ownsRow B e 1 v k xs) (hg : V.grownBy V' row) (hr : ∀ r, row = some r → r < B) : V'.ownsRow B e 1 v k xs := by
  refine h.kept hg ?_
  cases row with
  | none =>
    cases hv : v.ownBlock with
    | none => exact .inl rfl
    | some g => exact .inr (fun e => by cases e)
  | some r =>
    refine .inr fun e => ?_
    have h1 := (h.lt r e).1
    have h2 := hr r rfl
    omega
theorem Wc.grown {w V V' : World} {rc : Obj} {pre : List ByteArray} {v : Value} {row : Option Nat} (h : Wc w V rc pre v) (hg : V.grownBy V' row) (hr : ∀ r, row = some r → r = w.heap.size + 6 ∨ r = w.heap.size + 7) : Wc w V' rc pre v := by
  have hne : ∀ k, k ≠ w.heap.size + 6 → k ≠ w.heap.size + 7 → some k ≠ row := fun k h1 h2 e => by rcases hr k e.symm with h | h <;> omega
  have hlt := h.lt
  refine ⟨h.bc.kept hg (hne _ (by omega) (by omega)), h.bf.kept hg (hne _ (by omega) (by omega)), (hg.block _ (by omega) (hne _ (by omega) (by omega))).trans h.bd, (hg.block _ (by omega) (hne _ (by omega) (by omega))).trans h.bl, keep_own h.row hg (fun r e => by rcases hr r e with h | h <;> omega), h.bel.grown hg (by omega) (fun k e => by rcases hr k e with h | h <;> omega)⟩
theorem Wc.rcd {w V : World} {rc : Obj} {pre : List ByteArray} {v : Value} (h : Wc w V rc pre v) (rc' : Obj) : Wc w (V.putObj (w.heap.size + 4) rc') rc' pre v := by
  have hg := grownBy_putObj' V (w.heap.size + 4) rc'
  have hlt := h.lt
  have hne : ∀ k, k ≠ w.heap.size + 4 → some k ≠ some (w.heap.size + 4) := fun k h1 e => by injection e with e; omega
  exact ⟨h.bc.kept hg (hne _ (by omega)), h.bf.kept hg (hne _ (by omega)), (hg.block _ (by omega) (hne _ (by omega))).trans h.bd, World.putObj_heap_same (by omega), keep_own h.row hg (fun r e => by injection e with e; omega), h.bel.grown hg (by omega) (fun k e => by injection e with e; omega)⟩
theorem Wc.nil {w V : World} {rc : Obj} {pre : List ByteArray} {v : Value} (h : Wc w V rc pre v) : Wc w (V.setCell ⟨w.heap.size, 0, none⟩ (.slice none 0 0)) rc [] (.slice none 0 0) := by
  have hg := grownBy_setCell' V w.heap.size (.slice none 0 0)
  have hlt := h.lt
  have hne : ∀ k, k ≠ w.heap.size → some k ≠ some w.heap.size := fun k h1 e => by injection e with e; omega
  exact ⟨h.bc.set _, h.bf.kept hg (hne _ (by omega)), (hg.block _ (by omega) (hne _ (by omega))).trans h.bd, (hg.block _ (by omega) (hne _ (by omega))).trans h.bl, World.ownsRow_nil _ _ _ _, h.bel.setCell (p := ⟨w.heap.size, 0, none⟩) (Nat.le_refl _) _⟩
theorem Wc.no {w V : World} {rc : Obj} {pre : List ByteArray} {v : Value} (h : Wc w V rc pre v) : Wc w (V.setCell ⟨w.heap.size + 1, 0, none⟩ (.bool false)) rc pre v := by
  have hg := grownBy_setCell' V (w.heap.size + 1) (.bool false)
  have hlt := h.lt
  have hne : ∀ k, k ≠ w.heap.size + 1 → some k ≠ some (w.heap.size + 1) := fun k h1 e => by injection e with e; omega
  exact ⟨h.bc.kept hg (hne _ (by omega)), h.bf.set _, (hg.block _ (by omega) (hne _ (by omega))).trans h.bd, (hg.block _ (by omega) (hne _ (by omega))).trans h.bl, keep_own h.row hg (fun r e => by injection e with e; omega), h.bel.setCell (p := ⟨w.heap.size + 1, 0, none⟩) (by show w.heap.size ≤ w.heap.size + 1; omega) _⟩
theorem Wc.app {w V w3 : World} {rc : Obj} {pre : List ByteArray} {v v' : Value} {x : ByteArray} {tmp : Obj} (h : Wc w V rc pre v) (h8 : w.heap.size + 8 ≤ V.heap.size) (ho : w3.ownsRow (w.heap.size + 8) 9 1 v' (pre.length + 1) (pre.map Value.string ++ [.string x])) (hg : (V.alloc tmp).grownBy w3 v.ownBlock) :
    Boxed w3 w.heap.size 47 v ∧ Wc w (w3.setCell ⟨w.heap.size, 0, none⟩ v') rc (pre ++ [x]) v' ∧ (∀ k, k < w.heap.size + 8 → k ≠ w.heap.size → (w3.setCell ⟨w.heap.size, 0, none⟩ v').heap[k]? = V.heap[k]?) ∧ V.heap.size ≤ (w3.setCell ⟨w.heap.size, 0, none⟩ v').heap.size := by
  have hne : ∀ k, k < w.heap.size + 8 → some k ≠ v.ownBlock := fun k hk e => by have := (h.row.lt k e.symm).1; omega
  have hk : ∀ k, k < w.heap.size + 8 → w3.heap[k]? = V.heap[k]? := fun k hk => (hg.block k (by simp; omega) (hne k hk)).trans (Below.heap_alloc V tmp k (by omega))
  have hs := grownBy_setCell' w3 w.heap.size v'
  have hz : V.heap.size + 1 ≤ w3.heap.size := by have := hg.size; simpa using this
  have hk2 : ∀ k, k < w.heap.size + 8 → k ≠ w.heap.size → (w3.setCell ⟨w.heap.size, 0, none⟩ v').heap[k]? = V.heap[k]? := fun k hk1 hk2 => (hs.block k (by omega) (fun e => by injection e with e; omega)).trans (hk k hk1)
  have hb3 : Boxed w3 w.heap.size 47 v := (hk _ (by omega)).trans h.bc
  refine ⟨hb3, ⟨hb3.set _, (hk2 _ (by omega) (by omega)).trans h.bf, (hk2 _ (by omega) (by omega)).trans h.bd, (hk2 _ (by omega) (by omega)).trans h.bl, ?_, ?_⟩, hk2, by have := hs.size; omega⟩
  · have := keep_own ho hs (fun r e => by injection e with e; omega)
    simpa using this
  · exact (((h.bel.alloc h.bel.size tmp).grown hg (by simp; omega) (fun j hj => by have := (h.row.lt j hj).1; omega)).setCell (p := ⟨w.heap.size, 0, none⟩) (Nat.le_refl _) _)
theorem own_base {W : World} {B B' k : Nat} {e : TypeId} {v : Value} {xs : List Value} (h : W.ownsRow B' e 1 v k xs) (hB : B ≤ B') : W.ownsRow B e 1 v k xs := by
  refine ⟨h.1, ?_⟩
  rcases h.2 with h' | ⟨g, cp, cur, hv, hg, r⟩
  · exact .inl h'
  · exact .inr ⟨g, cp, cur, hv, Nat.le_trans hB hg, r⟩
/-- Behind the last stores, and behind the return. -/
theorem Wc.ends {w V : World} {rc : Obj} {pre : List ByteArray} {v : Value} (h : Wc w V rc pre v) :
    ((V.setCell ⟨w.heap.size, 0, none⟩ v).setCell ⟨w.heap.size + 1, 0, none⟩ (.bool true)).heap[w.heap.size + 3]? = some (.deferred (some [])) ∧
    (((V.setCell ⟨w.heap.size, 0, none⟩ v).setCell ⟨w.heap.size + 1, 0, none⟩ (.bool true)).putObj (w.heap.size + 3) (.deferred none)).cell? ⟨w.heap.size, 0, none⟩ = some v ∧
    (((V.setCell ⟨w.heap.size, 0, none⟩ v).setCell ⟨w.heap.size + 1, 0, none⟩ (.bool true)).putObj (w.heap.size + 3) (.deferred none)).cell? ⟨w.heap.size + 1, 0, none⟩ = some (.bool true) ∧
    (((V.setCell ⟨w.heap.size, 0, none⟩ v).setCell ⟨w.heap.size + 1, 0, none⟩ (.bool true)).putObj (w.heap.size + 3) (.deferred none)).ownsRow w.heap.size 9 1 v pre.length (pre.map Value.string) ∧
    Below w.heap.size w (((V.setCell ⟨w.heap.size, 0, none⟩ v).setCell ⟨w.heap.size + 1, 0, none⟩ (.bool true)).putObj (w.heap.size + 3) (.deferred none)) := by
  have hlt := h.lt
  have g1 := grownBy_setCell' V w.heap.size v
  have g2 := grownBy_setCell' (V.setCell ⟨w.heap.size, 0, none⟩ v) (w.heap.size + 1) (.bool true)
  have g3 := grownBy_putObj' ((V.setCell ⟨w.heap.size, 0, none⟩ v).setCell ⟨w.heap.size + 1, 0, none⟩ (.bool true)) (w.heap.size + 3) (.deferred none)
  have z1 := g1.size
  have z2 := g2.size
  have ne : ∀ a b : Nat, a ≠ b → some a ≠ some b := fun a b h e => h (by injection e)
  have lt : ∀ b : Nat, w.heap.size ≤ b → ∀ k, some b = some k → w.heap.size ≤ k := fun b hb k e => by injection e with e; omega
  have b1 := h.bc.set v
  have b2 := b1.kept g2 (ne _ _ (by omega))
  have b3 := b2.kept g3 (ne _ _ (by omega))
  have f1 := h.bf.kept g1 (ne _ _ (by omega))
  have f2 := f1.set (.bool true)
  have f3 := f2.kept g3 (ne _ _ (by omega))
  refine ⟨(g2.block _ (by omega) (ne _ _ (by omega))).trans ((g1.block _ (by omega) (ne _ _ (by omega))).trans h.bd), b3.cell, f3.cell, ?_, ?_⟩
  · exact own_base (keep_own (keep_own (keep_own h.row g1 (fun r e => by injection e with e; omega)) g2 (fun r e => by injection e with e; omega)) g3 (fun r e => by injection e with e; omega)) (by omega)
  · exact ((h.bel.grown g1 (by omega) (lt _ (by omega))).grown g2 (by omega) (lt _ (by omega))).grown g3 (by omega) (lt _ (by omega))
theorem Wc.stops {w V : World} {rc : Obj} {pre : List ByteArray} {v : Value} (h : Wc w V rc pre v) :
    (V.putObj (w.heap.size + 3) (.deferred none)).cell? ⟨w.heap.size, 0, none⟩ = some v ∧ (V.putObj (w.heap.size + 3) (.deferred none)).cell? ⟨w.heap.size + 1, 0, none⟩ = some (.bool false) ∧ Below w.heap.size w (V.putObj (w.heap.size + 3) (.deferred none)) := by
  have hlt := h.lt
  have g3 := grownBy_putObj' V (w.heap.size + 3) (.deferred none)
  have ne : ∀ a b : Nat, a ≠ b → some a ≠ some b := fun a b h e => h (by injection e)
  exact ⟨(h.bc.kept g3 (ne _ _ (by omega))).cell, (h.bf.kept g3 (ne _ _ (by omega))).cell, h.bel.grown g3 (by omega) (fun k e => by injection e with e; omega)⟩
theorem along_any (s : ByteArray) (w : World) : Calls Tryd.prog 11 #[.string s] w fun e w' => e = .returned (.func (.func 26) #[] #[.pointer (some ⟨w.heap.size, 0, none⟩)]) ∧ w' = w.alloc (.cells #[.string s] 9) := by
  go_enter Tryd.func11, Tryd.ntmps11
  go_wp2
  go_ret
  exact ⟨rfl, rfl⟩
theorem words_walk (s : ByteArray) (hs : s.size ≤ 65536) (w w2 : World) (ht : TabAt w) (htl : 2 < w.heap.size) (hz : w2.heap.size = w.heap.size + 3) (bC : Boxed w2 w.heap.size 47 (.slice none 0 0)) (bF : Boxed w2 (w.heap.size + 1) 4 (.bool false)) (bT : Boxed w2 (w.heap.size + 2) 9 (.string s)) (hB2 : Below w.heap.size w w2)
    {fn : FuncId} {tm : Array Value} {ps : Array Tmp} {asg bd : Code} {d : Nat}
    (hBody : ∀ pre x v Va, Wc w Va (.loop (lrec .ready none fn tm ps asg bd d)) pre v → pre.length ≤ 200 → w.heap.size + 7 < Va.heap.size → YieldAt Fence.wide 4 Tryd.prog (w.heap.size + 4) #[.string x] Va fun e Vb =>
      (e = .returned (.bool true) ∧ (∃ v', Wc w Vb (.loop (lrec .ready none fn tm ps asg bd d)) (pre ++ [x]) v' ∧ (pre ++ [x]).length ≤ 200) ∧ Ka (w.heap.size + 5) (w.heap.size + 2) Va Vb) ∨ (e = .returned (.bool false) ∧ Wc w Vb (.loop (lrec .done (some .ret) fn tm ps asg bd d)) [] (.slice none 0 0) ∧ 200 < (pre ++ [x]).length)) :
    CallsIn Fence.wide 5 Tryd.prog 26 #[.func (.yield (w.heap.size + 4)) #[] #[], .pointer (some ⟨w.heap.size + 2, 0, none⟩)] ((w2.alloc (.deferred (some []))).alloc (.loop (lrec .ready none fn tm ps asg bd d))) fun e V => (∃ v, e = .returned v) ∧
      ((∃ v, Wc w V (.loop (lrec .ready none fn tm ps asg bd d)) (chA s) v ∧ (chA s).length ≤ 200) ∨ (Wc w V (.loop (lrec .done (some .ret) fn tm ps asg bd d)) [] (.slice none 0 0) ∧ 200 < (chA s).length)) := by
  generalize hrc : Obj.loop (lrec .ready none fn tm ps asg bd d) = rc at *
  generalize hrx : Obj.loop (lrec .done (some .ret) fn tm ps asg bd d) = rx at *
  have hz3 : (w2.alloc (.deferred (some []))).heap.size = w.heap.size + 4 := by simp [hz]
  obtain ⟨W, hW⟩ : ∃ W, W = (w2.alloc (.deferred (some []))).alloc rc := ⟨_, rfl⟩
  have hWz : W.heap.size = w.heap.size + 5 := by rw [hW]; simp [hz]
  have hB3 : Below w2.heap.size w2 W := by rw [hW]; exact bel2 _ _ _
  have W0 : Wc w W rc [] (.slice none 0 0) := by
    refine ⟨(hB3.block _ (by omega)).trans bC, (hB3.block _ (by omega)).trans bF, ?_, ?_, World.ownsRow_nil _ _ _ _, hB2.trans (hB3.mono (by omega))⟩
    · rw [hW, Below.heap_alloc _ _ _ (by omega), ← hz]
      exact heap_alloc_last _ _
    · rw [hW, ← hz3]
      exact heap_alloc_last _ _
  have bT3 : W.cell? ⟨w.heap.size + 2, 0, none⟩ = some (.string s) := (hB3.cell (p := ⟨w.heap.size + 2, 0, none⟩) (by show w.heap.size + 2 < _; omega)).trans bT.cell
  have ht3 : TabAt W := ht.below W0.bel
  rw [← hW]
  clear hW hrc hrx hB3 hB2 bC bF bT
  refine (along_in 5 (w.heap.size + 4) (w.heap.size + 2) s hs W ht3 (by omega) bT3 (by omega) (fun pre V => ∃ v, Wc w V rc pre v ∧ pre.length ≤ 200) (fun pre V => Wc w V rx [] (.slice none 0 0) ∧ 200 < pre.length) ?_ ?_ ⟨_, W0, by simp⟩).mono ?_
  · rintro pre Va Vb row ⟨v, h, hl⟩ hg hr
    exact ⟨v, h.grown hg (fun r e => by rcases hr r e with h | h <;> omega), hl⟩
  · rintro pre x Va ⟨v, h, hl⟩ _ hsz
    rw [hWz]
    exact hBody pre x v Va h hl (by omega)
  · rintro e V ⟨he, h | ⟨pre, hp, h⟩⟩
    · exact ⟨he, .inl h⟩
    · exact ⟨he, .inr ⟨h.1, Nat.lt_of_lt_of_le h.2 hp.length_le⟩⟩
set_option maxRecDepth 100000 in
theorem short_any (s : ByteArray) (w : World) (hle : ¬ (65536 : Int) < (s.size : Int)) : Calls Tryd.prog 10 #[.string s] w fun e w' => e = .returned (.bool false) ∧ w' = w := by
  go_enter Tryd.func10, Tryd.ntmps10
  go_wp2
  go_ret
  exact ⟨rfl, rfl⟩
set_option maxRecDepth 100000 in
theorem long_any (s : ByteArray) (w : World) (hle : (65536 : Int) < (s.size : Int)) : Calls Tryd.prog 10 #[.string s] w fun e w' => e = .returned (.bool true) ∧ w' = w := by
  go_enter Tryd.func10, Tryd.ntmps10
  go_wp2
  go_ret
  exact ⟨rfl, rfl⟩
/-- What they are, folded. -/
def Rws (w w' : World) (m : Nat) (M : List Value) (v : Value) (b : Bool) : Prop := if m ≤ 200 then b = true ∧ w'.ownsRow w.heap.size 9 1 v m M else b = false ∧ v = .slice none 0 0
end Chr
end Go.Proofs.YtigobciichnccaaDoor
