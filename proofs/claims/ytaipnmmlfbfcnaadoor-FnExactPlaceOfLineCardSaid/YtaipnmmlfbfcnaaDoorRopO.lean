/- The nodes of a rope's list, gathered. -/
import Derived.Test.YtaipnmmlfbfcnaaDoorRopA
import Derived.Test.YtaipnmmlfbfcnaaDoorCloS
namespace Go.Proofs.YtaipnmmlfbfcnaaDoor.Rop
open Go.RowKit Go.Shelf
set_option linter.unusedVariables false
set_option linter.unusedSimpArgs false
attribute [local go_sem] Oper.semAt_some
/-- One call of yield, whose assignment makes memory. -/
theorem yield_roundG {F : Fence} {n : Nat} {P : Program} {l d : Nat} {fn : FuncId} {tm : Array Value} {ps : Array Tmp} {asg bd : Code} {args : Array Value} {W : World} {R : Ending → World → Prop} (hF : F.fn fn)
    (hl : W.heap[l]? = some (.loop (lrec .ready none fn tm ps asg bd d))) (hs : args.size = ps.size) (a1 : Act) (W1 : World) (hl1 : W1.heap[l]? = some (.loop (lrec .ready none fn tm ps asg bd d)))
    (ha : ∀ K : Act → World → Prop, K a1 W1 → asg.wpIn (F.inRound l) n P (Exit.then K (fun _ _ _ => False)) { tmps := (ps.zip args).foldl (fun t (p, v) => t.setIfInBounds p v) tm, defers := [] } W)
    (hb : ∀ rc : LoopState → Option Code → Loop, (∀ st pe, rc st pe = lrec st pe fn tm ps asg bd d) → bd.wpIn (F.inRound l) n P (outR l rc R) a1 (W1.putObj l (.loop (rc .busy none)))) :
    YieldAt F n P l args W R := by
  refine ⟨fn, _, asg, bd, run_yield hl hs, roundIn_of_wpIn hF (ha _ ⟨_, run_beginRound hl1 rfl, wpIn_mono (hb (fun st pe => lrec st pe fn tm ps asg bd d) (fun _ _ => rfl)) ?_⟩)⟩
  intro e a W' h
  cases e with
  | normal => exact ⟨_, _, run_endRound none h.1, h.2⟩
  | ret => exact ⟨_, _, run_endRound (some .ret) h.1, h.2⟩
  | exit id => exact ⟨_, _, run_endRound (some (.exit id)) h.1, h.2⟩
  | goto t => exact h.elim
  | panic c => exact h.elim
  | outgrown => exact h.elim
def cl5 (x : Nd) : List Value := [.string x.text, .int .i64 x.left, .int .i64 x.right, .int .i64 x.size, .int .i64 x.lines]
def flat (L : List Nd) : List Value := L.flatMap cl5
theorem flat_snoc (L : List Nd) (x : Nd) : flat (L ++ [x]) = flat L ++ cl5 x := by simp [flat]
theorem flat_app (L M : List Nd) : flat (L ++ M) = flat L ++ flat M := by simp [flat]
theorem flat_len (L : List Nd) : (flat L).length = L.length * 5 := by
  induction L with
  | nil => rfl
  | cons x L ih =>
    show (cl5 x ++ flat L).length = _
    rw [List.length_append, ih, List.length_cons]
    show 5 + _ = _
    omega
theorem infoN : (Tryd.prog.info? 45).map (fun i => (i.zero, i.size, i.bytes)) = some (some (.agg #[.string ⟨#[]⟩, .int .i64 0, .int .i64 0, .int .i64 0, .int .i64 0]), 5, 48) := by kernel_rfl
/-- A row of nodes of one's own. -/
def Ny (B : Nat) (w : World) (v : Value) (L : List Nd) : Prop := w.ownsRow B 45 5 v L.length (flat L)
theorem keep_own {V V' : World} {B k : Nat} {e : TypeId} {s : Nat} {v : Value} {xs : List Value} {row : Option Nat} (h : V.ownsRow B e s v k xs) (hg : V.grownBy V' row) (hr : ∀ r, row = some r → r < B) : V'.ownsRow B e s v k xs := by
  refine h.kept hg ?_
  cases row with
  | none =>
    cases hv : v.ownBlock with
    | none => exact .inl rfl
    | some g => exact .inr (fun e => by cases e)
  | some r =>
    refine .inr fun e => ?_
    have h1 := (h.lt r e).1
    have h2 := hr r rfl
    omega
theorem own_base {W : World} {B B' k : Nat} {e : TypeId} {s : Nat} {v : Value} {xs : List Value} (h : W.ownsRow B' e s v k xs) (hB : B ≤ B') : W.ownsRow B e s v k xs := by
  refine ⟨h.1, ?_⟩
  rcases h.2 with h' | ⟨g, cp, cur, hv, hg, r⟩
  · exact .inl h'
  · exact .inr ⟨g, cp, cur, hv, Nat.le_trans hB hg, r⟩
theorem own_formN {W : World} {B k : Nat} {e : TypeId} {s : Nat} {v : Value} {xs : List Value} (h : W.ownsRow B e s v k xs) : ∃ a cap, v = .slice a k cap := by
  rcases h.2 with ⟨rfl, h0⟩ | ⟨g, cap, cur, rfl, _⟩
  · rw [h0]; exact ⟨_, _, rfl⟩
  · exact ⟨_, _, rfl⟩
/-- While they are gathered: A the place of the first box. -/
structure Wn (A : Nat) (w V : World) (rc : Obj) (pre : List Nd) (v : Value) : Prop where
  bc : Boxed V A 28 v
  bd : V.heap[A + 2]? = some (.deferred (some []))
  bl : V.heap[A + 3]? = some rc
  row : Ny (A + 9) V v pre
  bel : Below A w V
theorem Wn.lt {A : Nat} {w V : World} {rc : Obj} {pre : List Nd} {v : Value} (h : Wn A w V rc pre v) : A + 3 < V.heap.size := (Array.getElem?_eq_some_iff.1 h.bl).1
theorem Wn.grown {A : Nat} {w V V' : World} {rc : Obj} {pre : List Nd} {v : Value} {row : Option Nat} (h : Wn A w V rc pre v) (hg : V.grownBy V' row) (hr : ∀ r, row = some r → A + 4 ≤ r ∧ r < A + 9) : Wn A w V' rc pre v := by
  have hne : ∀ k, k < A + 4 → some k ≠ row := fun k h1 e => by have := hr k e.symm; omega
  have hlt := h.lt
  exact ⟨h.bc.kept hg (hne _ (by omega)), (hg.block _ (by omega) (hne _ (by omega))).trans h.bd, (hg.block _ (by omega) (hne _ (by omega))).trans h.bl, keep_own h.row hg (fun r e => (hr r e).2), h.bel.grown hg (by omega) (fun k e => by have := hr k e; omega)⟩
theorem Wn.rcd {A : Nat} {w V : World} {rc : Obj} {pre : List Nd} {v : Value} (h : Wn A w V rc pre v) (rc' : Obj) : Wn A w (V.putObj (A + 3) rc') rc' pre v := by
  have hg := grownBy_putObj' V (A + 3) rc'
  have hlt := h.lt
  have hne : ∀ k, k ≠ A + 3 → some k ≠ some (A + 3) := fun k h1 e => by injection e with e; omega
  exact ⟨h.bc.kept hg (hne _ (by omega)), (hg.block _ (by omega) (hne _ (by omega))).trans h.bd, World.putObj_heap_same (by omega), keep_own h.row hg (fun r e => by injection e with e; omega), h.bel.grown hg (by omega) (fun k e => by injection e with e; omega)⟩
theorem Wn.app {A : Nat} {w V w3 : World} {rc : Obj} {pre : List Nd} {v v' : Value} {x : Nd} {tmp : Obj} (h : Wn A w V rc pre v) (h9 : A + 9 ≤ V.heap.size) (ho : w3.ownsRow (A + 9) 45 5 v' (pre.length + 1) (flat pre ++ cl5 x)) (hg : (V.alloc tmp).grownBy w3 v.ownBlock) :
    Boxed w3 A 28 v ∧ Wn A w (w3.setCell ⟨A, 0, none⟩ v') rc (pre ++ [x]) v' ∧ (∀ k, k < A + 9 → k ≠ A → (w3.setCell ⟨A, 0, none⟩ v').heap[k]? = V.heap[k]?) ∧ V.heap.size ≤ (w3.setCell ⟨A, 0, none⟩ v').heap.size ∧ Below A V (w3.setCell ⟨A, 0, none⟩ v') := by
  have hne : ∀ k, k < A + 9 → some k ≠ v.ownBlock := fun k hk e => by have := (World.ownsRow.lt h.row k e.symm).1; omega
  have hk : ∀ k, k < A + 9 → w3.heap[k]? = V.heap[k]? := fun k hk => (hg.block k (by simp; omega) (hne k hk)).trans (Below.heap_alloc V tmp k (by omega))
  have hs := grownBy_setCell' w3 A v'
  have hz : V.heap.size + 1 ≤ w3.heap.size := by have := hg.size; simpa using this
  have hk2 : ∀ k, k < A + 9 → k ≠ A → (w3.setCell ⟨A, 0, none⟩ v').heap[k]? = V.heap[k]? := fun k hk1 hk2 => (hs.block k (by omega) (fun e => by injection e with e; omega)).trans (hk k hk1)
  have hb3 : Boxed w3 A 28 v := (hk _ (by omega)).trans h.bc
  refine ⟨hb3, ⟨hb3.set _, (hk2 _ (by omega) (by omega)).trans h.bd, (hk2 _ (by omega) (by omega)).trans h.bl, ?_, ?_⟩, hk2, by have := hs.size; omega, ((((Below.refl A V).alloc (by omega) tmp).grown hg (by simp; omega) (fun j hj => by have := (World.ownsRow.lt h.row j hj).1; omega)).setCell (p := ⟨A, 0, none⟩) (Nat.le_refl _) _)⟩
  · have := keep_own ho hs (fun r e => by injection e with e; omega)
    unfold Ny
    rw [flat_snoc, List.length_append]
    exact this
  · exact (((h.bel.alloc (by omega) tmp).grown hg (by simp; omega) (fun j hj => by have := (World.ownsRow.lt h.row j hj).1; omega)).setCell (p := ⟨A, 0, none⟩) (Nat.le_refl _) _)
theorem cells_new5 (W : World) (a b c d e : Value) (T : TypeId) : ∀ j u, [a, b, c, d, e][j]? = some u → (W.alloc (.cells #[a, b, c, d, e] T)).cell? ((⟨W.heap.size, 0, none⟩ : Addr).add j) = some u := by
  intro j u hj
  have h : (W.alloc (.cells #[a, b, c, d, e] T)).heap[W.heap.size]? = some (.cells #[a, b, c, d, e] T (0, 0)) := heap_alloc_new _ _
  rw [Addr.add_lit, Nat.zero_add]
  obtain ⟨c0, c1, c2, c3, c4, _⟩ := cells5 h
  match j with
  | 0 => simp at hj; subst hj; exact c0
  | 1 => simp at hj; subst hj; exact c1
  | 2 => simp at hj; subst hj; exact c2
  | 3 => simp at hj; subst hj; exact c3
  | 4 => simp at hj; subst hj; exact c4
  | j + 5 => simp at hj
theorem nodes_walk (n : Nat) (h1 : 1 ≤ n) (H : HT) (t : ByteArray) (hT : IsTr t H.sh) (hs : t.size ≤ 65536) (w w2 : World) (hin : In w.heap.size w H) (hz : w2.heap.size = w.heap.size + 2) (bC : Boxed w2 w.heap.size 28 (.slice none 0 0)) (bP : Boxed w2 (w.heap.size + 1) 51 (.pointer H.ptr)) (hB2 : Below w.heap.size w w2)
    {fn : FuncId} {tm : Array Value} {ps : Array Tmp} {asg bd : Code} {d : Nat}
    (hBody : ∀ m pre x v Va, Wn w.heap.size w Va (.loop (lrec .ready none fn tm ps asg bd d)) pre v → pre ++ [x] <+: nds H.sh 0 → w.heap.size + 8 < Va.heap.size → YieldAt Fence.wide m Tryd.prog (w.heap.size + 3) #[encN x] Va fun e Vb =>
      Kp (w.heap.size + 4) w.heap.size Va Vb ∧ e = .returned (.bool true) ∧ ∃ v', Wn w.heap.size w Vb (.loop (lrec .ready none fn tm ps asg bd d)) (pre ++ [x]) v') :
    CallsIn Fence.wide n Tryd.prog 63 #[.func (.yield (w.heap.size + 3)) #[] #[], .pointer (some ⟨w.heap.size + 1, 0, none⟩)] ((w2.alloc (.deferred (some []))).alloc (.loop (lrec .ready none fn tm ps asg bd d))) fun e V => (∃ v, e = .returned v) ∧
      ∃ v, Wn w.heap.size w V (.loop (lrec .ready none fn tm ps asg bd d)) (nds H.sh 0) v := by
  generalize hrc : Obj.loop (lrec .ready none fn tm ps asg bd d) = rc at *
  obtain ⟨V0, hV⟩ : ∃ V0, V0 = (w2.alloc (.deferred (some []))).alloc rc := ⟨_, rfl⟩
  have hB3 : Below w2.heap.size w2 V0 := by rw [hV]; exact ((Below.refl _ _).alloc (Nat.le_refl _) _).alloc (by simp) _
  have hz3 : (w2.alloc (.deferred (some []))).heap.size = w.heap.size + 3 := by simp [hz]
  have hVz : V0.heap.size = w.heap.size + 4 := by rw [hV]; simp [hz]
  have hW0 : Below w.heap.size w V0 := hB2.trans (hB3.mono (by omega))
  have W0 : Wn w.heap.size w V0 rc [] (.slice none 0 0) := by
    refine ⟨(hB3.block _ (by omega)).trans bC, ?_, ?_, World.ownsRow_nil _ _ _ _, hW0⟩
    · rw [hV, Below.heap_alloc _ _ _ (by omega), ← hz]
      exact heap_alloc_new _ _
    · rw [hV, ← hz3]
      exact heap_alloc_new _ _
  have bT3 : V0.cell? ⟨w.heap.size + 1, 0, none⟩ = some (.pointer H.ptr) := (hB3.cell (p := ⟨w.heap.size + 1, 0, none⟩) (by show w.heap.size + 1 < _; omega)).trans bP.cell
  rw [← hV]
  clear hV hrc hB3 hB2 bC bP
  refine (alongI n (w.heap.size + 3) (w.heap.size + 1) w.heap.size h1 H t hT hs V0 bT3 (In.below hW0 hin) (by omega) (fun pre V => ∃ v, Wn w.heap.size w V rc pre v) (fun _ _ => False) ?_ ?_ ?_ ⟨_, W0⟩).mono ?_
  · rintro pre Va Vb row ⟨v, h⟩ hg hr
    exact ⟨v, h.grown hg (fun r e => by have := hr r e; omega)⟩
  · intro pre Va Vb row h _ _
    exact h
  · rintro m pre x Va ⟨v, h⟩ hp hsz
    rw [hVz] at hsz ⊢
    refine YieldAt.mono (hBody m pre x v Va h hp (by omega)) (fun e Vb hh => ⟨hh.1, .inl ⟨hh.2.1, hh.2.2⟩⟩)
  · rintro e V ⟨he, h | ⟨pre, _, h⟩⟩
    · exact ⟨he, h⟩
    · exact h.elim
theorem nds_text {t : ByteArray} {T : RT} (h : IsTr t T) : ∀ (a : Int) (x : Nd), x ∈ nds T a → x.text.size ≤ 64 := by
  induction h with
  | nil h0 => intro a x hx; simp [nds] at hx
  | @leaf t h0 h1 =>
    intro a x hx
    have e : x = ⟨t, -1, -1, t.size, ends t⟩ := by simpa [nds] using hx
    rw [e]
    exact h1
  | node h64 hl hr il ir =>
    intro a x hx
    rcases List.mem_cons.1 hx with e | hx
    · rw [e]
      show (0 : Nat) ≤ 64
      omega
    · rcases List.mem_append.1 hx with hx | hx
      · exact il _ x hx
      · exact ir _ x hx
/-- In a round, behind the copy of the node's text: g the node's block. -/
structure Rd (A g : Nat) (w Va V : World) (rc : Obj) (pre : List Nd) (v : Value) (x : Nd) : Prop where
  wn : Wn A w V rc pre v
  nd : V.heap[g]? = some (.cells #[.string x.text, .int .i64 x.left, .int .i64 x.right, .int .i64 x.size, .int .i64 x.lines] 45 (0, 0))
  own : ∀ k, A + 4 ≤ k → k < A + 9 → V.heap[k]? = Va.heap[k]?
  bel : Below A Va V
  big : A + 9 ≤ V.heap.size
  far : A + 9 ≤ g
  ne : v.ownBlock ≠ some g
  sz : Va.heap.size ≤ V.heap.size
theorem Rd.cellT {A g : Nat} {w Va V : World} {rc : Obj} {pre : List Nd} {v : Value} {x : Nd} (h : Rd A g w Va V rc pre v x) : V.cell? ⟨g, 0, none⟩ = some (.string x.text) ∧ V.frozen? ⟨g, 0, none⟩ = false := by
  obtain ⟨c0, c1, c2, c3, c4, f0, f1, f2, f3, f4⟩ := cells5 h.nd
  exact ⟨c0, f0⟩
theorem Rd.cells {A g : Nat} {w Va V : World} {rc : Obj} {pre : List Nd} {v : Value} {x : Nd} (h : Rd A g w Va V rc pre v x) : V.cell? ⟨g, 0, none⟩ = some (.string x.text) ∧ V.cell? ⟨g, 1, none⟩ = some (.int .i64 x.left) ∧ V.cell? ⟨g, 2, none⟩ = some (.int .i64 x.right) ∧ V.cell? ⟨g, 3, none⟩ = some (.int .i64 x.size) ∧ V.cell? ⟨g, 4, none⟩ = some (.int .i64 x.lines) := by
  obtain ⟨c0, c1, c2, c3, c4, f0, f1, f2, f3, f4⟩ := cells5 h.nd
  exact ⟨c0, c1, c2, c3, c4⟩
theorem after_clone {A : Nat} {w Va V1 V2 : World} {rc : Obj} {pre : List Nd} {v : Value} {x : Nd} (h2 : Wn A w V1 rc pre v) (n2 : V1.heap[Va.heap.size]? = some (.cells #[.string x.text, .int .i64 x.left, .int .i64 x.right, .int .i64 x.size, .int .i64 x.lines] 45 (0, 0)))
    (k2 : ∀ k, A + 4 ≤ k → k < A + 9 → V1.heap[k]? = Va.heap[k]?) (bb2 : Below A Va V1) (hsz : A + 8 < Va.heap.size) (z2 : V1.heap.size = Va.heap.size + 1) (hne : v.ownBlock ≠ some Va.heap.size) (hb2 : Below V1.heap.size V1 V2) : Rd A Va.heap.size w Va V2 rc pre v x := by
  have hs := hb2.size
  exact ⟨h2.grown (grown_of hb2) (fun r e => by cases e), (hb2.block _ (by omega)).trans n2, fun k a b => (hb2.block k (by omega)).trans (k2 k a b), bb2.trans (hb2.mono (by omega)), by omega, by omega, hne, by omega⟩
theorem Wn.setBlk {A g : Nat} {w V : World} {rc : Obj} {pre : List Nd} {v u : Value} (h : Wn A w V rc pre v) (hg : A + 9 ≤ g) (hne : v.ownBlock ≠ some g) : Wn A w (V.setCell ⟨g, 0, none⟩ u) rc pre v := by
  have hs := grownBy_setCell' V g u
  have hlt := h.lt
  have ne : ∀ k, k < A + 9 → some k ≠ some g := fun k hk e => by injection e with e; omega
  refine ⟨h.bc.kept hs (ne _ (by omega)), (hs.block _ (by omega) (ne _ (by omega))).trans h.bd, (hs.block _ (by omega) (ne _ (by omega))).trans h.bl, ?_, h.bel.setCell (p := ⟨g, 0, none⟩) (by show A ≤ g; omega) _⟩
  exact World.ownsRow.kept h.row hs (.inr hne)
theorem Rd.put {A g : Nat} {w Va V V3 : World} {rc : Obj} {pre : List Nd} {v : Value} {x : Nd} (h : Rd A g w Va V rc pre v x) (hV : V.setCell ⟨g, 0, none⟩ (.string x.text) = V3) : Rd A g w Va V3 rc pre v x := by
  subst hV
  have hs := grownBy_setCell' V g (.string x.text)
  have hfar := h.far
  have hz := hs.size
  refine ⟨h.wn.setBlk h.far h.ne, ?_, fun k a b => (hs.block k (by have := h.big; omega) (fun e => by injection e with e; omega)).trans (h.own k a b), h.bel.setCell (p := ⟨g, 0, none⟩) (by show A ≤ g; omega) _, by have := h.big; omega, h.far, h.ne, by have := h.sz; omega⟩
  have := heap_setCell_same V g 0 _ 45 (.string x.text) h.nd
  simpa using this
theorem round_end {A g : Nat} {w Va V3 w3 : World} {rc : LoopState → Option Code → Loop} {pre : List Nd} {v v' : Value} {x : Nd} (h1 : Wn A w w3 (.loop (rc .busy none)) (pre ++ [x]) v') (h2 : ∀ k, k < A + 9 → k ≠ A → w3.heap[k]? = V3.heap[k]?) (h3 : V3.heap.size ≤ w3.heap.size) (h4 : Below A V3 w3) (h : Rd A g w Va V3 (.loop (rc .busy none)) pre v x) :
    w3.heap[A + 3]? = some (.loop (rc .busy none)) ∧ (Kp (A + 4) A Va (w3.putObj (A + 3) (.loop (rc .ready none))) ∧ Ending.returned (.bool true) = Ending.returned (.bool true) ∧ ∃ v', Wn A w (w3.putObj (A + 3) (.loop (rc .ready none))) (.loop (rc .ready none)) (pre ++ [x]) v') := by
  have hsz := h.sz
  have hlt := h1.lt
  have g := grownBy_putObj' w3 (A + 3) (.loop (rc .ready none))
  have gz := g.size
  refine ⟨h1.bl, ⟨by omega, fun k a b => ?_, (h.bel.trans h4).grown g (by omega) (fun k e => by injection e with e; omega)⟩, rfl, v', h1.rcd _⟩
  exact ((World.putObj_heap_other (by omega)).trans (h2 k (by omega) (by omega))).trans (h.own k (by omega) (by omega))
end Go.Proofs.YtaipnmmlfbfcnaaDoor.Rop
