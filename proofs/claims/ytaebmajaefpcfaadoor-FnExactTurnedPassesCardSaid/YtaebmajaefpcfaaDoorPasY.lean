/- turnedOf of the program. -/
import Derived.Test.YtaebmajaefpcfaaDoorPasX
import Derived.Test.YtaebmajaefpcfaaDoorPasV
namespace Go.Proofs.YtaebmajaefpcfaaDoor.Pas
open Go.RowKit Go.Shelf
set_option linter.unusedVariables false
set_option linter.unusedSimpArgs false
attribute [local go_sem] Oper.semAt_some
theorem own_cells {w : World} {B : Nat} {e : TypeId} {s : Nat} {v : Value} {n : Nat} {xs : List Value} (h : w.ownsRow B e s v n xs) {k : Nat} (hk : v.ownBlock = some k) : ∃ o : Obj, w.heap[k]? = some o ∧ o.isCells = true := by
  rcases h.2 with ⟨rfl, _⟩ | ⟨g, cap, cur, rfl, _, hh, _⟩
  · cases hk
  · cases hk
    exact ⟨_, hh, rfl⟩
theorem RuG.cells {lo hi : Nat} {w : World} {g : Option Nat} {v : Value} {L : List Ru} (h : RuG lo hi w g v L) {k : Nat} (hk : g = some k) : ∃ o : Obj, w.heap[k]? = some o ∧ o.isCells = true := by
  rcases h with ⟨rfl, _⟩ | ⟨b, cap, xs, rfl, rfl, h1, h2, h3, h4⟩
  · cases hk
  · cases hk
    exact own_cells h4 rfl
/-- Passes stay where no block of cells has changed. -/
theorem PaG.keep {lo hi : Nat} {w w' : World} {v : Value} {P : List Pa} (h : PaG lo hi w v P) (hb : ∀ (k : Nat) (o : Obj), w.heap[k]? = some o → o.isCells = true → w'.heap[k]? = w.heap[k]?) : PaG lo hi w' v P := by
  obtain ⟨gs, xs, h1, h2, h3, h4⟩ := h
  refine ⟨gs, xs, own_atP h1 (fun k hk => ?_), h2, fun i hi => ?_, h4⟩
  · obtain ⟨o, ho, hc⟩ := own_cells h1 hk
    exact hb k o ho hc
  · obtain ⟨u, c1, hu, c2⟩ := h3 i hi
    refine ⟨u, c1, hu.at (fun k hk => ?_), c2⟩
    obtain ⟨o, ho, hc⟩ := hu.cells hk
    exact hb k o ho hc
/-- Between two rounds. -/
structure St (w W : World) (lo Bs : Nat) (v : Value) (P : List Pa) (is : List Nat) : Prop where
  low : lo ≤ W.heap.size
  out : ∃ o, Boxed W w.heap.size 25 o ∧ PaG lo W.heap.size W o (tl P is)
  flag : Boxed W (w.heap.size + 1) 4 (.bool false)
  can : ∀ i ∈ is, canR (gp P i).1 (gp P i).1.length = true
  box : Boxed W Bs 25 v
  bel : Below w.heap.size w W
theorem St.own (w : World) (lo Bs B : Nat) (v : Value) (P : List Pa) (n : Nat) (hB : w.heap.size ≤ B) : OwnFrom B (fun (pre : List (Pl n)) W => St w W lo Bs v P (pre.map (·.1))) := by
  intro s W W' row hs hg hr
  have key : ∀ (k : Nat) (o : Obj), W.heap[k]? = some o → o.isCells = true → W'.heap[k]? = W.heap[k]? := fun k o ho hc => hg.block k (Array.getElem?_eq_some_iff.1 ho).1 (fun e => by
    obtain ⟨_, o', ho', hc'⟩ := hr k e.symm
    rw [ho] at ho'
    cases ho'
    rw [hc] at hc'
    cases hc')
  obtain ⟨o, b1, b2⟩ := hs.out
  refine ⟨Nat.le_trans hs.low hg.size, ⟨o, (key _ _ b1 rfl).trans b1, (b2.keep key).up hg.size⟩, (key _ _ hs.flag rfl).trans hs.flag, hs.can, (key _ _ hs.box rfl).trans hs.box, ?_⟩
  exact ownFrom_below (β := Unit) (Nat.le_refl _) hB () W W' row hs.bel hg hr
/-- A round has told that there is none. -/
structure Sx (w W : World) (P : List Pa) : Prop where
  out : Boxed W w.heap.size 25 (.slice none 0 0)
  flag : Boxed W (w.heap.size + 1) 4 (.bool false)
  no : canA P = false
  bel : Below w.heap.size w W
theorem Sx.own (w : World) (B : Nat) (P : List Pa) (n : Nat) (hB : w.heap.size ≤ B) (c : Code) : OwnFrom B (fun (_ : List (Pl n)) W => c = .ret ∧ Sx w W P) := by
  intro s W W' row hs hg hr
  have key : ∀ (k : Nat) (o : Obj), W.heap[k]? = some o → o.isCells = true → W'.heap[k]? = W.heap[k]? := fun k o ho hc => hg.block k (Array.getElem?_eq_some_iff.1 ho).1 (fun e => by
    obtain ⟨_, o', ho', hc'⟩ := hr k e.symm
    rw [ho] at ho'
    cases ho'
    rw [hc] at hc'
    cases hc')
  refine ⟨hs.1, (key _ _ hs.2.out rfl).trans hs.2.out, (key _ _ hs.2.flag rfl).trans hs.2.flag, hs.2.no, ?_⟩
  exact ownFrom_below (β := Unit) (Nat.le_refl _) hB () W W' row hs.2.bel hg hr
theorem kq_b {N Bs : Nat} {w : World} (hN : N ≤ w.heap.size) (hBs : Bs < w.heap.size) (W : World) (l : Nat) (o o' : Obj) (hl : w.heap.size ≤ l) (h : W.heap[l]? = some o) (hc : o.isCells = false) (hw : o.isWalk = false) : Kq N Bs W (W.putObj l o') :=
  ⟨belowK_b (w := w) hN W l o o' hl h hc hw, World.putObj_heap_other (by omega)⟩
theorem keeps_of {B : Nat} {W W' : World} (h : Below W.heap.size W W') : KeepsFrom B W W' := ⟨h.size, fun k o _ hk _ => (h.block k (Array.getElem?_eq_some_iff.1 hk).1).trans hk⟩
theorem stepIn_app {F : Fence} {n : Nat} {P : Program} {ops : Array Oper} {o : Oper} {a : Act} {w : World} {K : Act → World → Prop} {Q : Exit → Act → World → Prop} {E : Prop}
    (hg : o.guard = none) (s x : Operand) (t : TypeId) (hop : o.op = Op.call { callee := Callee.builtin Builtin.append, args := #[s, x], argTypes := #[t, t] })
    (base : Nat) (e : TypeId) (i : TypeInfo) (z : Value) (size bytes : Nat) (h1 : P.underlying t = some (.slice e)) (h2 : P.info? e = some i) (h3 : i.zero = some z) (h4 : i.size = size) (h5 : i.bytes = bytes) (h6 : z.cells.size = size) (h7 : 0 < size)
    (v : Value) (k : Nat) (xs : List Value) (hs : a.eval s = v) (hown : w.ownsRow base e size v k xs) (ad : Addr) (m c : Nat) (news : List Value) (hx : a.eval x = .slice (some ad) m c) (hn : news.length = m * size)
    (hc : ∀ j u, news[j]? = some u → w.cell? (ad.add j) = some u) (h1c : ∀ u ∈ news, u.oneCell' = true) (b1 : k + m ≤ maxLen) (b2 : (k + m) * bytes ≤ 140737488355328) (b3 : base ≤ w.heap.size)
    (hK : ∀ v' w', w'.ownsRow base e size v' (k + m) (xs ++ news) → w.grownBy w' v.ownBlock → K (a.put o.dst v') w') :
    if Region.wanted o (yielded ops a.tmps) = true then Oper.wpIn F n P o a w K Q else E := by
  have hw : Region.wanted o (yielded ops a.tmps) = true := by simp [Region.wanted, hg]
  rw [if_pos hw]
  obtain ⟨v', w', hrun, r1, r2, r3⟩ := run_append_own (P := P) w base t o.type e i z size bytes h1 h2 h3 h4 h5 h6 h7 v k xs hown ad m c news hn hc h1c b1 b2 b3
  unfold Oper.wpIn
  refine ⟨?_, ?_⟩
  · simp [Oper.about, hop, resolve, Target.leads, Sem.run_pure]
  · rw [Oper.semAt_plain F _ _ (by rw [hop]; intro c hc'; cases hc')]
    simp [execOp, hop, resolve, invoke, builtin, hs, hx, hrun, Result.andThen]
    exact hK _ _ r1 r2
theorem wpListIn_appG {F : Fence} {n : Nat} {P : Program} (w : World) {ops : Array Oper} {rest : List Oper} {o : Oper} {a : Act} {Q : Exit → Act → World → Prop}
    (hg : o.guard = none) (s x : Operand) (t : TypeId) (hop : o.op = Op.call { callee := Callee.builtin Builtin.append, args := #[s, x], argTypes := #[t, t] })
    (base : Nat) (e : TypeId) (i : TypeInfo) (z : Value) (size bytes : Nat) (h1 : P.underlying t = some (.slice e)) (h2 : P.info? e = some i) (h3 : i.zero = some z) (h4 : i.size = size) (h5 : i.bytes = bytes) (h6 : z.cells.size = size) (h7 : 0 < size)
    (v : Value) (k : Nat) (xs : List Value) (hs : a.eval s = v) (hown : w.ownsRow base e size v k xs) (ad : Addr) (m c : Nat) (news : List Value) (hx : a.eval x = .slice (some ad) m c) (hn : news.length = m * size)
    (hc : ∀ j u, news[j]? = some u → w.cell? (ad.add j) = some u) (h1c : ∀ u ∈ news, u.oneCell' = true) (b1 : k + m ≤ maxLen) (b2 : (k + m) * bytes ≤ 140737488355328) (b3 : base ≤ w.heap.size)
    (hK : ∀ v' w', w'.ownsRow base e size v' (k + m) (xs ++ news) → w.grownBy w' v.ownBlock → (∀ q, v'.ownBlock = some q → v.ownBlock = some q ∨ w.heap.size ≤ q) → wpListIn F n P ops Q rest (a.put o.dst v') w') :
    wpListIn F n P ops Q (o :: rest) a w := by
  refine wpListIn_plain hg fun K hK' => ?_
  obtain ⟨v', w', hrun, r1, r2, r3⟩ := app_blockG (P := P) w t o.type e i z size bytes h1 h2 h3 h4 h5 h6 h7 base v k xs hown ad m c news hn hc h1c b1 b2 b3
  unfold Oper.wpIn
  refine ⟨?_, ?_⟩
  · simp [Oper.about, hop, resolve, Target.leads, Sem.run_pure]
  · rw [Oper.semAt_plain F _ _ (by rw [hop]; intro c hc'; cases hc')]
    simp [execOp, hop, resolve, invoke, builtin, hs, hx, hrun, Result.andThen]
    exact hK' _ _ (hK v' w' r1 r2 r3)
set_option maxRecDepth 100000 in
set_option maxHeartbeats 40000000 in
theorem turnedOf_in (v : Value) (P : List Pa) (B : Nat) (w : World) (hv : PaAt B w v P) (hs : Small P) (hT : Tabs w) (hr : right P = true) :
    CallsIn Fence.wide 5 Tryd.prog 23 #[v] w fun e w' => (∃ u z, e = .returned (.tuple #[u, .bool z]) ∧ z = canA P ∧ (canA P = true → PaG w.heap.size w'.heap.size w' u (tl P (down P.length P.length))) ∧ (canA P = false → u = .slice none 0 0)) ∧ Below w.heap.size w w' := by
  have h1 : 1 ≤ 5 := by omega
  obtain ⟨i0, hi0, hz0, hz1, hz2⟩ := info_parts infoWr
  obtain ⟨j0, hj0, hy0, hy1, hy2⟩ := info_parts infoPass
  have mixed : Tryd.prog.follows Departure.mixedOrders = true := by kernel_rfl
  have hl := hs.1
  have hf0 : flt P = 0 := by
    rcases flt_iff P with ⟨h, _⟩ | ⟨_, h⟩
    · exact h
    · rw [hr] at h; cases h
  have hB2 : Below w.heap.size w ((w.alloc (.cells #[.slice none 0 0] 25)).alloc (.cells #[.bool false] 4)) := (al1 w _).alloc (by simp) _
  have PF := (callsIn_wide (n := 4)).2 (implPF v P B _ (hv.below hB2) hs (Utf8Tabs_below hT hB2))
  rw [hf0] at PF
  have b0 : Boxed ((w.alloc (.cells #[.slice none 0 0] 25)).alloc (.cells #[.bool false] 4)) w.heap.size 25 (.slice none 0 0) := (Boxed.new w 25 (.slice none 0 0)).alloc _
  have b1 : Boxed ((w.alloc (.cells #[.slice none 0 0] 25)).alloc (.cells #[.bool false] 4)) (w.heap.size + 1) 4 (.bool false) := by
    have := Boxed.new (w.alloc (.cells #[.slice none 0 0] 25)) 4 (.bool false)
    simpa using this
  obtain ⟨va, vc, us, rfl, hus, hcs⟩ := us_of hv
  have hB2s := hB2.size
  generalize hw2 : (w.alloc (.cells #[.slice none 0 0] 25)).alloc (.cells #[.bool false] 4) = w2 at *
  have PF2 := PF.mono (R' := fun e W1 => e = .returned (.int .i64 0) ∧ ∃ hb : Below w2.heap.size w2 W1, True) (fun e W1 h => ⟨h.1, h.2, trivial⟩)
  clear PF hf0 hr
  refine callsIn_of_wp_marks Tryd.func23 rfl trivial ?_ rfl
  simp only [Tryd.ntmps23, List.size_toArray, List.length_cons, List.length_nil, Nat.reduceAdd, Nat.reduceSub, Array.replicate_succ, Array.replicate_zero, List.push_toArray, List.append_toArray, List.nil_append, List.cons_append]
  gi_wp2_with (first
    | (refine ⟨trivial, ?_⟩; gi_at_call 8; refine PF2.mono ?_; clear PF2; rintro e W1 ⟨rfl, hbW, _⟩)
    | (refine ⟨trivial, ?_⟩; gi_at_call 34; refine ((callsIn_wide (n := 4)).2 (backward_any _ _ _ _)).mono ?_; rintro e W2 ⟨rfl, hW2⟩; replace hW2 := hW2.symm; subst hW2))
  have hB1 : Below w.heap.size w W1 := hB2.trans (hbW.mono hB2s)
  have hW0 : Below W1.heap.size W1 (W1.alloc (.cells #[.slice va P.length vc] 25)) := al1 _ _
  have c0 : Boxed (W1.alloc (.cells #[.slice va P.length vc] 25)) w.heap.size 25 (.slice none 0 0) := Boxed.alloc (show Boxed W1 w.heap.size 25 (.slice none 0 0) from (hbW.block _ b0.lt).trans b0) _
  have c1 : Boxed (W1.alloc (.cells #[.slice va P.length vc] 25)) (w.heap.size + 1) 4 (.bool false) := Boxed.alloc (show Boxed W1 (w.heap.size + 1) 4 (.bool false) from (hbW.block _ b1.lt).trans b1) _
  have c2 : Boxed (W1.alloc (.cells #[.slice va P.length vc] 25)) W1.heap.size 25 (.slice va P.length vc) := Boxed.new W1 25 _
  have hBW0 : Below w.heap.size w (W1.alloc (.cells #[.slice va P.length vc] 25)) := hB1.trans (hW0.mono hB1.size)
  have hBs1 : w.heap.size + 1 < W1.heap.size := Boxed.lt (show Boxed W1 (w.heap.size + 1) 4 (.bool false) from (hbW.block _ b1.lt).trans b1)
  have hsz0 : (W1.alloc (.cells #[.slice va P.length vc] 25)).heap.size = W1.heap.size + 1 := by simp
  obtain ⟨W0, hW0e⟩ : ∃ W0, W1.alloc (.cells #[.slice va P.length vc] 25) = W0 := ⟨_, rfl⟩
  rw [hW0e] at c0 c1 c2 hBW0 hsz0 ⊢
  have husf : ∀ i, i < P.length → ∃ a k c, us i = .slice a k c := fun i hi => by
    obtain ⟨a, c, e⟩ := (hus i hi).form
    exact ⟨a, _, c, e⟩
  have hcs0 : P.length = 0 ∨ ∃ b off, va = some ⟨b, off, none⟩ ∧ b < w.heap.size ∧ Us W0 b off P.length us (fun i => (gp P i).2) := by
    rcases hcs with h | ⟨b, off, e, hb, hu⟩
    · exact .inl h
    · exact .inr ⟨b, off, e, hb, fun i hi => ⟨(hBW0.cell (p := ⟨b, off + i * 2, none⟩) hb).trans (hu i hi).1, (hBW0.cell (p := ⟨b, off + i * 2 + 1, none⟩) hb).trans (hu i hi).2⟩⟩
  have g0 : PaG W0.heap.size W0.heap.size W0 (.slice none 0 0) (tl P ([] : List Nat)) := ⟨fun _ => none, [], World.ownsRow_nil W0 _ _ _, (fun k e => by cases e), (fun i hi => by simp [tl] at hi), (fun i j k hi => by simp [tl] at hi)⟩
  have hsz1 : W1.heap.size < W0.heap.size := by omega
  have hsz2 : W0.heap.size ≤ W1.heap.size + 1 := by omega
  clear hW0e hW0 hbW b0 b1 hw2 hB2 hB2s hB1 hcs hT hv hsz0
  refine wpIn_rangeFunc_ownH rfl h1 (gf := 43) (lb := #[.pointer (some ⟨W1.heap.size, 0, none⟩)]) rfl trivial (enters_of Tryd.func43 (by kernel_rfl) rfl)
    (back_stops 4 W1.heap.size w.heap.size P.length vc va hl us (fun i => (gp P i).2) husf W0 hBW0.size (by omega) c2.cell hcs0) Kq.trans (kq_b hBW0.size (by omega)) (Below.refl _ _) (fun _ => rfl)
    (fun pre W => St w W W0.heap.size W1.heap.size (.slice va P.length vc) P (pre.map (·.1)))
    (fun c _ W => c = .ret ∧ Sx w W P)
    (St.own w _ _ _ _ _ _ hBW0.size) (fun c => Sx.own w _ _ _ hBW0.size c)
    ⟨Nat.le_refl _, ⟨_, c0, g0⟩, c1, (fun i hi => by simp at hi), c2, hBW0⟩
    (fun x a' W => ∃ Bx, W0.heap.size ≤ Bx ∧ W.heap[Bx]? = some (.cells #[us x.1, .int .i64 (gp P x.1).2] 37 (0, 0)) ∧ a' = { tmps := #[.slice va P.length vc, undef, .pointer (some ⟨w.heap.size, 0, none⟩), .pointer (some ⟨w.heap.size + 1, 0, none⟩), undef, .pointer (some ⟨Bx, 0, none⟩), undef, undef, undef, .slice va P.length vc, .int .i64 0, .bool false, .slice va P.length vc, .func (.func 43) #[] #[.pointer (some ⟨W1.heap.size, 0, none⟩)], .int .i64 (x.1 : Int), .agg #[us x.1, .int .i64 (gp P x.1).2], undef, undef, undef, undef, undef, undef, undef, undef, undef, undef, undef, undef, undef, undef, undef, undef, undef, undef, undef, undef, undef, undef, undef, undef, undef, undef], defers := [] })
    (fun x a' _ X Y row hs hg hr => by
      obtain ⟨Bx, h1, h2, h3⟩ := hs
      refine ⟨Bx, h1, (hg.block Bx (Array.getElem?_eq_some_iff.1 h2).1 (fun e => ?_)).trans h2, h3⟩
      obtain ⟨_, o, ho, hc⟩ := hr Bx e.symm
      rw [h2] at ho
      cases ho
      cases hc)
    ?assign ?body ?done ?stop
  case assign =>
    rintro l pre x W K hi hK
    obtain ⟨ua, uk, uc, hu⟩ := husf x.1 x.2
    unfold encP
    dsimp only
    rw [hu] at hK ⊢
    have hsW := hi.bel.size
    have hI2 := St.own w W0.heap.size W1.heap.size W0.heap.size (.slice va P.length vc) P P.length hBW0.size pre W (W.alloc (.cells #[.slice ua uk uc, .int .i64 (gp P x.1).2] 37)) none hi (World.grownBy_alloc W _ none) (fun r e => by cases e)
    have hkp : Kq w.heap.size W1.heap.size W (W.alloc (.cells #[.slice ua uk uc, .int .i64 (gp P x.1).2] 37)) := ⟨(al1 W _).mono hsW, Below.heap_alloc W _ _ hi.box.lt⟩
    have hnew := heap_new W (.cells #[.slice ua uk uc, .int .i64 (gp P x.1).2] 37)
    have hkf : KeepsFrom W0.heap.size W (W.alloc (.cells #[.slice ua uk uc, .int .i64 (gp P x.1).2] 37)) := keeps_of (al1 W _)
    have hlo := hi.low
    gi_wp2
    exact hK _ _ hkf hkp hI2 ⟨W.heap.size, hlo, hnew, rfl⟩
  case body =>
    rintro l pre x a' W hl2 ⟨r, hr⟩ hI ⟨Bx, hBx, kx, rfl⟩ hlt
    obtain ⟨i, hi⟩ := x
    have hru := hus i hi
    obtain ⟨ua, uc, hu⟩ := hru.form
    have hsm := (hs.2 i hi)
    dsimp only at kx ⊢
    rw [hu] at kx hru ⊢
    have HNo := hide (fun h => canA_no hi h)
    have hbelW := hI.bel
    have hlowW := hI.low
    have hBsW := hI.box.lt
    have HTl : Hid (∀ Q : List Nat, tl P (Q ++ [i]) = tl P Q ++ [(tr (gp P i).1 (gp P i).1.length, (gp P i).2)]) := hide (fun Q => tl_snoc P Q i)
    have HIC := hide (fun (h : canR (gp P i).1 (gp P i).1.length = true) => (show ∀ j ∈ pre.map (·.1) ++ [i], canR (gp P j).1 (gp P j).1.length = true from fun j hj => by
      rcases List.mem_append.1 hj with h' | h'
      · exact hI.can j h'
      · have e : j = i := by simpa using h'
        rw [e]; exact h))
    have HMap : Hid ((pre ++ [(⟨i, hi⟩ : Pl P.length)]).map (·.1) = pre.map (·.1) ++ [i]) := hide (by simp)
    have hisl : (pre.map (·.1)).length ≤ 1048576 := by simp; omega
    have HI := hide hI
    have HRU := hide hru
    have HSZ := hide hsm.2
    have hLl := hsm.1
    obtain ⟨x0, x1, x2, x3⟩ := two_cells kx
    clear hru hsm husf hus hcs0 c0 c1 c2 g0 hI hu
    generalize pre.map (·.1) = is at *
    generalize (gp P i).1 = L at *
    generalize (gp P i).2 = g at *
    have HQ0 := hide (heap_new W (.cells #[.slice none 0 0, .int .i64 g] 37))
    have HX0 := hide (al1 W (.cells #[.slice none 0 0, .int .i64 g] 37))
    have kx2 := (Below.heap_alloc W (.cells #[.slice none 0 0, .int .i64 g] 37) Bx (Array.getElem?_eq_some_iff.1 kx).1).trans kx
    obtain ⟨y0, y1, y2, y3⟩ := two_cells kx2
    gi_wp2
    gi_loopw [22] (fun kv wx => ∃ (k : Nat) (u : Value), k ≤ L.length ∧ kv = .int .i64 k ∧ Hid (canR L k = true) ∧ Hid (RuX (W.heap.size + 1) wx u (tr L k)) ∧ Hid (wx.heap[W.heap.size]? = some (.cells #[u, .int .i64 g] 37 (0, 0))) ∧ Hid (Below W.heap.size W wx)) (fun kv _ => L.length - (intOf kv).toNat)
    case atStart => exact ⟨0, _, Nat.zero_le _, rfl, hide rfl, hide (RuX.nil _ _), HQ0, HX0⟩
    case round =>
      obtain ⟨k, u, hk, rfl, HK, HR, HQ, HX⟩ := hrel
      clear HQ0 HX0 kx2 y0 y1 y2 y3 x0 x1 x2 x3
      have B1 := hide (hbelW.trans ((unhide HX).mono hbelW.size))
      have hxs := (unhide HX).size
      have hql : W.heap.size < wr.heap.size := (Array.getElem?_eq_some_iff.1 (unhide HQ)).1
      obtain ⟨q0, q1, q2, q3⟩ := two_cells (unhide HQ)
      by_cases hkl : k < L.length
      · have hkl' : (k : Int) < (L.length : Int) := by omega
        have h0k : (0 : Int) ≤ (k : Int) := by omega
        obtain ⟨_, _, he, hu⟩ := unhide HRU
        injection he with he1 he2 he3
        clear he2 he3
        rcases hu with h' | ⟨b2, o2, hua, _, hb2s, hc2⟩
        · rw [h'] at hkl; simp at hkl
        rw [hua] at he1
        subst he1
        obtain ⟨x0, x1, x2, x3, x4⟩ := (hc2 k hkl).block ((unhide B1).block b2 hb2s)
        have HNo2 := hide (fun h => (unhide HNo) (canR_no hkl h))
        have HK2 := hide (fun h => canR_next (unhide HK) h)
        obtain ⟨xs, hx, ho⟩ := unhide HR
        have hxl : xs.length = (tr L k).length * 5 := ho.1
        have htl := tr_len L k
        have HSN := hide (fun (W' : World) U (h : W'.ownsRow (W.heap.size + 1) 39 5 U (k + 1) (xs ++ cells5 (trn (gr L k)))) => rux_snoc hx hxl h)
        have CT := hide (fun W' => wrTurned_any (gr L k) W' ((unhide HSZ) k hkl))
        clear hc2 hx
        generalize gr L k = r0 at *
        obtain ⟨ta, tb, tc, td, tg⟩ := r0
        unfold rv trn at CT
        unfold trn at HSN
        simp only at x0 x1 x2 x3 x4 HNo2 HK2 CT HSN
        have hgl : ∀ n, u.ownBlock = some n → W.heap.size + 1 ≤ n ∧ n < wr.heap.size := fun n e => own_lt ho e
        by_cases hte : td.size = 0
        · have HF := hide ((unhide HNo2) hte)
          have hq := empty_eq hte
          obtain ⟨o, hbo, hpo⟩ := (unhide HI).out
          have hw1 := hbelW.size
          have f0 : Boxed (wr.alloc (.cells #[.string ta, .string tb, .string tc, .string td, .int .i64 tg] 39)) w.heap.size 25 o := Boxed.alloc (show Boxed wr w.heap.size 25 o from ((unhide HX).block _ hbo.lt).trans hbo) _
          have hfl := (unhide HI).flag
          have f1 : Boxed (wr.alloc (.cells #[.string ta, .string tb, .string tc, .string td, .int .i64 tg] 39)) (w.heap.size + 1) 4 (.bool false) := Boxed.alloc (show Boxed wr (w.heap.size + 1) 4 (.bool false) from ((unhide HX).block _ hfl.lt).trans hfl) _
          have f2 := f1.other (B' := w.heap.size) (by omega) (.slice none 0 0)
          have f3 := f0.set (.slice none 0 0)
          have f4 := f3.other (B' := w.heap.size + 1) (by omega) (.bool false)
          have f5 := f2.set (.bool false)
          have BX := hide (((unhide B1).alloc (unhide B1).size (.cells #[.string ta, .string tb, .string tc, .string td, .int .i64 tg] 39)).setCell (p := ⟨w.heap.size, 0, none⟩) (Nat.le_refl _) (.slice none 0 0) |>.setCell (p := ⟨w.heap.size + 1, 0, none⟩) (by simp) (.bool false))
          have KF := hide ((keeps_of (B := W0.heap.size) ((unhide HX).alloc hxs (.cells #[.string ta, .string tb, .string tc, .string td, .int .i64 tg] 39))).trans (((KeepsOthers.setCell _ ⟨w.heap.size, 0, none⟩ (.slice none 0 0)).trans (KeepsOthers.setCell _ ⟨w.heap.size + 1, 0, none⟩ (.bool false))).from _))
          have g0 := f0.cell
          have g1 := f0.frozen
          have g2 := f2.cell
          have g3 := f2.frozen
          clear HNo2 HK2 HSN CT f0 f1 f2 f3 hbo hpo hfl
          gi_wp2
          exact ⟨unhide KF, rfl, f4, f5, unhide HF, unhide BX⟩
        · have HK3 := hide ((unhide HK2) hte)
          have hq := empty_ne hte
          clear HNo2 HK2
          gi_wp2_with fail
          have K5 : Hid ((wr.alloc (.cells #[.string ta, .string tb, .string tc, .string td, .int .i64 tg] 39)).drew.heap[wr.heap.size]? = some (.cells #[.string ta, .string tb, .string tc, .string td, .int .i64 tg] 39 (0, 0))) := hide (heap_new wr _)
          have KQ : Hid ((wr.alloc (.cells #[.string ta, .string tb, .string tc, .string td, .int .i64 tg] 39)).drew.heap[W.heap.size]? = some (.cells #[u, .int .i64 g] 37 (0, 0))) := hide ((Below.heap_alloc wr _ _ hql).trans (unhide HQ))
          have KO := hide (own_atP (w' := (wr.alloc (.cells #[.string ta, .string tb, .string tc, .string td, .int .i64 tg] 39)).drew) ho (fun n e => Below.heap_alloc wr _ _ (hgl n e).2))
          have KB : Hid (Below W.heap.size W (wr.alloc (.cells #[.string ta, .string tb, .string tc, .string td, .int .i64 tg] 39)).drew) := hide (((unhide HX).alloc hxs _).trans ((drewB _).mono (by have := ((unhide HX).alloc hxs (.cells #[.string ta, .string tb, .string tc, .string td, .int .i64 tg] 39)).size; exact this)))
          refine wpIn_region_any mixed ?_
          change wpAnyIn _ _ _ _ _ _ _ _ _ (wr.alloc (.cells #[.string ta, .string tb, .string tc, .string td, .int .i64 tg] 39)).drew
          generalize (wr.alloc (.cells #[.string ta, .string tb, .string tc, .string td, .int .i64 tg] 39)).drew = Xa at *
          obtain ⟨p0, p1, p2, p3⟩ := two_cells (unhide KQ)
          obtain ⟨z0, z1, z2, z3, z4⟩ := five_cells (unhide K5)
          clear ho HQ HX q0 q1 q2 q3 HR
          refine wpAnyIn_ready (rs := [0, 2]) (by kernel_rfl) (by simp) (AllReadyIn.cons rfl (fun K hK => ?_) (AllReadyIn.cons rfl (fun K hK => ?_) AllReadyIn.nil))
          · go_simp
            refine hK _ _ ?_
            clear hK K
            try simp only [Act.put, List.setIfInBounds_toArray, List.set_cons_zero, List.set_cons_succ]
            refine wpAnyIn_ready (rs := [1, 2]) (by kernel_rfl) (by simp) (AllReadyIn.cons rfl (fun K hK => ?_) (AllReadyIn.cons rfl (fun K hK => ?_) AllReadyIn.nil))
            · go_simp
              refine hK _ _ ?_
              clear hK K
              try simp only [Act.put, List.setIfInBounds_toArray, List.set_cons_zero, List.set_cons_succ]
              refine wpAnyIn_ready (rs := [2]) (by kernel_rfl) (by simp) (AllReadyIn.cons rfl (fun K hK => ?_) AllReadyIn.nil)
              · go_simp
                refine hK _ _ ?_
                clear hK K
                try simp only [Act.put, List.setIfInBounds_toArray, List.set_cons_zero, List.set_cons_succ]
                refine wpAnyIn_ready (rs := [3]) (by kernel_rfl) (by simp) (AllReadyIn.cons rfl (fun K hK => ?_) AllReadyIn.nil)
                · go_simp
                  refine ⟨trivial, ?_⟩
                  gi_at_call 35
                  refine (CallsIn.inRound l ((callsIn_wide (n := 2)).2 ((unhide CT) _))).mono ?_
                  rintro e Ya ⟨rfl, hbY⟩
                  have KQ2 := hide ((hbY.block W.heap.size (Array.getElem?_eq_some_iff.1 (unhide KQ)).1).trans (unhide KQ))
                  have KO2 := hide (ownsRow_below (unhide KO) hbY)
                  have KB2 := hide ((unhide KB).trans (hbY.mono (unhide KB).size))
                  obtain ⟨p0, p1, p2, p3⟩ := two_cells (unhide KQ2)
                  have KQ3 := hide ((Below.heap_alloc Ya (.cells #[.string ta, .string td, .string tc, .string tb, .int .i64 0] 39) W.heap.size (Array.getElem?_eq_some_iff.1 (unhide KQ2)).1).trans (unhide KQ2))
                  obtain ⟨r0, r1, r2, r3⟩ := two_cells (unhide KQ3)
                  clear hbY
                  try gi_wp2_with fail
                  try (refine hK _ _ ?_)
                  try clear hK K
                  try simp only [Act.put, List.setIfInBounds_toArray, List.set_cons_zero, List.set_cons_succ]
                  refine wpAnyIn_ready (rs := [4]) (by kernel_rfl) (by simp) (AllReadyIn.cons rfl (fun K hK => ?_) AllReadyIn.nil)
                  · go_simp
                    refine hK _ _ ?_
                    clear hK K
                    try simp only [Act.put, List.setIfInBounds_toArray, List.set_cons_zero, List.set_cons_succ]
                    refine wpAnyIn_ready (rs := [5]) (by kernel_rfl) (by simp) (AllReadyIn.cons rfl (fun K hK => ?_) AllReadyIn.nil)
                    refine stepIn_app rfl _ _ 35 rfl (W.heap.size + 1) 39 i0 (.agg #[.string ⟨#[]⟩, .string ⟨#[]⟩, .string ⟨#[]⟩, .string ⟨#[]⟩, .int .i64 0]) 5 72 Tryd.underlying35 hi0 hz0 hz1 hz2 rfl (by decide) _ _ _ rfl (own_atP (w' := Ya.alloc (.cells #[.string ta, .string td, .string tc, .string tb, .int .i64 0] 39)) (unhide KO2) (fun n e => Below.heap_alloc _ _ _ (own_lt (unhide KO2) e).2)) ⟨Ya.heap.size, 0, none⟩ 1 1 (cells5 (ta, td, tc, tb, 0)) rfl rfl (five_new Ya (ta, td, tc, tb, 0) 39) (five_one _) (by rw [htl]; unfold maxLen; omega) (by rw [htl]; omega) (by have := (unhide KB2).size; have := (Array.getElem?_eq_some_iff.1 (unhide KQ2)).1; simp; omega) ?_
                    intro v' w3 hown' hgrow
                    rw [htl] at hown'
                    obtain ⟨g', cap', rfl⟩ := own_form hown'
                    have hg'l := own_lt hown' (k := g') rfl
                    have hquu := (Array.getElem?_eq_some_iff.1 (unhide KQ3)).1
                    have K3 := (hgrow.block W.heap.size hquu (fun e => by have := (hgl _ e.symm).1; omega)).trans (unhide KQ3)
                    have BX3 := ((unhide KB2).alloc (unhide KB2).size (.cells #[.string ta, .string td, .string tc, .string tb, .int .i64 0] 39)).trans (grown_bel hgrow (fun n e => by have := (hgl n e).1; omega) (by have := (unhide KB2).size; simp; omega))
                    have HR3 := hide ((unhide HSN) _ _ hown')
                    have HQ4 := hide (heap_setCell_same w3 W.heap.size 0 _ 37 (.slice (some ⟨g', 0, none⟩) (k + 1) cap') K3)
                    have HR4 := hide ((unhide HR3).at (w' := w3.setCell ⟨W.heap.size, 0, none⟩ (.slice (some ⟨g', 0, none⟩) (k + 1) cap')) (fun n e => heap_setCell_other w3 ⟨W.heap.size, 0, none⟩ n _ (by cases e; show g' ≠ W.heap.size; omega)))
                    have HX4 := hide (BX3.setCell (p := ⟨W.heap.size, 0, none⟩) (Nat.le_refl _) (.slice (some ⟨g', 0, none⟩) (k + 1) cap'))
                    obtain ⟨s0, s1, s2, s3⟩ := two_cells K3
                    clear hown' hgrow K3 BX3 HR3
                    refine hK _ _ ?_
                    clear hK K
                    try simp only [Act.put, List.setIfInBounds_toArray, List.set_cons_zero, List.set_cons_succ]
                    refine wpAnyIn_ready (rs := [6]) (by kernel_rfl) (by simp) (AllReadyIn.cons rfl (fun K hK => ?_) AllReadyIn.nil)
                    go_simp
                    refine hK _ _ ?_
                    clear hK K
                    try simp only [Act.put, List.setIfInBounds_toArray, List.set_cons_zero, List.set_cons_succ]
                    refine wpAnyIn_ready (rs := [7]) (by kernel_rfl) (by simp) (AllReadyIn.cons rfl (fun K hK => ?_) AllReadyIn.nil)
                    go_simp
                    refine hK _ _ ?_
                    clear hK K
                    try simp only [Act.put, List.setIfInBounds_toArray, List.set_cons_zero, List.set_cons_succ]
                    refine wpAnyIn_done (by kernel_rfl) ?_ _
                    gi_wp2
                    go_roundw
                    case rel => exact ⟨k + 1, _, by omega, by go_num, HK3, HR4, HQ4, HX4⟩
                    case measure => simp [intOf] <;> omega
            · go_simp
              refine hK _ _ ?_
              clear hK K
              try simp only [Act.put, List.setIfInBounds_toArray, List.set_cons_zero, List.set_cons_succ]
              refine wpAnyIn_ready (rs := [1, 3]) (by kernel_rfl) (by simp) (AllReadyIn.cons rfl (fun K hK => ?_) (AllReadyIn.cons rfl (fun K hK => ?_) AllReadyIn.nil))
              · go_simp
                refine hK _ _ ?_
                clear hK K
                try simp only [Act.put, List.setIfInBounds_toArray, List.set_cons_zero, List.set_cons_succ]
                refine wpAnyIn_ready (rs := [3]) (by kernel_rfl) (by simp) (AllReadyIn.cons rfl (fun K hK => ?_) AllReadyIn.nil)
                · go_simp
                  refine ⟨trivial, ?_⟩
                  gi_at_call 35
                  refine (CallsIn.inRound l ((callsIn_wide (n := 2)).2 ((unhide CT) _))).mono ?_
                  rintro e Ya ⟨rfl, hbY⟩
                  have KQ2 := hide ((hbY.block W.heap.size (Array.getElem?_eq_some_iff.1 (unhide KQ)).1).trans (unhide KQ))
                  have KO2 := hide (ownsRow_below (unhide KO) hbY)
                  have KB2 := hide ((unhide KB).trans (hbY.mono (unhide KB).size))
                  obtain ⟨p0, p1, p2, p3⟩ := two_cells (unhide KQ2)
                  have KQ3 := hide ((Below.heap_alloc Ya (.cells #[.string ta, .string td, .string tc, .string tb, .int .i64 0] 39) W.heap.size (Array.getElem?_eq_some_iff.1 (unhide KQ2)).1).trans (unhide KQ2))
                  obtain ⟨r0, r1, r2, r3⟩ := two_cells (unhide KQ3)
                  clear hbY
                  try gi_wp2_with fail
                  try (refine hK _ _ ?_)
                  try clear hK K
                  try simp only [Act.put, List.setIfInBounds_toArray, List.set_cons_zero, List.set_cons_succ]
                  refine wpAnyIn_ready (rs := [4]) (by kernel_rfl) (by simp) (AllReadyIn.cons rfl (fun K hK => ?_) AllReadyIn.nil)
                  · go_simp
                    refine hK _ _ ?_
                    clear hK K
                    try simp only [Act.put, List.setIfInBounds_toArray, List.set_cons_zero, List.set_cons_succ]
                    refine wpAnyIn_ready (rs := [5]) (by kernel_rfl) (by simp) (AllReadyIn.cons rfl (fun K hK => ?_) AllReadyIn.nil)
                    refine stepIn_app rfl _ _ 35 rfl (W.heap.size + 1) 39 i0 (.agg #[.string ⟨#[]⟩, .string ⟨#[]⟩, .string ⟨#[]⟩, .string ⟨#[]⟩, .int .i64 0]) 5 72 Tryd.underlying35 hi0 hz0 hz1 hz2 rfl (by decide) _ _ _ rfl (own_atP (w' := Ya.alloc (.cells #[.string ta, .string td, .string tc, .string tb, .int .i64 0] 39)) (unhide KO2) (fun n e => Below.heap_alloc _ _ _ (own_lt (unhide KO2) e).2)) ⟨Ya.heap.size, 0, none⟩ 1 1 (cells5 (ta, td, tc, tb, 0)) rfl rfl (five_new Ya (ta, td, tc, tb, 0) 39) (five_one _) (by rw [htl]; unfold maxLen; omega) (by rw [htl]; omega) (by have := (unhide KB2).size; have := (Array.getElem?_eq_some_iff.1 (unhide KQ2)).1; simp; omega) ?_
                    intro v' w3 hown' hgrow
                    rw [htl] at hown'
                    obtain ⟨g', cap', rfl⟩ := own_form hown'
                    have hg'l := own_lt hown' (k := g') rfl
                    have hquu := (Array.getElem?_eq_some_iff.1 (unhide KQ3)).1
                    have K3 := (hgrow.block W.heap.size hquu (fun e => by have := (hgl _ e.symm).1; omega)).trans (unhide KQ3)
                    have BX3 := ((unhide KB2).alloc (unhide KB2).size (.cells #[.string ta, .string td, .string tc, .string tb, .int .i64 0] 39)).trans (grown_bel hgrow (fun n e => by have := (hgl n e).1; omega) (by have := (unhide KB2).size; simp; omega))
                    have HR3 := hide ((unhide HSN) _ _ hown')
                    have HQ4 := hide (heap_setCell_same w3 W.heap.size 0 _ 37 (.slice (some ⟨g', 0, none⟩) (k + 1) cap') K3)
                    have HR4 := hide ((unhide HR3).at (w' := w3.setCell ⟨W.heap.size, 0, none⟩ (.slice (some ⟨g', 0, none⟩) (k + 1) cap')) (fun n e => heap_setCell_other w3 ⟨W.heap.size, 0, none⟩ n _ (by cases e; show g' ≠ W.heap.size; omega)))
                    have HX4 := hide (BX3.setCell (p := ⟨W.heap.size, 0, none⟩) (Nat.le_refl _) (.slice (some ⟨g', 0, none⟩) (k + 1) cap'))
                    obtain ⟨s0, s1, s2, s3⟩ := two_cells K3
                    clear hown' hgrow K3 BX3 HR3
                    refine hK _ _ ?_
                    clear hK K
                    try simp only [Act.put, List.setIfInBounds_toArray, List.set_cons_zero, List.set_cons_succ]
                    refine wpAnyIn_ready (rs := [6]) (by kernel_rfl) (by simp) (AllReadyIn.cons rfl (fun K hK => ?_) AllReadyIn.nil)
                    go_simp
                    refine hK _ _ ?_
                    clear hK K
                    try simp only [Act.put, List.setIfInBounds_toArray, List.set_cons_zero, List.set_cons_succ]
                    refine wpAnyIn_ready (rs := [7]) (by kernel_rfl) (by simp) (AllReadyIn.cons rfl (fun K hK => ?_) AllReadyIn.nil)
                    go_simp
                    refine hK _ _ ?_
                    clear hK K
                    try simp only [Act.put, List.setIfInBounds_toArray, List.set_cons_zero, List.set_cons_succ]
                    refine wpAnyIn_done (by kernel_rfl) ?_ _
                    gi_wp2
                    go_roundw
                    case rel => exact ⟨k + 1, _, by omega, by go_num, HK3, HR4, HQ4, HX4⟩
                    case measure => simp [intOf] <;> omega
              · go_simp
                refine ⟨trivial, ?_⟩
                gi_at_call 35
                refine (CallsIn.inRound l ((callsIn_wide (n := 2)).2 ((unhide CT) _))).mono ?_
                rintro e Ya ⟨rfl, hbY⟩
                have KQ2 := hide ((hbY.block W.heap.size (Array.getElem?_eq_some_iff.1 (unhide KQ)).1).trans (unhide KQ))
                have KO2 := hide (ownsRow_below (unhide KO) hbY)
                have KB2 := hide ((unhide KB).trans (hbY.mono (unhide KB).size))
                obtain ⟨p0, p1, p2, p3⟩ := two_cells (unhide KQ2)
                have KQ3 := hide ((Below.heap_alloc Ya (.cells #[.string ta, .string td, .string tc, .string tb, .int .i64 0] 39) W.heap.size (Array.getElem?_eq_some_iff.1 (unhide KQ2)).1).trans (unhide KQ2))
                obtain ⟨r0, r1, r2, r3⟩ := two_cells (unhide KQ3)
                clear hbY
                try gi_wp2_with fail
                try (refine hK _ _ ?_)
                try clear hK K
                try simp only [Act.put, List.setIfInBounds_toArray, List.set_cons_zero, List.set_cons_succ]
                refine wpAnyIn_ready (rs := [1, 4]) (by kernel_rfl) (by simp) (AllReadyIn.cons rfl (fun K hK => ?_) (AllReadyIn.cons rfl (fun K hK => ?_) AllReadyIn.nil))
                · go_simp
                  refine hK _ _ ?_
                  clear hK K
                  try simp only [Act.put, List.setIfInBounds_toArray, List.set_cons_zero, List.set_cons_succ]
                  refine wpAnyIn_ready (rs := [4]) (by kernel_rfl) (by simp) (AllReadyIn.cons rfl (fun K hK => ?_) AllReadyIn.nil)
                  · go_simp
                    refine hK _ _ ?_
                    clear hK K
                    try simp only [Act.put, List.setIfInBounds_toArray, List.set_cons_zero, List.set_cons_succ]
                    refine wpAnyIn_ready (rs := [5]) (by kernel_rfl) (by simp) (AllReadyIn.cons rfl (fun K hK => ?_) AllReadyIn.nil)
                    refine stepIn_app rfl _ _ 35 rfl (W.heap.size + 1) 39 i0 (.agg #[.string ⟨#[]⟩, .string ⟨#[]⟩, .string ⟨#[]⟩, .string ⟨#[]⟩, .int .i64 0]) 5 72 Tryd.underlying35 hi0 hz0 hz1 hz2 rfl (by decide) _ _ _ rfl (own_atP (w' := Ya.alloc (.cells #[.string ta, .string td, .string tc, .string tb, .int .i64 0] 39)) (unhide KO2) (fun n e => Below.heap_alloc _ _ _ (own_lt (unhide KO2) e).2)) ⟨Ya.heap.size, 0, none⟩ 1 1 (cells5 (ta, td, tc, tb, 0)) rfl rfl (five_new Ya (ta, td, tc, tb, 0) 39) (five_one _) (by rw [htl]; unfold maxLen; omega) (by rw [htl]; omega) (by have := (unhide KB2).size; have := (Array.getElem?_eq_some_iff.1 (unhide KQ2)).1; simp; omega) ?_
                    intro v' w3 hown' hgrow
                    rw [htl] at hown'
                    obtain ⟨g', cap', rfl⟩ := own_form hown'
                    have hg'l := own_lt hown' (k := g') rfl
                    have hquu := (Array.getElem?_eq_some_iff.1 (unhide KQ3)).1
                    have K3 := (hgrow.block W.heap.size hquu (fun e => by have := (hgl _ e.symm).1; omega)).trans (unhide KQ3)
                    have BX3 := ((unhide KB2).alloc (unhide KB2).size (.cells #[.string ta, .string td, .string tc, .string tb, .int .i64 0] 39)).trans (grown_bel hgrow (fun n e => by have := (hgl n e).1; omega) (by have := (unhide KB2).size; simp; omega))
                    have HR3 := hide ((unhide HSN) _ _ hown')
                    have HQ4 := hide (heap_setCell_same w3 W.heap.size 0 _ 37 (.slice (some ⟨g', 0, none⟩) (k + 1) cap') K3)
                    have HR4 := hide ((unhide HR3).at (w' := w3.setCell ⟨W.heap.size, 0, none⟩ (.slice (some ⟨g', 0, none⟩) (k + 1) cap')) (fun n e => heap_setCell_other w3 ⟨W.heap.size, 0, none⟩ n _ (by cases e; show g' ≠ W.heap.size; omega)))
                    have HX4 := hide (BX3.setCell (p := ⟨W.heap.size, 0, none⟩) (Nat.le_refl _) (.slice (some ⟨g', 0, none⟩) (k + 1) cap'))
                    obtain ⟨s0, s1, s2, s3⟩ := two_cells K3
                    clear hown' hgrow K3 BX3 HR3
                    refine hK _ _ ?_
                    clear hK K
                    try simp only [Act.put, List.setIfInBounds_toArray, List.set_cons_zero, List.set_cons_succ]
                    refine wpAnyIn_ready (rs := [6]) (by kernel_rfl) (by simp) (AllReadyIn.cons rfl (fun K hK => ?_) AllReadyIn.nil)
                    go_simp
                    refine hK _ _ ?_
                    clear hK K
                    try simp only [Act.put, List.setIfInBounds_toArray, List.set_cons_zero, List.set_cons_succ]
                    refine wpAnyIn_ready (rs := [7]) (by kernel_rfl) (by simp) (AllReadyIn.cons rfl (fun K hK => ?_) AllReadyIn.nil)
                    go_simp
                    refine hK _ _ ?_
                    clear hK K
                    try simp only [Act.put, List.setIfInBounds_toArray, List.set_cons_zero, List.set_cons_succ]
                    refine wpAnyIn_done (by kernel_rfl) ?_ _
                    gi_wp2
                    go_roundw
                    case rel => exact ⟨k + 1, _, by omega, by go_num, HK3, HR4, HQ4, HX4⟩
                    case measure => simp [intOf] <;> omega
                · go_simp
                  refine hK _ _ ?_
                  clear hK K
                  try simp only [Act.put, List.setIfInBounds_toArray, List.set_cons_zero, List.set_cons_succ]
                  refine wpAnyIn_ready (rs := [1]) (by kernel_rfl) (by simp) (AllReadyIn.cons rfl (fun K hK => ?_) AllReadyIn.nil)
                  · go_simp
                    refine hK _ _ ?_
                    clear hK K
                    try simp only [Act.put, List.setIfInBounds_toArray, List.set_cons_zero, List.set_cons_succ]
                    refine wpAnyIn_ready (rs := [5]) (by kernel_rfl) (by simp) (AllReadyIn.cons rfl (fun K hK => ?_) AllReadyIn.nil)
                    refine stepIn_app rfl _ _ 35 rfl (W.heap.size + 1) 39 i0 (.agg #[.string ⟨#[]⟩, .string ⟨#[]⟩, .string ⟨#[]⟩, .string ⟨#[]⟩, .int .i64 0]) 5 72 Tryd.underlying35 hi0 hz0 hz1 hz2 rfl (by decide) _ _ _ rfl (own_atP (w' := Ya.alloc (.cells #[.string ta, .string td, .string tc, .string tb, .int .i64 0] 39)) (unhide KO2) (fun n e => Below.heap_alloc _ _ _ (own_lt (unhide KO2) e).2)) ⟨Ya.heap.size, 0, none⟩ 1 1 (cells5 (ta, td, tc, tb, 0)) rfl rfl (five_new Ya (ta, td, tc, tb, 0) 39) (five_one _) (by rw [htl]; unfold maxLen; omega) (by rw [htl]; omega) (by have := (unhide KB2).size; have := (Array.getElem?_eq_some_iff.1 (unhide KQ2)).1; simp; omega) ?_
                    intro v' w3 hown' hgrow
                    rw [htl] at hown'
                    obtain ⟨g', cap', rfl⟩ := own_form hown'
                    have hg'l := own_lt hown' (k := g') rfl
                    have hquu := (Array.getElem?_eq_some_iff.1 (unhide KQ3)).1
                    have K3 := (hgrow.block W.heap.size hquu (fun e => by have := (hgl _ e.symm).1; omega)).trans (unhide KQ3)
                    have BX3 := ((unhide KB2).alloc (unhide KB2).size (.cells #[.string ta, .string td, .string tc, .string tb, .int .i64 0] 39)).trans (grown_bel hgrow (fun n e => by have := (hgl n e).1; omega) (by have := (unhide KB2).size; simp; omega))
                    have HR3 := hide ((unhide HSN) _ _ hown')
                    have HQ4 := hide (heap_setCell_same w3 W.heap.size 0 _ 37 (.slice (some ⟨g', 0, none⟩) (k + 1) cap') K3)
                    have HR4 := hide ((unhide HR3).at (w' := w3.setCell ⟨W.heap.size, 0, none⟩ (.slice (some ⟨g', 0, none⟩) (k + 1) cap')) (fun n e => heap_setCell_other w3 ⟨W.heap.size, 0, none⟩ n _ (by cases e; show g' ≠ W.heap.size; omega)))
                    have HX4 := hide (BX3.setCell (p := ⟨W.heap.size, 0, none⟩) (Nat.le_refl _) (.slice (some ⟨g', 0, none⟩) (k + 1) cap'))
                    obtain ⟨s0, s1, s2, s3⟩ := two_cells K3
                    clear hown' hgrow K3 BX3 HR3
                    refine hK _ _ ?_
                    clear hK K
                    try simp only [Act.put, List.setIfInBounds_toArray, List.set_cons_zero, List.set_cons_succ]
                    refine wpAnyIn_ready (rs := [6]) (by kernel_rfl) (by simp) (AllReadyIn.cons rfl (fun K hK => ?_) AllReadyIn.nil)
                    go_simp
                    refine hK _ _ ?_
                    clear hK K
                    try simp only [Act.put, List.setIfInBounds_toArray, List.set_cons_zero, List.set_cons_succ]
                    refine wpAnyIn_ready (rs := [7]) (by kernel_rfl) (by simp) (AllReadyIn.cons rfl (fun K hK => ?_) AllReadyIn.nil)
                    go_simp
                    refine hK _ _ ?_
                    clear hK K
                    try simp only [Act.put, List.setIfInBounds_toArray, List.set_cons_zero, List.set_cons_succ]
                    refine wpAnyIn_done (by kernel_rfl) ?_ _
                    gi_wp2
                    go_roundw
                    case rel => exact ⟨k + 1, _, by omega, by go_num, HK3, HR4, HQ4, HX4⟩
                    case measure => simp [intOf] <;> omega
          · go_simp
            refine hK _ _ ?_
            clear hK K
            try simp only [Act.put, List.setIfInBounds_toArray, List.set_cons_zero, List.set_cons_succ]
            refine wpAnyIn_ready (rs := [0, 3]) (by kernel_rfl) (by simp) (AllReadyIn.cons rfl (fun K hK => ?_) (AllReadyIn.cons rfl (fun K hK => ?_) AllReadyIn.nil))
            · go_simp
              refine hK _ _ ?_
              clear hK K
              try simp only [Act.put, List.setIfInBounds_toArray, List.set_cons_zero, List.set_cons_succ]
              refine wpAnyIn_ready (rs := [1, 3]) (by kernel_rfl) (by simp) (AllReadyIn.cons rfl (fun K hK => ?_) (AllReadyIn.cons rfl (fun K hK => ?_) AllReadyIn.nil))
              · go_simp
                refine hK _ _ ?_
                clear hK K
                try simp only [Act.put, List.setIfInBounds_toArray, List.set_cons_zero, List.set_cons_succ]
                refine wpAnyIn_ready (rs := [3]) (by kernel_rfl) (by simp) (AllReadyIn.cons rfl (fun K hK => ?_) AllReadyIn.nil)
                · go_simp
                  refine ⟨trivial, ?_⟩
                  gi_at_call 35
                  refine (CallsIn.inRound l ((callsIn_wide (n := 2)).2 ((unhide CT) _))).mono ?_
                  rintro e Ya ⟨rfl, hbY⟩
                  have KQ2 := hide ((hbY.block W.heap.size (Array.getElem?_eq_some_iff.1 (unhide KQ)).1).trans (unhide KQ))
                  have KO2 := hide (ownsRow_below (unhide KO) hbY)
                  have KB2 := hide ((unhide KB).trans (hbY.mono (unhide KB).size))
                  obtain ⟨p0, p1, p2, p3⟩ := two_cells (unhide KQ2)
                  have KQ3 := hide ((Below.heap_alloc Ya (.cells #[.string ta, .string td, .string tc, .string tb, .int .i64 0] 39) W.heap.size (Array.getElem?_eq_some_iff.1 (unhide KQ2)).1).trans (unhide KQ2))
                  obtain ⟨r0, r1, r2, r3⟩ := two_cells (unhide KQ3)
                  clear hbY
                  try gi_wp2_with fail
                  try (refine hK _ _ ?_)
                  try clear hK K
                  try simp only [Act.put, List.setIfInBounds_toArray, List.set_cons_zero, List.set_cons_succ]
                  refine wpAnyIn_ready (rs := [4]) (by kernel_rfl) (by simp) (AllReadyIn.cons rfl (fun K hK => ?_) AllReadyIn.nil)
                  · go_simp
                    refine hK _ _ ?_
                    clear hK K
                    try simp only [Act.put, List.setIfInBounds_toArray, List.set_cons_zero, List.set_cons_succ]
                    refine wpAnyIn_ready (rs := [5]) (by kernel_rfl) (by simp) (AllReadyIn.cons rfl (fun K hK => ?_) AllReadyIn.nil)
                    refine stepIn_app rfl _ _ 35 rfl (W.heap.size + 1) 39 i0 (.agg #[.string ⟨#[]⟩, .string ⟨#[]⟩, .string ⟨#[]⟩, .string ⟨#[]⟩, .int .i64 0]) 5 72 Tryd.underlying35 hi0 hz0 hz1 hz2 rfl (by decide) _ _ _ rfl (own_atP (w' := Ya.alloc (.cells #[.string ta, .string td, .string tc, .string tb, .int .i64 0] 39)) (unhide KO2) (fun n e => Below.heap_alloc _ _ _ (own_lt (unhide KO2) e).2)) ⟨Ya.heap.size, 0, none⟩ 1 1 (cells5 (ta, td, tc, tb, 0)) rfl rfl (five_new Ya (ta, td, tc, tb, 0) 39) (five_one _) (by rw [htl]; unfold maxLen; omega) (by rw [htl]; omega) (by have := (unhide KB2).size; have := (Array.getElem?_eq_some_iff.1 (unhide KQ2)).1; simp; omega) ?_
                    intro v' w3 hown' hgrow
                    rw [htl] at hown'
                    obtain ⟨g', cap', rfl⟩ := own_form hown'
                    have hg'l := own_lt hown' (k := g') rfl
                    have hquu := (Array.getElem?_eq_some_iff.1 (unhide KQ3)).1
                    have K3 := (hgrow.block W.heap.size hquu (fun e => by have := (hgl _ e.symm).1; omega)).trans (unhide KQ3)
                    have BX3 := ((unhide KB2).alloc (unhide KB2).size (.cells #[.string ta, .string td, .string tc, .string tb, .int .i64 0] 39)).trans (grown_bel hgrow (fun n e => by have := (hgl n e).1; omega) (by have := (unhide KB2).size; simp; omega))
                    have HR3 := hide ((unhide HSN) _ _ hown')
                    have HQ4 := hide (heap_setCell_same w3 W.heap.size 0 _ 37 (.slice (some ⟨g', 0, none⟩) (k + 1) cap') K3)
                    have HR4 := hide ((unhide HR3).at (w' := w3.setCell ⟨W.heap.size, 0, none⟩ (.slice (some ⟨g', 0, none⟩) (k + 1) cap')) (fun n e => heap_setCell_other w3 ⟨W.heap.size, 0, none⟩ n _ (by cases e; show g' ≠ W.heap.size; omega)))
                    have HX4 := hide (BX3.setCell (p := ⟨W.heap.size, 0, none⟩) (Nat.le_refl _) (.slice (some ⟨g', 0, none⟩) (k + 1) cap'))
                    obtain ⟨s0, s1, s2, s3⟩ := two_cells K3
                    clear hown' hgrow K3 BX3 HR3
                    refine hK _ _ ?_
                    clear hK K
                    try simp only [Act.put, List.setIfInBounds_toArray, List.set_cons_zero, List.set_cons_succ]
                    refine wpAnyIn_ready (rs := [6]) (by kernel_rfl) (by simp) (AllReadyIn.cons rfl (fun K hK => ?_) AllReadyIn.nil)
                    go_simp
                    refine hK _ _ ?_
                    clear hK K
                    try simp only [Act.put, List.setIfInBounds_toArray, List.set_cons_zero, List.set_cons_succ]
                    refine wpAnyIn_ready (rs := [7]) (by kernel_rfl) (by simp) (AllReadyIn.cons rfl (fun K hK => ?_) AllReadyIn.nil)
                    go_simp
                    refine hK _ _ ?_
                    clear hK K
                    try simp only [Act.put, List.setIfInBounds_toArray, List.set_cons_zero, List.set_cons_succ]
                    refine wpAnyIn_done (by kernel_rfl) ?_ _
                    gi_wp2
                    go_roundw
                    case rel => exact ⟨k + 1, _, by omega, by go_num, HK3, HR4, HQ4, HX4⟩
                    case measure => simp [intOf] <;> omega
              · go_simp
                refine ⟨trivial, ?_⟩
                gi_at_call 35
                refine (CallsIn.inRound l ((callsIn_wide (n := 2)).2 ((unhide CT) _))).mono ?_
                rintro e Ya ⟨rfl, hbY⟩
                have KQ2 := hide ((hbY.block W.heap.size (Array.getElem?_eq_some_iff.1 (unhide KQ)).1).trans (unhide KQ))
                have KO2 := hide (ownsRow_below (unhide KO) hbY)
                have KB2 := hide ((unhide KB).trans (hbY.mono (unhide KB).size))
                obtain ⟨p0, p1, p2, p3⟩ := two_cells (unhide KQ2)
                have KQ3 := hide ((Below.heap_alloc Ya (.cells #[.string ta, .string td, .string tc, .string tb, .int .i64 0] 39) W.heap.size (Array.getElem?_eq_some_iff.1 (unhide KQ2)).1).trans (unhide KQ2))
                obtain ⟨r0, r1, r2, r3⟩ := two_cells (unhide KQ3)
                clear hbY
                try gi_wp2_with fail
                try (refine hK _ _ ?_)
                try clear hK K
                try simp only [Act.put, List.setIfInBounds_toArray, List.set_cons_zero, List.set_cons_succ]
                refine wpAnyIn_ready (rs := [1, 4]) (by kernel_rfl) (by simp) (AllReadyIn.cons rfl (fun K hK => ?_) (AllReadyIn.cons rfl (fun K hK => ?_) AllReadyIn.nil))
                · go_simp
                  refine hK _ _ ?_
                  clear hK K
                  try simp only [Act.put, List.setIfInBounds_toArray, List.set_cons_zero, List.set_cons_succ]
                  refine wpAnyIn_ready (rs := [4]) (by kernel_rfl) (by simp) (AllReadyIn.cons rfl (fun K hK => ?_) AllReadyIn.nil)
                  · go_simp
                    refine hK _ _ ?_
                    clear hK K
                    try simp only [Act.put, List.setIfInBounds_toArray, List.set_cons_zero, List.set_cons_succ]
                    refine wpAnyIn_ready (rs := [5]) (by kernel_rfl) (by simp) (AllReadyIn.cons rfl (fun K hK => ?_) AllReadyIn.nil)
                    refine stepIn_app rfl _ _ 35 rfl (W.heap.size + 1) 39 i0 (.agg #[.string ⟨#[]⟩, .string ⟨#[]⟩, .string ⟨#[]⟩, .string ⟨#[]⟩, .int .i64 0]) 5 72 Tryd.underlying35 hi0 hz0 hz1 hz2 rfl (by decide) _ _ _ rfl (own_atP (w' := Ya.alloc (.cells #[.string ta, .string td, .string tc, .string tb, .int .i64 0] 39)) (unhide KO2) (fun n e => Below.heap_alloc _ _ _ (own_lt (unhide KO2) e).2)) ⟨Ya.heap.size, 0, none⟩ 1 1 (cells5 (ta, td, tc, tb, 0)) rfl rfl (five_new Ya (ta, td, tc, tb, 0) 39) (five_one _) (by rw [htl]; unfold maxLen; omega) (by rw [htl]; omega) (by have := (unhide KB2).size; have := (Array.getElem?_eq_some_iff.1 (unhide KQ2)).1; simp; omega) ?_
                    intro v' w3 hown' hgrow
                    rw [htl] at hown'
                    obtain ⟨g', cap', rfl⟩ := own_form hown'
                    have hg'l := own_lt hown' (k := g') rfl
                    have hquu := (Array.getElem?_eq_some_iff.1 (unhide KQ3)).1
                    have K3 := (hgrow.block W.heap.size hquu (fun e => by have := (hgl _ e.symm).1; omega)).trans (unhide KQ3)
                    have BX3 := ((unhide KB2).alloc (unhide KB2).size (.cells #[.string ta, .string td, .string tc, .string tb, .int .i64 0] 39)).trans (grown_bel hgrow (fun n e => by have := (hgl n e).1; omega) (by have := (unhide KB2).size; simp; omega))
                    have HR3 := hide ((unhide HSN) _ _ hown')
                    have HQ4 := hide (heap_setCell_same w3 W.heap.size 0 _ 37 (.slice (some ⟨g', 0, none⟩) (k + 1) cap') K3)
                    have HR4 := hide ((unhide HR3).at (w' := w3.setCell ⟨W.heap.size, 0, none⟩ (.slice (some ⟨g', 0, none⟩) (k + 1) cap')) (fun n e => heap_setCell_other w3 ⟨W.heap.size, 0, none⟩ n _ (by cases e; show g' ≠ W.heap.size; omega)))
                    have HX4 := hide (BX3.setCell (p := ⟨W.heap.size, 0, none⟩) (Nat.le_refl _) (.slice (some ⟨g', 0, none⟩) (k + 1) cap'))
                    obtain ⟨s0, s1, s2, s3⟩ := two_cells K3
                    clear hown' hgrow K3 BX3 HR3
                    refine hK _ _ ?_
                    clear hK K
                    try simp only [Act.put, List.setIfInBounds_toArray, List.set_cons_zero, List.set_cons_succ]
                    refine wpAnyIn_ready (rs := [6]) (by kernel_rfl) (by simp) (AllReadyIn.cons rfl (fun K hK => ?_) AllReadyIn.nil)
                    go_simp
                    refine hK _ _ ?_
                    clear hK K
                    try simp only [Act.put, List.setIfInBounds_toArray, List.set_cons_zero, List.set_cons_succ]
                    refine wpAnyIn_ready (rs := [7]) (by kernel_rfl) (by simp) (AllReadyIn.cons rfl (fun K hK => ?_) AllReadyIn.nil)
                    go_simp
                    refine hK _ _ ?_
                    clear hK K
                    try simp only [Act.put, List.setIfInBounds_toArray, List.set_cons_zero, List.set_cons_succ]
                    refine wpAnyIn_done (by kernel_rfl) ?_ _
                    gi_wp2
                    go_roundw
                    case rel => exact ⟨k + 1, _, by omega, by go_num, HK3, HR4, HQ4, HX4⟩
                    case measure => simp [intOf] <;> omega
                · go_simp
                  refine hK _ _ ?_
                  clear hK K
                  try simp only [Act.put, List.setIfInBounds_toArray, List.set_cons_zero, List.set_cons_succ]
                  refine wpAnyIn_ready (rs := [1]) (by kernel_rfl) (by simp) (AllReadyIn.cons rfl (fun K hK => ?_) AllReadyIn.nil)
                  · go_simp
                    refine hK _ _ ?_
                    clear hK K
                    try simp only [Act.put, List.setIfInBounds_toArray, List.set_cons_zero, List.set_cons_succ]
                    refine wpAnyIn_ready (rs := [5]) (by kernel_rfl) (by simp) (AllReadyIn.cons rfl (fun K hK => ?_) AllReadyIn.nil)
                    refine stepIn_app rfl _ _ 35 rfl (W.heap.size + 1) 39 i0 (.agg #[.string ⟨#[]⟩, .string ⟨#[]⟩, .string ⟨#[]⟩, .string ⟨#[]⟩, .int .i64 0]) 5 72 Tryd.underlying35 hi0 hz0 hz1 hz2 rfl (by decide) _ _ _ rfl (own_atP (w' := Ya.alloc (.cells #[.string ta, .string td, .string tc, .string tb, .int .i64 0] 39)) (unhide KO2) (fun n e => Below.heap_alloc _ _ _ (own_lt (unhide KO2) e).2)) ⟨Ya.heap.size, 0, none⟩ 1 1 (cells5 (ta, td, tc, tb, 0)) rfl rfl (five_new Ya (ta, td, tc, tb, 0) 39) (five_one _) (by rw [htl]; unfold maxLen; omega) (by rw [htl]; omega) (by have := (unhide KB2).size; have := (Array.getElem?_eq_some_iff.1 (unhide KQ2)).1; simp; omega) ?_
                    intro v' w3 hown' hgrow
                    rw [htl] at hown'
                    obtain ⟨g', cap', rfl⟩ := own_form hown'
                    have hg'l := own_lt hown' (k := g') rfl
                    have hquu := (Array.getElem?_eq_some_iff.1 (unhide KQ3)).1
                    have K3 := (hgrow.block W.heap.size hquu (fun e => by have := (hgl _ e.symm).1; omega)).trans (unhide KQ3)
                    have BX3 := ((unhide KB2).alloc (unhide KB2).size (.cells #[.string ta, .string td, .string tc, .string tb, .int .i64 0] 39)).trans (grown_bel hgrow (fun n e => by have := (hgl n e).1; omega) (by have := (unhide KB2).size; simp; omega))
                    have HR3 := hide ((unhide HSN) _ _ hown')
                    have HQ4 := hide (heap_setCell_same w3 W.heap.size 0 _ 37 (.slice (some ⟨g', 0, none⟩) (k + 1) cap') K3)
                    have HR4 := hide ((unhide HR3).at (w' := w3.setCell ⟨W.heap.size, 0, none⟩ (.slice (some ⟨g', 0, none⟩) (k + 1) cap')) (fun n e => heap_setCell_other w3 ⟨W.heap.size, 0, none⟩ n _ (by cases e; show g' ≠ W.heap.size; omega)))
                    have HX4 := hide (BX3.setCell (p := ⟨W.heap.size, 0, none⟩) (Nat.le_refl _) (.slice (some ⟨g', 0, none⟩) (k + 1) cap'))
                    obtain ⟨s0, s1, s2, s3⟩ := two_cells K3
                    clear hown' hgrow K3 BX3 HR3
                    refine hK _ _ ?_
                    clear hK K
                    try simp only [Act.put, List.setIfInBounds_toArray, List.set_cons_zero, List.set_cons_succ]
                    refine wpAnyIn_ready (rs := [6]) (by kernel_rfl) (by simp) (AllReadyIn.cons rfl (fun K hK => ?_) AllReadyIn.nil)
                    go_simp
                    refine hK _ _ ?_
                    clear hK K
                    try simp only [Act.put, List.setIfInBounds_toArray, List.set_cons_zero, List.set_cons_succ]
                    refine wpAnyIn_ready (rs := [7]) (by kernel_rfl) (by simp) (AllReadyIn.cons rfl (fun K hK => ?_) AllReadyIn.nil)
                    go_simp
                    refine hK _ _ ?_
                    clear hK K
                    try simp only [Act.put, List.setIfInBounds_toArray, List.set_cons_zero, List.set_cons_succ]
                    refine wpAnyIn_done (by kernel_rfl) ?_ _
                    gi_wp2
                    go_roundw
                    case rel => exact ⟨k + 1, _, by omega, by go_num, HK3, HR4, HQ4, HX4⟩
                    case measure => simp [intOf] <;> omega
            · go_simp
              refine ⟨trivial, ?_⟩
              gi_at_call 35
              refine (CallsIn.inRound l ((callsIn_wide (n := 2)).2 ((unhide CT) _))).mono ?_
              rintro e Ya ⟨rfl, hbY⟩
              have KQ2 := hide ((hbY.block W.heap.size (Array.getElem?_eq_some_iff.1 (unhide KQ)).1).trans (unhide KQ))
              have KO2 := hide (ownsRow_below (unhide KO) hbY)
              have KB2 := hide ((unhide KB).trans (hbY.mono (unhide KB).size))
              obtain ⟨p0, p1, p2, p3⟩ := two_cells (unhide KQ2)
              have KQ3 := hide ((Below.heap_alloc Ya (.cells #[.string ta, .string td, .string tc, .string tb, .int .i64 0] 39) W.heap.size (Array.getElem?_eq_some_iff.1 (unhide KQ2)).1).trans (unhide KQ2))
              obtain ⟨r0, r1, r2, r3⟩ := two_cells (unhide KQ3)
              clear hbY
              try gi_wp2_with fail
              try (refine hK _ _ ?_)
              try clear hK K
              try simp only [Act.put, List.setIfInBounds_toArray, List.set_cons_zero, List.set_cons_succ]
              refine wpAnyIn_ready (rs := [0, 4]) (by kernel_rfl) (by simp) (AllReadyIn.cons rfl (fun K hK => ?_) (AllReadyIn.cons rfl (fun K hK => ?_) AllReadyIn.nil))
              · go_simp
                refine hK _ _ ?_
                clear hK K
                try simp only [Act.put, List.setIfInBounds_toArray, List.set_cons_zero, List.set_cons_succ]
                refine wpAnyIn_ready (rs := [1, 4]) (by kernel_rfl) (by simp) (AllReadyIn.cons rfl (fun K hK => ?_) (AllReadyIn.cons rfl (fun K hK => ?_) AllReadyIn.nil))
                · go_simp
                  refine hK _ _ ?_
                  clear hK K
                  try simp only [Act.put, List.setIfInBounds_toArray, List.set_cons_zero, List.set_cons_succ]
                  refine wpAnyIn_ready (rs := [4]) (by kernel_rfl) (by simp) (AllReadyIn.cons rfl (fun K hK => ?_) AllReadyIn.nil)
                  · go_simp
                    refine hK _ _ ?_
                    clear hK K
                    try simp only [Act.put, List.setIfInBounds_toArray, List.set_cons_zero, List.set_cons_succ]
                    refine wpAnyIn_ready (rs := [5]) (by kernel_rfl) (by simp) (AllReadyIn.cons rfl (fun K hK => ?_) AllReadyIn.nil)
                    refine stepIn_app rfl _ _ 35 rfl (W.heap.size + 1) 39 i0 (.agg #[.string ⟨#[]⟩, .string ⟨#[]⟩, .string ⟨#[]⟩, .string ⟨#[]⟩, .int .i64 0]) 5 72 Tryd.underlying35 hi0 hz0 hz1 hz2 rfl (by decide) _ _ _ rfl (own_atP (w' := Ya.alloc (.cells #[.string ta, .string td, .string tc, .string tb, .int .i64 0] 39)) (unhide KO2) (fun n e => Below.heap_alloc _ _ _ (own_lt (unhide KO2) e).2)) ⟨Ya.heap.size, 0, none⟩ 1 1 (cells5 (ta, td, tc, tb, 0)) rfl rfl (five_new Ya (ta, td, tc, tb, 0) 39) (five_one _) (by rw [htl]; unfold maxLen; omega) (by rw [htl]; omega) (by have := (unhide KB2).size; have := (Array.getElem?_eq_some_iff.1 (unhide KQ2)).1; simp; omega) ?_
                    intro v' w3 hown' hgrow
                    rw [htl] at hown'
                    obtain ⟨g', cap', rfl⟩ := own_form hown'
                    have hg'l := own_lt hown' (k := g') rfl
                    have hquu := (Array.getElem?_eq_some_iff.1 (unhide KQ3)).1
                    have K3 := (hgrow.block W.heap.size hquu (fun e => by have := (hgl _ e.symm).1; omega)).trans (unhide KQ3)
                    have BX3 := ((unhide KB2).alloc (unhide KB2).size (.cells #[.string ta, .string td, .string tc, .string tb, .int .i64 0] 39)).trans (grown_bel hgrow (fun n e => by have := (hgl n e).1; omega) (by have := (unhide KB2).size; simp; omega))
                    have HR3 := hide ((unhide HSN) _ _ hown')
                    have HQ4 := hide (heap_setCell_same w3 W.heap.size 0 _ 37 (.slice (some ⟨g', 0, none⟩) (k + 1) cap') K3)
                    have HR4 := hide ((unhide HR3).at (w' := w3.setCell ⟨W.heap.size, 0, none⟩ (.slice (some ⟨g', 0, none⟩) (k + 1) cap')) (fun n e => heap_setCell_other w3 ⟨W.heap.size, 0, none⟩ n _ (by cases e; show g' ≠ W.heap.size; omega)))
                    have HX4 := hide (BX3.setCell (p := ⟨W.heap.size, 0, none⟩) (Nat.le_refl _) (.slice (some ⟨g', 0, none⟩) (k + 1) cap'))
                    obtain ⟨s0, s1, s2, s3⟩ := two_cells K3
                    clear hown' hgrow K3 BX3 HR3
                    refine hK _ _ ?_
                    clear hK K
                    try simp only [Act.put, List.setIfInBounds_toArray, List.set_cons_zero, List.set_cons_succ]
                    refine wpAnyIn_ready (rs := [6]) (by kernel_rfl) (by simp) (AllReadyIn.cons rfl (fun K hK => ?_) AllReadyIn.nil)
                    go_simp
                    refine hK _ _ ?_
                    clear hK K
                    try simp only [Act.put, List.setIfInBounds_toArray, List.set_cons_zero, List.set_cons_succ]
                    refine wpAnyIn_ready (rs := [7]) (by kernel_rfl) (by simp) (AllReadyIn.cons rfl (fun K hK => ?_) AllReadyIn.nil)
                    go_simp
                    refine hK _ _ ?_
                    clear hK K
                    try simp only [Act.put, List.setIfInBounds_toArray, List.set_cons_zero, List.set_cons_succ]
                    refine wpAnyIn_done (by kernel_rfl) ?_ _
                    gi_wp2
                    go_roundw
                    case rel => exact ⟨k + 1, _, by omega, by go_num, HK3, HR4, HQ4, HX4⟩
                    case measure => simp [intOf] <;> omega
                · go_simp
                  refine hK _ _ ?_
                  clear hK K
                  try simp only [Act.put, List.setIfInBounds_toArray, List.set_cons_zero, List.set_cons_succ]
                  refine wpAnyIn_ready (rs := [1]) (by kernel_rfl) (by simp) (AllReadyIn.cons rfl (fun K hK => ?_) AllReadyIn.nil)
                  · go_simp
                    refine hK _ _ ?_
                    clear hK K
                    try simp only [Act.put, List.setIfInBounds_toArray, List.set_cons_zero, List.set_cons_succ]
                    refine wpAnyIn_ready (rs := [5]) (by kernel_rfl) (by simp) (AllReadyIn.cons rfl (fun K hK => ?_) AllReadyIn.nil)
                    refine stepIn_app rfl _ _ 35 rfl (W.heap.size + 1) 39 i0 (.agg #[.string ⟨#[]⟩, .string ⟨#[]⟩, .string ⟨#[]⟩, .string ⟨#[]⟩, .int .i64 0]) 5 72 Tryd.underlying35 hi0 hz0 hz1 hz2 rfl (by decide) _ _ _ rfl (own_atP (w' := Ya.alloc (.cells #[.string ta, .string td, .string tc, .string tb, .int .i64 0] 39)) (unhide KO2) (fun n e => Below.heap_alloc _ _ _ (own_lt (unhide KO2) e).2)) ⟨Ya.heap.size, 0, none⟩ 1 1 (cells5 (ta, td, tc, tb, 0)) rfl rfl (five_new Ya (ta, td, tc, tb, 0) 39) (five_one _) (by rw [htl]; unfold maxLen; omega) (by rw [htl]; omega) (by have := (unhide KB2).size; have := (Array.getElem?_eq_some_iff.1 (unhide KQ2)).1; simp; omega) ?_
                    intro v' w3 hown' hgrow
                    rw [htl] at hown'
                    obtain ⟨g', cap', rfl⟩ := own_form hown'
                    have hg'l := own_lt hown' (k := g') rfl
                    have hquu := (Array.getElem?_eq_some_iff.1 (unhide KQ3)).1
                    have K3 := (hgrow.block W.heap.size hquu (fun e => by have := (hgl _ e.symm).1; omega)).trans (unhide KQ3)
                    have BX3 := ((unhide KB2).alloc (unhide KB2).size (.cells #[.string ta, .string td, .string tc, .string tb, .int .i64 0] 39)).trans (grown_bel hgrow (fun n e => by have := (hgl n e).1; omega) (by have := (unhide KB2).size; simp; omega))
                    have HR3 := hide ((unhide HSN) _ _ hown')
                    have HQ4 := hide (heap_setCell_same w3 W.heap.size 0 _ 37 (.slice (some ⟨g', 0, none⟩) (k + 1) cap') K3)
                    have HR4 := hide ((unhide HR3).at (w' := w3.setCell ⟨W.heap.size, 0, none⟩ (.slice (some ⟨g', 0, none⟩) (k + 1) cap')) (fun n e => heap_setCell_other w3 ⟨W.heap.size, 0, none⟩ n _ (by cases e; show g' ≠ W.heap.size; omega)))
                    have HX4 := hide (BX3.setCell (p := ⟨W.heap.size, 0, none⟩) (Nat.le_refl _) (.slice (some ⟨g', 0, none⟩) (k + 1) cap'))
                    obtain ⟨s0, s1, s2, s3⟩ := two_cells K3
                    clear hown' hgrow K3 BX3 HR3
                    refine hK _ _ ?_
                    clear hK K
                    try simp only [Act.put, List.setIfInBounds_toArray, List.set_cons_zero, List.set_cons_succ]
                    refine wpAnyIn_ready (rs := [6]) (by kernel_rfl) (by simp) (AllReadyIn.cons rfl (fun K hK => ?_) AllReadyIn.nil)
                    go_simp
                    refine hK _ _ ?_
                    clear hK K
                    try simp only [Act.put, List.setIfInBounds_toArray, List.set_cons_zero, List.set_cons_succ]
                    refine wpAnyIn_ready (rs := [7]) (by kernel_rfl) (by simp) (AllReadyIn.cons rfl (fun K hK => ?_) AllReadyIn.nil)
                    go_simp
                    refine hK _ _ ?_
                    clear hK K
                    try simp only [Act.put, List.setIfInBounds_toArray, List.set_cons_zero, List.set_cons_succ]
                    refine wpAnyIn_done (by kernel_rfl) ?_ _
                    gi_wp2
                    go_roundw
                    case rel => exact ⟨k + 1, _, by omega, by go_num, HK3, HR4, HQ4, HX4⟩
                    case measure => simp [intOf] <;> omega
              · go_simp
                refine hK _ _ ?_
                clear hK K
                try simp only [Act.put, List.setIfInBounds_toArray, List.set_cons_zero, List.set_cons_succ]
                refine wpAnyIn_ready (rs := [0]) (by kernel_rfl) (by simp) (AllReadyIn.cons rfl (fun K hK => ?_) AllReadyIn.nil)
                · go_simp
                  refine hK _ _ ?_
                  clear hK K
                  try simp only [Act.put, List.setIfInBounds_toArray, List.set_cons_zero, List.set_cons_succ]
                  refine wpAnyIn_ready (rs := [1]) (by kernel_rfl) (by simp) (AllReadyIn.cons rfl (fun K hK => ?_) AllReadyIn.nil)
                  · go_simp
                    refine hK _ _ ?_
                    clear hK K
                    try simp only [Act.put, List.setIfInBounds_toArray, List.set_cons_zero, List.set_cons_succ]
                    refine wpAnyIn_ready (rs := [5]) (by kernel_rfl) (by simp) (AllReadyIn.cons rfl (fun K hK => ?_) AllReadyIn.nil)
                    refine stepIn_app rfl _ _ 35 rfl (W.heap.size + 1) 39 i0 (.agg #[.string ⟨#[]⟩, .string ⟨#[]⟩, .string ⟨#[]⟩, .string ⟨#[]⟩, .int .i64 0]) 5 72 Tryd.underlying35 hi0 hz0 hz1 hz2 rfl (by decide) _ _ _ rfl (own_atP (w' := Ya.alloc (.cells #[.string ta, .string td, .string tc, .string tb, .int .i64 0] 39)) (unhide KO2) (fun n e => Below.heap_alloc _ _ _ (own_lt (unhide KO2) e).2)) ⟨Ya.heap.size, 0, none⟩ 1 1 (cells5 (ta, td, tc, tb, 0)) rfl rfl (five_new Ya (ta, td, tc, tb, 0) 39) (five_one _) (by rw [htl]; unfold maxLen; omega) (by rw [htl]; omega) (by have := (unhide KB2).size; have := (Array.getElem?_eq_some_iff.1 (unhide KQ2)).1; simp; omega) ?_
                    intro v' w3 hown' hgrow
                    rw [htl] at hown'
                    obtain ⟨g', cap', rfl⟩ := own_form hown'
                    have hg'l := own_lt hown' (k := g') rfl
                    have hquu := (Array.getElem?_eq_some_iff.1 (unhide KQ3)).1
                    have K3 := (hgrow.block W.heap.size hquu (fun e => by have := (hgl _ e.symm).1; omega)).trans (unhide KQ3)
                    have BX3 := ((unhide KB2).alloc (unhide KB2).size (.cells #[.string ta, .string td, .string tc, .string tb, .int .i64 0] 39)).trans (grown_bel hgrow (fun n e => by have := (hgl n e).1; omega) (by have := (unhide KB2).size; simp; omega))
                    have HR3 := hide ((unhide HSN) _ _ hown')
                    have HQ4 := hide (heap_setCell_same w3 W.heap.size 0 _ 37 (.slice (some ⟨g', 0, none⟩) (k + 1) cap') K3)
                    have HR4 := hide ((unhide HR3).at (w' := w3.setCell ⟨W.heap.size, 0, none⟩ (.slice (some ⟨g', 0, none⟩) (k + 1) cap')) (fun n e => heap_setCell_other w3 ⟨W.heap.size, 0, none⟩ n _ (by cases e; show g' ≠ W.heap.size; omega)))
                    have HX4 := hide (BX3.setCell (p := ⟨W.heap.size, 0, none⟩) (Nat.le_refl _) (.slice (some ⟨g', 0, none⟩) (k + 1) cap'))
                    obtain ⟨s0, s1, s2, s3⟩ := two_cells K3
                    clear hown' hgrow K3 BX3 HR3
                    refine hK _ _ ?_
                    clear hK K
                    try simp only [Act.put, List.setIfInBounds_toArray, List.set_cons_zero, List.set_cons_succ]
                    refine wpAnyIn_ready (rs := [6]) (by kernel_rfl) (by simp) (AllReadyIn.cons rfl (fun K hK => ?_) AllReadyIn.nil)
                    go_simp
                    refine hK _ _ ?_
                    clear hK K
                    try simp only [Act.put, List.setIfInBounds_toArray, List.set_cons_zero, List.set_cons_succ]
                    refine wpAnyIn_ready (rs := [7]) (by kernel_rfl) (by simp) (AllReadyIn.cons rfl (fun K hK => ?_) AllReadyIn.nil)
                    go_simp
                    refine hK _ _ ?_
                    clear hK K
                    try simp only [Act.put, List.setIfInBounds_toArray, List.set_cons_zero, List.set_cons_succ]
                    refine wpAnyIn_done (by kernel_rfl) ?_ _
                    gi_wp2
                    go_roundw
                    case rel => exact ⟨k + 1, _, by omega, by go_num, HK3, HR4, HQ4, HX4⟩
                    case measure => simp [intOf] <;> omega
      · obtain rfl : k = L.length := by omega
        have hkl' : ¬ (L.length : Int) < (L.length : Int) := by omega
        have HC3 := hide ((unhide HIC) (unhide HK))
        have htl := tr_len L L.length
        obtain ⟨o, hbo, hpo⟩ := (unhide HI).out
        have hboW : Boxed wr w.heap.size 25 o := ((unhide HX).block _ hbo.lt).trans hbo
        have hflW : Boxed wr (w.heap.size + 1) 4 (.bool false) := ((unhide HX).block _ (unhide HI).flag.lt).trans (unhide HI).flag
        have hbxW : Boxed wr W1.heap.size 25 (.slice va P.length vc) := ((unhide HX).block _ (unhide HI).box.lt).trans (unhide HI).box
        obtain ⟨gs, xs, k1, k2, k3, k4⟩ := hpo.below (unhide HX)
        obtain ⟨ya, yc, hye⟩ := (unhide HR).form
        rw [htl] at hye
        subst hye
        have hol : ∀ n, o.ownBlock = some n → W0.heap.size ≤ n ∧ n < wr.heap.size := fun n e => own_lt k1 e
        have hocl : ∀ n, o.ownBlock = some n → ∃ ob : Obj, wr.heap[n]? = some ob ∧ ob.isCells = true := fun n e => own_cells k1 e
        have O2 := hide (own_atP (w' := wr.alloc (.cells #[.slice ya L.length yc, .int .i64 g] 37)) k1 (fun n e => Below.heap_alloc _ _ _ (hol n e).2))
        have HSN := hide (fun (Z : World) U (hoz : Z.ownsRow W0.heap.size 37 2 U ((tl P is).length + 1) (xs ++ [.slice ya L.length yc, .int .i64 g])) hgr hkk => pag_snoc (q := W.heap.size + 1) (w1 := wr.alloc (.cells #[.slice ya L.length yc, .int .i64 g] 37)) (w2 := Z) (out' := U) (L := tr L L.length) (g := g) k1 k2 k3 k4 (unhide HR) (by omega) (by omega) hxs (al1 _ _) hoz hgr hkk)
        clear k1 k2 k3 k4 hpo
        have hml : (tl P is).length = is.length := tl_len P is
        have m0 := hboW.alloc (.cells #[.slice ya L.length yc, .int .i64 g] 37)
        have n0 := hboW.cell
        have n1 := hboW.frozen
        have m1 := hflW.alloc (.cells #[.slice ya L.length yc, .int .i64 g] 37)
        have m2 := hbxW.alloc (.cells #[.slice ya L.length yc, .int .i64 g] 37)
        have KFa := hide (keeps_of (B := W0.heap.size) ((unhide HX).alloc hxs (.cells #[.slice ya L.length yc, .int .i64 g] 37)))
        have BA := hide ((unhide B1).alloc (unhide B1).size (.cells #[.slice ya L.length yc, .int .i64 g] 37))
        have BWa := hide (((unhide HX).alloc hxs (.cells #[.slice ya L.length yc, .int .i64 g] 37)).mono hbelW.size)
        have hszA : (wr.alloc (.cells #[.slice ya L.length yc, .int .i64 g] 37)).heap.size = wr.heap.size + 1 := by simp
        gi_wp2_with (gi_at_builtin; refine wpListIn_appG _ rfl _ _ 25 rfl W0.heap.size 37 j0 (.agg #[.slice none 0 0, .int .i64 0]) 2 32 Tryd.underlying25 hj0 hy0 hy1 hy2 rfl (by decide) _ _ _ rfl (unhide O2) ⟨wr.heap.size, 0, none⟩ 1 1 [.slice ya L.length yc, .int .i64 g] rfl rfl (two_new wr _ g 37) (two_one _ _ _ _) ?g3 ?g4 ?g5 ?_)
        case g3 => unfold maxLen; omega
        case g4 => omega
        case g5 => omega
        intro v' w3 hown' hgrow hnew
        have HG3 := hide ((unhide HSN) _ _ (by rw [hml]; exact hown') hgrow (by intro n e; have := hnew n e; simpa using this))
        obtain ⟨g', cap', rfl⟩ := own_form hown'
        have hg'l := own_lt hown' (k := g') rfl
        have s0 := m0.kept hgrow (fun e => by have := (hol _ e.symm).1; omega)
        have s1 := m1.kept hgrow (fun e => by have := (hol _ e.symm).1; omega)
        have s2 := m2.kept hgrow (fun e => by have := (hol _ e.symm).1; omega)
        have hgs := hgrow.size
        have KF3 := (unhide KFa).trans ((KeepsOthers.of_grownBy hgrow (fun n ob e hb => by
          obtain ⟨ob', h1', h2'⟩ := hocl n e
          rw [Below.heap_alloc wr _ n (hol n e).2, h1'] at hb
          cases hb
          exact h2')).from _)
        have B3 := (unhide BA).trans (grown_bel hgrow (fun n e => by have := (hol n e).1; omega) (unhide BA).size)
        have BW3 := (unhide BWa).trans (grown_bel hgrow (fun n e => by have := (hol n e).1; omega) (by omega))
        have t0 := s0.set (.slice (some ⟨g', 0, none⟩) (is.length + 1) cap')
        have t1 := s1.other (B' := w.heap.size) (by omega) (.slice (some ⟨g', 0, none⟩) (is.length + 1) cap')
        have t2 := s2.other (B' := w.heap.size) (by omega) (.slice (some ⟨g', 0, none⟩) (is.length + 1) cap')
        have KF4 := hide (KF3.trans ((KeepsOthers.setCell _ ⟨w.heap.size, 0, none⟩ (.slice (some ⟨g', 0, none⟩) (is.length + 1) cap')).from _))
        have B4 := hide (B3.setCell (p := ⟨w.heap.size, 0, none⟩) (Nat.le_refl _) (.slice (some ⟨g', 0, none⟩) (is.length + 1) cap'))
        have BW4 := hide (BW3.setCell (p := ⟨w.heap.size, 0, none⟩) (Nat.le_refl _) (.slice (some ⟨g', 0, none⟩) (is.length + 1) cap'))
        have HG4 := hide ((unhide HG3).at (w' := w3.setCell ⟨w.heap.size, 0, none⟩ (.slice (some ⟨g', 0, none⟩) (is.length + 1) cap')) (fun n h1' h2' _ => heap_setCell_other w3 ⟨w.heap.size, 0, none⟩ n _ (by show n ≠ w.heap.size; omega)))
        have u0 := s0.cell
        have u1 := s0.frozen
        have HBs := hide (t2.trans (unhide HI).box.symm)
        rw [← unhide HTl] at HG4
        clear hown' hgrow hnew HSN O2 hml htl HG3 KF3 B3 BW3 s0 s1 s2 m0 m1 m2
        gi_wp2
        refine ⟨unhide KF4, ⟨unhide BW4, unhide HBs⟩, ?_⟩
        show St w _ W0.heap.size W1.heap.size (.slice va P.length vc) P ((pre ++ [(⟨i, hi⟩ : Pl P.length)]).map (·.1))
        rw [unhide HMap]
        exact ⟨by simp; omega, ⟨_, t0, by simpa using unhide HG4⟩, t1, unhide HC3, t2, unhide B4⟩
  case done =>
    rintro D ys W hD hS hI hK
    rw [hS] at hI
    obtain ⟨o, hbo, hpo⟩ := hI.out
    obtain ⟨oa, oc, rfl⟩ := hpo.pa.form
    have n0 := hbo.cell
    have n1 := hbo.frozen
    have n2 := hI.flag.cell
    have n3 := hI.flag.frozen
    have hyes := canA_yes (P := P) (fun i hi => hI.can i (by
      unfold down
      rw [List.mem_map]
      exact ⟨P.length - 1 - i, List.mem_range.2 (by omega), by omega⟩))
    have t0 := (hbo.set (.slice oa (tl P (down P.length P.length)).length oc)).other (B' := w.heap.size + 1) (by omega) (.bool true)
    have t1 := (hI.flag.other (B' := w.heap.size) (by omega) (.slice oa (tl P (down P.length P.length)).length oc)).set (.bool true)
    have t2 := hI.flag.other (B' := w.heap.size) (by omega) (.slice oa (tl P (down P.length P.length)).length oc)
    have n4 := t2.cell
    have n5 := t2.frozen
    have hlo := hI.low
    have hws := hBW0.size
    have hK2 : ((W.setCell ⟨w.heap.size, 0, none⟩ (.slice oa (tl P (down P.length P.length)).length oc)).setCell ⟨w.heap.size + 1, 0, none⟩ (.bool true)).heap[D]? = some (.deferred (some [])) := by
      rw [heap_setCell_other _ ⟨w.heap.size + 1, 0, none⟩ D _ (by show D ≠ w.heap.size + 1; omega), heap_setCell_other _ ⟨w.heap.size, 0, none⟩ D _ (by show D ≠ w.heap.size; omega)]
      exact hK
    have hp2 := hpo.at (w' := (W.setCell ⟨w.heap.size, 0, none⟩ (.slice oa (tl P (down P.length P.length)).length oc)).setCell ⟨w.heap.size + 1, 0, none⟩ (.bool true)) (fun k h1' h2' _ => by
      rw [heap_setCell_other _ ⟨w.heap.size + 1, 0, none⟩ k _ (by show k ≠ w.heap.size + 1; omega), heap_setCell_other _ ⟨w.heap.size, 0, none⟩ k _ (by show k ≠ w.heap.size; omega)])
    have bF := (hI.bel.setCell (p := ⟨w.heap.size, 0, none⟩) (Nat.le_refl _) (.slice oa (tl P (down P.length P.length)).length oc)).setCell (p := ⟨w.heap.size + 1, 0, none⟩) (by simp) (.bool true)
    have hszF : ((W.setCell ⟨w.heap.size, 0, none⟩ (.slice oa (tl P (down P.length P.length)).length oc)).setCell ⟨w.heap.size + 1, 0, none⟩ (.bool true)).heap.size = W.heap.size := by simp
    gi_wp2
    generalize (W.setCell ⟨w.heap.size, 0, none⟩ (.slice oa (tl P (down P.length P.length)).length oc)).setCell ⟨w.heap.size + 1, 0, none⟩ (.bool true) = Wf at *
    have hoth : ∀ k, k ≠ D → (Wf.putObj D (.deferred none)).heap[k]? = Wf.heap[k]? := fun k hk => World.putObj_heap_other (by intro e; exact hk (by omega))
    have e0 : Boxed (Wf.putObj D (.deferred none)) w.heap.size 25 (.slice oa (tl P (down P.length P.length)).length oc) := (hoth _ (by omega)).trans t0
    have e1 : Boxed (Wf.putObj D (.deferred none)) (w.heap.size + 1) 4 (.bool true) := (hoth _ (by omega)).trans t1
    have f0 := e0.cell
    have f1 := e1.cell
    have hp3 := hp2.keep (w' := Wf.putObj D (.deferred none)) (fun k ob hob hc => hoth k (fun e => by
      rw [e, hK2] at hob
      cases hob
      cases hc))
    have hszP : (Wf.putObj D (.deferred none)).heap.size = Wf.heap.size := by simp [World.putObj]
    refine ⟨by simp, .inl ⟨_, _, rfl, run_takeDeferred hK2, ?_⟩⟩
    refine ⟨.tuple #[.slice oa (tl P (down P.length P.length)).length oc, .bool true], by simp [results, Tryd.results23, go_sem, f0, f1]; try rfl, ⟨_, _, rfl, hyes.symm, (fun _ => (hp3.down hws).up (by omega)), (fun h => by rw [hyes] at h; cases h)⟩, ?_⟩
    exact bF.trans (belowK_b (w := w) (Nat.le_refl _) Wf D _ _ (by omega) hK2 rfl rfl)
  case stop =>
    rintro D c pre W hD _ ⟨rfl, hX⟩ hK
    have hws := hBW0.size
    have hoth : ∀ k, k ≠ D → (W.putObj D (.deferred none)).heap[k]? = W.heap[k]? := fun k hk => World.putObj_heap_other (by intro e; exact hk (by omega))
    have e0 : Boxed (W.putObj D (.deferred none)) w.heap.size 25 (.slice none 0 0) := (hoth _ (by omega)).trans hX.out
    have e1 : Boxed (W.putObj D (.deferred none)) (w.heap.size + 1) 4 (.bool false) := (hoth _ (by omega)).trans hX.flag
    have f0 := e0.cell
    have f1 := e1.cell
    gi_wp2
    refine ⟨by simp, .inl ⟨_, _, rfl, run_takeDeferred hK, ?_⟩⟩
    refine ⟨.tuple #[.slice none 0 0, .bool false], by simp [results, Tryd.results23, go_sem, f0, f1]; try rfl, ⟨_, _, rfl, hX.no.symm, (fun h => by rw [hX.no] at h; cases h), (fun _ => rfl)⟩, ?_⟩
    exact hX.bel.trans (belowK_b (w := w) (Nat.le_refl _) W D _ _ (by omega) hK rfl rfl)
end Go.Proofs.YtaebmajaefpcfaaDoor.Pas
