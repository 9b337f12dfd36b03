/- Several texts in one. -/
import Derived.Test.YtjcgchmncgihbaaDoorMFR
/- The program's table of where pieces end. -/
namespace Go.Proofs.YtjcgchmncgihbaaDoor
namespace Fw
open Go.RowKit Go.Shelf
set_option linter.unusedVariables false
set_option linter.unusedSimpArgs false
attribute [local go_sem] Oper.semAt_some
theorem wpListIn_app {F : Fence} {n : Nat} {P : Program} (w : World) {ops : Array Oper} {rest : List Oper} {o : Oper} {a : Act} {Q : Exit → Act → World → Prop}
    (hg : o.guard = none) (s x : Operand) (t : TypeId) (hop : o.op = Op.call { callee := Callee.builtin Builtin.append, args := #[s, x], argTypes := #[t, t] })
    (base : Nat) (e : TypeId) (i : TypeInfo) (z : Value) (size bytes : Nat) (h1 : P.underlying t = some (.slice e)) (h2 : P.info? e = some i) (h3 : i.zero = some z) (h4 : i.size = size) (h5 : i.bytes = bytes) (h6 : z.cells.size = size) (h7 : 0 < size)
    (v : Value) (k : Nat) (xs : List Value) (hs : a.eval s = v) (hown : w.ownsRow base e size v k xs) (ad : Addr) (m c : Nat) (news : List Value) (hx : a.eval x = .slice (some ad) m c) (hn : news.length = m * size)
    (hc : ∀ j u, news[j]? = some u → w.cell? (ad.add j) = some u) (h1c : ∀ u ∈ news, u.oneCell' = true) (b1 : k + m ≤ maxLen) (b2 : (k + m) * bytes ≤ 140737488355328) (b3 : base ≤ w.heap.size)
    (hK : ∀ v' w', w'.ownsRow base e size v' (k + m) (xs ++ news) → w.grownBy w' v.ownBlock → wpListIn F n P ops Q rest (a.put o.dst v') w') :
    wpListIn F n P ops Q (o :: rest) a w := by
  refine wpListIn_plain hg fun K hK' => ?_
  obtain ⟨v', w', hrun, r1, r2, r3⟩ := run_append_own (P := P) w base t o.type e i z size bytes h1 h2 h3 h4 h5 h6 h7 v k xs hown ad m c news hn hc h1c b1 b2 b3
  unfold Oper.wpIn
  refine ⟨?_, ?_⟩
  · simp [Oper.about, hop, resolve, Target.leads, Sem.run_pure]
  · rw [Oper.semAt_plain F _ _ (by rw [hop]; intro c hc'; cases hc')]
    simp [execOp, hop, resolve, invoke, builtin, hs, hx, hrun, Result.andThen]
    exact hK' _ _ (hK v' w' r1 r2)
/-- The places of the first m points. -/
def plk (s : ByteArray) (m : Nat) : List Int := (List.range m).map fun j => (pl s j : Int)
theorem plk_succ (s : ByteArray) (m : Nat) : plk s (m + 1) = plk s m ++ [(pl s m : Int)] := by simp [plk, List.range_succ]
theorem plk_len (s : ByteArray) (m : Nat) : (plk s m).length = m := by simp [plk]
/-- While the places are gathered. -/
structure Pk (w wr : World) (vW : Value) (s : ByteArray) (m pos : Nat) (v5 : Value) : Prop where
  bw : Boxed wr w.heap.size 23 vW
  bt : Boxed wr (w.heap.size + 1) 9 (.string s)
  it : wr.heap[w.heap.size + 2]? = some (.stringIter s pos)
  row : wr.ownsRow (w.heap.size + 3) 3 1 v5 m ((plk s m).map (Value.int .i64))
  bel : Below w.heap.size w wr
theorem Pk.first (w : World) (vW : Value) (s : ByteArray) : Pk w (((w.alloc (.cells #[vW] 23)).alloc (.cells #[.string s] 9)).iter s 0) vW s 0 0 (.slice none 0 0) := by
  have e1 : (w.alloc (.cells #[vW] 23)).heap.size = w.heap.size + 1 := by simp
  have e2 : ((w.alloc (.cells #[vW] 23)).alloc (.cells #[.string s] 9)).heap.size = w.heap.size + 2 := by simp
  have hb : Below w.heap.size w (((w.alloc (.cells #[vW] 23)).alloc (.cells #[.string s] 9)).iter s 0) := (((Below.refl _ _).alloc (Nat.le_refl _) _).alloc (by omega) _).alloc (by omega) _
  refine ⟨((Boxed.new w 23 vW).alloc _).alloc _, ?_, ?_, World.ownsRow_nil _ _ _ _, hb⟩
  · have := (Boxed.new (w.alloc (.cells #[vW] 23)) 9 (.string s)).alloc (.stringIter s 0)
    rw [e1] at this
    exact this
  · have := World.iter_heap ((w.alloc (.cells #[vW] 23)).alloc (.cells #[.string s] 9)) s 0
    rw [e2] at this
    exact this
theorem Pk.at {w wr : World} {vW : Value} {s : ByteArray} {m pos : Nat} {v5 : Value} (h : Pk w wr vW s m pos v5) (pos' : Nat) : Pk w (wr.iterAt (w.heap.size + 2) s pos') vW s m pos' v5 := by
  have hk : ∀ k, k ≠ w.heap.size + 2 → (wr.iterAt (w.heap.size + 2) s pos').heap[k]? = wr.heap[k]? := fun k hk => by
    unfold World.iterAt
    exact World.putObj_heap_other (by omega)
  have hlt : w.heap.size + 2 < wr.heap.size := (Array.getElem?_eq_some_iff.1 h.it).1
  refine ⟨(hk _ (by omega)).trans h.bw, (hk _ (by omega)).trans h.bt, Lib.iterAt_heap wr _ s pos _ h.it, ?_, Lib.below_iterAt h.bel (by omega) _ _⟩
  refine ⟨h.row.1, ?_⟩
  rcases h.row.2 with h' | ⟨g, cp, cur, hv, hg, hh, r⟩
  · exact .inl h'
  · exact .inr ⟨g, cp, cur, hv, hg, (hk g (by omega)).trans hh, r⟩
theorem Pk.app {w wr w4 : World} {vW : Value} {s : ByteArray} {m pos : Nat} {v5 v' : Value} {o : Obj} (h : Pk w wr vW s m pos v5) (ho : w4.ownsRow (w.heap.size + 3) 3 1 v' (m + 1) ((plk s m).map (Value.int .i64) ++ [.int .i64 (pl s m : Int)])) (hg : (wr.alloc o).grownBy w4 v5.ownBlock) : Pk w w4 vW s (m + 1) pos v' := by
  have hlt : w.heap.size + 2 < wr.heap.size := (Array.getElem?_eq_some_iff.1 h.it).1
  have hk : ∀ k, k < w.heap.size + 3 → w4.heap[k]? = wr.heap[k]? := fun k hk => (hg.block k (by simp; omega) (fun e => by have := (h.row.lt k e.symm).1; omega)).trans (Below.heap_alloc wr o k (by omega))
  refine ⟨(hk _ (by omega)).trans h.bw, (hk _ (by omega)).trans h.bt, (hk _ (by omega)).trans h.it, by rw [plk_succ, List.map_append]; exact ho, (h.bel.alloc h.bel.size o).grown hg (by simp; omega) (fun j hj => by have := (h.row.lt j hj).1; omega)⟩
theorem makeC (n : Nat) (hn : n ≤ 65537) (W : World) : (Instr.makeSlice 30 (.int .i64 (n : Int)) (.int .i64 (n : Int))).run Tryd.prog W = .ok (.slice (some ⟨W.heap.size, 0, none⟩) n n) (W.alloc (.cells (Array.replicate n (Value.int .i64 0)) 2)) := by
  obtain ⟨i0, hi, hz0, hz1, hz2⟩ := info_parts info2
  have := run_makeSlice (P := Tryd.prog) W 30 2 i0 (.int .i64 0) Tryd.underlying30 hi hz0 .i64 .i64 (n : Int) (n : Int) (by omega) (Int.le_refl _) (by rw [hz1]; omega) (by rw [hz2]; omega) (by omega)
  have e : madeCells #[Value.int .i64 0] n = Array.replicate n (Value.int .i64 0) := by
    apply Array.toList_inj.1
    rw [toList_madeCells_one]
    simp
  rw [hz1] at this
  simp only [Int.toNat_natCast, Nat.mul_one] at this
  rw [← e]
  exact this
/-- While the two tables and their boxes are made. -/
structure M6 (w0 w' : World) (s : ByteArray) (b3 b6 b7 b8 b9 b10 : Bool) (g3 g6 g7 g8 : Nat) : Prop where
  bel : Below w0.heap.size w0 w'
  m3 : b3 = true → w0.heap.size ≤ g3 ∧ w'.heap[g3]? = some (.cells (Array.replicate (s.size + 1) (Value.int .i64 0)) 2 (0, 0))
  m6 : b6 = true → w0.heap.size ≤ g6 ∧ w'.heap[g6]? = some (.cells (Array.replicate s.size (Value.int .i64 0)) 3 (0, 0))
  m7 : b7 = true → w0.heap.size ≤ g7 ∧ Boxed w' g7 30 (bif b9 then .slice (some ⟨g3, 0, none⟩) (s.size + 1) (s.size + 1) else .slice none 0 0)
  m8 : b8 = true → w0.heap.size ≤ g8 ∧ Boxed w' g8 50 (bif b10 then .slice (some ⟨g6, 0, none⟩) s.size s.size else .slice none 0 0)
theorem M6.al {w0 w' : World} {s : ByteArray} {b3 b6 b7 b8 b9 b10 : Bool} {g3 g6 g7 g8 : Nat} (h : M6 w0 w' s b3 b6 b7 b8 b9 b10 g3 g6 g7 g8) (o : Obj) : M6 w0 (w'.alloc o) s b3 b6 b7 b8 b9 b10 g3 g6 g7 g8 := by
  have hk : ∀ (k : Nat) (x : Obj), w'.heap[k]? = some x → (w'.alloc o).heap[k]? = some x := fun k x hx => (Below.heap_alloc w' o k (Array.getElem?_eq_some_iff.1 hx).1).trans hx
  exact ⟨h.bel.alloc h.bel.size o, fun e => ⟨(h.m3 e).1, hk _ _ (h.m3 e).2⟩, fun e => ⟨(h.m6 e).1, hk _ _ (h.m6 e).2⟩, fun e => ⟨(h.m7 e).1, hk _ _ (h.m7 e).2⟩, fun e => ⟨(h.m8 e).1, hk _ _ (h.m8 e).2⟩⟩
theorem ne_ty {W : World} {x y : Nat} {a b : Array Value} {t u : TypeId} {f g : Nat × Nat} (h : W.heap[x]? = some (.cells a t f)) (k : W.heap[y]? = some (.cells b u g)) (ht : t ≠ u) : x ≠ y := fun e => by
  subst e
  rw [h] at k
  cases k
  exact ht rfl
/-- Between two rounds: the boxes, the two tables, the place where the last round was. -/
structure Fs (w W : World) (vW vp : Value) (s : ByteArray) (b7 b8 b9 gC gE : Nat) (C E : List Int) (z : Nat) : Prop where
  bw : Boxed W w.heap.size 23 vW
  bt : Boxed W (w.heap.size + 1) 9 (.string s)
  bc : Boxed W b7 30 (.slice (some ⟨gC, 0, none⟩) (s.size + 1) (s.size + 1))
  be : Boxed W b8 50 (.slice (some ⟨gE, 0, none⟩) s.size s.size)
  bn : Boxed W b9 3 (.int .i64 (z : Int))
  rc : W.heap[gC]? = some (.cells (C.map (Value.int .i64)).toArray 2 (0, 0))
  re : W.heap[gE]? = some (.cells (E.map (Value.int .i64)).toArray 3 (0, 0))
  bx : Boxed W (b9 + 1) 50 vp
  bel : Below w.heap.size w W
theorem Fs.at {w W W' : World} {vW vp : Value} {s : ByteArray} {b7 b8 b9 gC gE : Nat} {C E : List Int} {z : Nat} (h : Fs w W vW vp s b7 b8 b9 gC gE C E z) (hk : ∀ (k : Nat) (o : Obj), W.heap[k]? = some o → o.isCells = true → W'.heap[k]? = some o) (hb : Below w.heap.size w W') : Fs w W' vW vp s b7 b8 b9 gC gE C E z :=
  ⟨hk _ _ h.bw rfl, hk _ _ h.bt rfl, hk _ _ h.bc rfl, hk _ _ h.be rfl, hk _ _ h.bn rfl, hk _ _ h.rc rfl, hk _ _ h.re rfl, hk _ _ h.bx rfl, hb⟩
theorem Fs.below {w W W' : World} {vW vp : Value} {s : ByteArray} {b7 b8 b9 gC gE : Nat} {C E : List Int} {z : Nat} (h : Fs w W vW vp s b7 b8 b9 gC gE C E z) (hb : Below W.heap.size W W') : Fs w W' vW vp s b7 b8 b9 gC gE C E z :=
  h.at (fun k o hk _ => (hb.block k (Array.getElem?_eq_some_iff.1 hk).1).trans hk) (h.bel.trans (hb.mono h.bel.size))
theorem tys : (2 : TypeId) ≠ 23 ∧ (2 : TypeId) ≠ 9 ∧ (2 : TypeId) ≠ 30 ∧ (2 : TypeId) ≠ 50 ∧ (2 : TypeId) ≠ 3 ∧ (3 : TypeId) ≠ 23 ∧ (3 : TypeId) ≠ 9 ∧ (3 : TypeId) ≠ 30 ∧ (3 : TypeId) ≠ 50 := by decide
theorem Fs.setC {w W : World} {vW vp : Value} {s : ByteArray} {b7 b8 b9 gC gE : Nat} {C E : List Int} {z : Nat} (h : Fs w W vW vp s b7 b8 b9 gC gE C E z) (hlo : w.heap.size ≤ gC) (k : Nat) (x : Int) : Fs w (W.setCell ⟨gC, k, none⟩ (.int .i64 x)) vW vp s b7 b8 b9 gC gE (C.set k x) E z := by
  obtain ⟨t1, t2, t3, t4, t5, t6, t7, t8, t9⟩ := tys
  have ho : ∀ {j : Nat} {o : Obj}, W.heap[j]? = some o → j ≠ gC → (W.setCell ⟨gC, k, none⟩ (.int .i64 x)).heap[j]? = some o := fun hj hne => (heap_setCell_other W ⟨gC, k, none⟩ _ _ hne).trans hj
  refine ⟨ho h.bw (ne_ty h.rc h.bw t1).symm, ho h.bt (ne_ty h.rc h.bt t2).symm, ho h.bc (ne_ty h.rc h.bc t3).symm, ho h.be (ne_ty h.rc h.be t4).symm, ho h.bn (ne_ty h.rc h.bn t5).symm, ?_, ho h.re (ne_ty h.rc h.re t5).symm, ho h.bx (ne_ty h.rc h.bx t4).symm, h.bel.setCell (p := ⟨gC, k, none⟩) hlo _⟩
  have := heap_setCell_same W gC k _ 2 (.int .i64 x) h.rc
  rw [List.map_set]
  simpa using this
theorem Fs.setE {w W : World} {vW vp : Value} {s : ByteArray} {b7 b8 b9 gC gE : Nat} {C E : List Int} {z : Nat} (h : Fs w W vW vp s b7 b8 b9 gC gE C E z) (hlo : w.heap.size ≤ gE) (hne : b9 ≠ gE) (k : Nat) (x : Int) : Fs w (W.setCell ⟨gE, k, none⟩ (.int .i64 x)) vW vp s b7 b8 b9 gC gE C (E.set k x) z := by
  obtain ⟨t1, t2, t3, t4, t5, t6, t7, t8, t9⟩ := tys
  have ho : ∀ {j : Nat} {o : Obj}, W.heap[j]? = some o → j ≠ gE → (W.setCell ⟨gE, k, none⟩ (.int .i64 x)).heap[j]? = some o := fun hj hne => (heap_setCell_other W ⟨gE, k, none⟩ _ _ hne).trans hj
  refine ⟨ho h.bw (ne_ty h.re h.bw t6).symm, ho h.bt (ne_ty h.re h.bt t7).symm, ho h.bc (ne_ty h.re h.bc t8).symm, ho h.be (ne_ty h.re h.be t9).symm, ho h.bn hne, ho h.rc (ne_ty h.rc h.re t5), ?_, ho h.bx (ne_ty h.re h.bx t9).symm, h.bel.setCell (p := ⟨gE, k, none⟩) hlo _⟩
  have := heap_setCell_same W gE k _ 3 (.int .i64 x) h.re
  rw [List.map_set]
  simpa using this
theorem Fs.setN {w W : World} {vW vp : Value} {s : ByteArray} {b7 b8 b9 gC gE : Nat} {C E : List Int} {z : Nat} (h : Fs w W vW vp s b7 b8 b9 gC gE C E z) (hlo : w.heap.size ≤ b9) (hne : b9 ≠ gE) (y : Nat) : Fs w (W.setCell ⟨b9, 0, none⟩ (.int .i64 (y : Int))) vW vp s b7 b8 b9 gC gE C E y := by
  obtain ⟨t1, t2, t3, t4, t5, t6, t7, t8, t9⟩ := tys
  have ho : ∀ {j : Nat} {o : Obj}, W.heap[j]? = some o → j ≠ b9 → (W.setCell ⟨b9, 0, none⟩ (.int .i64 (y : Int))).heap[j]? = some o := fun hj hne => (heap_setCell_other W ⟨b9, 0, none⟩ _ _ hne).trans hj
  exact ⟨ho h.bw (ne_ty h.bn h.bw t6).symm, ho h.bt (ne_ty h.bn h.bt t7).symm, ho h.bc (ne_ty h.bn h.bc t8).symm, ho h.be (ne_ty h.bn h.be t9).symm, Boxed.set _ h.bn, ho h.rc (ne_ty h.rc h.bn t5), ho h.re (Ne.symm hne), ho h.bx (by omega), h.bel.setCell (p := ⟨b9, 0, none⟩) hlo _⟩
theorem Fs.own {α : Type} (w : World) (B : Nat) (vW vp : Value) (s : ByteArray) (b7 b8 b9 gC gE : Nat) (f : List α → List Int × List Int × Nat) (hB : w.heap.size ≤ B) : OwnFrom B (fun (pre : List α) W => Fs w W vW vp s b7 b8 b9 gC gE (f pre).1 (f pre).2.1 (f pre).2.2) := by
  intro pre W W' row hs hg hr
  refine hs.at (fun k o ho hc => (hg.block k (Array.getElem?_eq_some_iff.1 ho).1 (fun e => ?_)).trans ho) (ownFrom_below (β := Unit) (Nat.le_refl _) hB () W W' row hs.bel hg hr)
  obtain ⟨_, o', ho', hc'⟩ := hr k e.symm
  rw [ho] at ho'
  cases ho'
  rw [hc] at hc'
  cases hc'
theorem own_set {W : World} {B n g k : Nat} {e : TypeId} {v x : Value} {xs : List Value} (h : W.ownsRow B e 1 v n xs) (hg : g < B) : (W.setCell ⟨g, k, none⟩ x).ownsRow B e 1 v n xs := by
  refine ⟨h.1, ?_⟩
  rcases h.2 with h' | ⟨q, cp, cur, hv, hq, hh, r⟩
  · exact .inl h'
  · exact .inr ⟨q, cp, cur, hv, hq, (heap_setCell_other W ⟨g, k, none⟩ q x (by show q ≠ g; omega)).trans hh, r⟩
/-- What a round keeps of the world that it began with. -/
structure Kx (B bp Bs : Nat) (W W' : World) : Prop where
  kf : KeepsFrom B W W'
  kq : Kq bp Bs W W'
theorem Kx.refl (B bp Bs : Nat) (W : World) : Kx B bp Bs W W := ⟨⟨Nat.le_refl _, fun _ _ _ h _ => h⟩, Kq.refl _ _ _⟩
theorem Kx.below {B bp Bs : Nat} {W W' W'' : World} (h : Kx B bp Bs W W') (hb : Below W'.heap.size W' W'') (h1 : bp < W'.heap.size) (h2 : Bs < W'.heap.size) : Kx B bp Bs W W'' :=
  ⟨h.kf.trans (keeps_of hb), h.kq.trans ⟨hb.block _ h1, hb.block _ h2⟩⟩
theorem Kx.set {B bp Bs : Nat} {W W' : World} (h : Kx B bp Bs W W') (g k : Nat) (x : Value) (h1 : bp ≠ g) (h2 : Bs ≠ g) : Kx B bp Bs W (W'.setCell ⟨g, k, none⟩ x) :=
  ⟨h.kf.trans ((KeepsOthers.setCell _ ⟨g, k, none⟩ x).from _), h.kq.trans ⟨heap_setCell_other W' ⟨g, k, none⟩ bp x h1, heap_setCell_other W' ⟨g, k, none⟩ Bs x h2⟩⟩
set_option maxRecDepth 100000 in
set_option maxHeartbeats 40000000 in
theorem ends_in (v : Value) (W : List ByteArray) (s : ByteArray) (w : World) (hv : StrsAt w v W) (hW : Wr W) (hs : s.size ≤ 65536) (h0 : 0 < s.size) :
    CallsIn Fence.wide 5 Tryd.prog 28 #[v, .string s] w fun e w' => ∃ u E, e = .returned u ∧ IntsAt w' u E ∧ E.length = s.size ∧ (∀ i, i < (pts s).length → nth E (pl s i) = ((pl s (i + (be (iw s W) (pts s).length i).2) : Nat) : Int)) ∧ Below w.heap.size w w' := by
  have h1 : 1 ≤ 5 := by omega
  obtain ⟨i0, hi0, hz0, hz1, hz2⟩ := info_parts info3
  have mixed : Tryd.prog.follows Departure.mixedOrders = true := by kernel_rfl
  have HV := hide hv
  have HW := hide hW
  obtain ⟨av, cap, rfl, _⟩ := hv
  clear hW
  have hn := Nat.le_trans (pts_le s) hs
  have hn0 : 0 < (pts s).length := by
    rcases Nat.eq_zero_or_pos (pts s).length with h | h
    · have := pl_end s
      rw [h] at this
      have e : pl s 0 = 0 := rfl
      omega
    · exact h
  refine callsIn_of_wp_marks Tryd.func28 rfl trivial ?_ rfl
  simp only [Tryd.ntmps28, List.size_toArray, List.length_cons, List.length_nil, Nat.reduceAdd, Nat.reduceSub, Array.replicate_succ, Array.replicate_zero, List.push_toArray, List.append_toArray, List.nil_append, List.cons_append]
  have P0 := hide (Pk.first w (.slice av W.length cap) s)
  gi_wp2
  generalize (((w.alloc (Obj.cells #[.slice av W.length cap] 23)).alloc (.cells #[.string s] 9)).iter s 0) = wi at *
  gi_loopw [5] (fun v5 wr => ∃ m : Nat, m ≤ (pts s).length ∧ Hid (Pk w wr (.slice av W.length cap) s m (pl s m) v5)) (fun _ wr => s.size - wr.iterPos (w.heap.size + 2))
  case atStart => exact ⟨0, by omega, P0⟩
  case round =>
    obtain ⟨m, hm, HP⟩ := hrel
    clear P0
    have HM := hide (iterPos_of (unhide HP).it)
    have hlt2 : w.heap.size + 2 < wr.heap.size := (Array.getElem?_eq_some_iff.1 (unhide HP).it).1
    by_cases hlt : pl s m < s.size
    · have hmn : m < (pts s).length := by
        rcases Nat.lt_or_eq_of_le hm with h | h
        · exact h
        · rw [h, pl_end] at hlt; omega
      have HNX := hide (pl_next hlt)
      have hbd := dN_bd s (pl s m) hlt
      have d1 := hbd.1
      have d2 := hbd.2.1
      have hnx : ∀ ty, (Instr.next (.pointer (some ⟨w.heap.size + 1 + 1, 0, none⟩)) true ty).run Tryd.prog wr = .ok (.tuple #[.bool true, .int .i64 (pl s m), .int .i32 (dP s (pl s m))]) (wr.iterAt (w.heap.size + 2) s (pl s m + dN s (pl s m))) := fun ty => Lib.run_next_any_at wr _ s (pl s m) ty (unhide HP).it hlt
      have P2 := hide ((unhide HP).at (pl s m + dN s (pl s m)))
      obtain ⟨w2, hw2⟩ : ∃ w2, wr.iterAt (w.heap.size + 2) s (pl s m + dN s (pl s m)) = w2 := ⟨_, rfl⟩
      rw [hw2] at hnx P2
      have hz : w.heap.size + 2 < w2.heap.size := (Array.getElem?_eq_some_iff.1 (unhide P2).it).1
      have hpm := pl_le s m
      clear hw2 hbd
      rw [← unhide HNX] at P2 d2
      gi_wp2_with (gi_at_builtin; go_loud (refine wpListIn_app _ rfl _ _ 50 rfl (w.heap.size + 3) 3 i0 (.int .i64 0) 1 8 Tryd.underlying50 hi0 hz0 hz1 hz2 rfl (by decide) _ _ _ rfl (ownG_alloc (unhide P2).row _) ⟨w2.heap.size, 0, none⟩ 1 1 [.int .i64 (pl s m : Int)] rfl rfl ?c1 ?c2 ?c3 ?c4 ?c5 ?_); rotate_left 5; intro v' w4 hown' hgrow)
      case c1 => exact cell_one_new _ _ _
      case c2 => first | rfl | (intro u hu; simp at hu; subst hu; rfl)
      case c3 => first | omega | (unfold maxLen; omega)
      case c4 => omega
      case c5 => first | omega | (simp; omega)
      have P4 := hide ((unhide P2).app hown' hgrow)
      have HM4 := hide (iterPos_of (unhide P4).it)
      clear hown' hgrow
      go_roundw
      case rel => exact ⟨m + 1, by omega, P4⟩
      case measure => rw [unhide HM, unhide HM4]; have := unhide HNX; omega
    · obtain rfl : m = (pts s).length := by
        rcases Nat.lt_or_eq_of_le hm with h | h
        · exact absurd (pl_in h) hlt
        · exact h
      have hnx : ∀ ty, (Instr.next (.pointer (some ⟨w.heap.size + 1 + 1, 0, none⟩)) true ty).run Tryd.prog wr = .ok (.tuple #[.bool false]) wr := fun ty => Lib.run_next_end_at wr _ s (pl s (pts s).length) ty (unhide HP).it hlt
      gi_wp2_with fail
      have hmk1 := fun V => makeC (s.size + 1) (by omega) V
      have hmk2 := fun V => makeF s.size (by omega) V
      rw [show ((s.size + 1 : Nat) : Int) = (s.size : Int) + 1 by omega] at hmk1
      have HBT := hide (unhide HP).bt
      have hblt := (unhide HP).bt.lt
      have hd2 : (2 : TypeId) ≠ 30 := by decide
      have hd3 : (3 : TypeId) ≠ 30 := by decide
      have hd4 : (2 : TypeId) ≠ 50 := by decide
      have hd5 : (3 : TypeId) ≠ 50 := by decide
      have hd6 : (30 : TypeId) ≠ 50 := by decide
      refine region_inv mixed (fun l a w' => ∃ (b0 b1 b2 b3 b4 b5 b6 b7 b8 b9 b10 : Bool) (g3 g6 g7 g8 : Nat), l = #[b0, b1, b2, b3, b4, b5, b6, b7, b8, b9, b10] ∧ a = { tmps := #[.slice av W.length cap, .string s, .pointer (some ⟨w.heap.size, 0, none⟩), .pointer (some ⟨w.heap.size + 1, 0, none⟩), .slice none 0 0, u5, u6, (bif b7 then .pointer (some ⟨g7, 0, none⟩) else undef), (bif b8 then .pointer (some ⟨g8, 0, none⟩) else undef), undef, undef, undef, undef, undef, undef, .string s, .pointer (some ⟨w.heap.size + 1 + 1, 0, none⟩), .tuple #[.bool false], .bool false, u19, u20, u21, u22, u23, (bif b0 then .string s else undef), (bif b1 then .int .i64 (s.size : Int) else undef), (bif b2 then .int .i64 ((s.size : Int) + 1) else undef), (bif b3 then .slice (some ⟨g3, 0, none⟩) (s.size + 1) (s.size + 1) else undef), (bif b4 then .string s else undef), (bif b5 then .int .i64 (s.size : Int) else undef), (bif b6 then .slice (some ⟨g6, 0, none⟩) s.size s.size else undef), undef, undef, undef, undef, undef, undef, undef, undef, undef, undef, undef, undef, undef, undef, undef, undef, undef, undef, undef, undef, undef, undef, undef, undef, undef, undef, undef, undef, undef, undef, undef, undef, undef, undef, undef, undef, undef, undef, undef, undef, undef, undef, undef, undef, undef, undef, undef, undef, undef], defers := [] } ∧ (b9 = true → b3 = true ∧ b7 = true) ∧ (b10 = true → b6 = true ∧ b8 = true) ∧ M6 wr w' s b3 b6 b7 b8 b9 b10 g3 g6 g7 g8) (by kernel_rfl) (by rintro l a w' ⟨_, _, _, _, _, _, _, _, _, _, _, _, _, _, _, rfl, _⟩; rfl) ?first ?step ?last
      case first => exact ⟨false, false, false, false, false, false, false, false, false, false, false, 0, 0, 0, 0, rfl, rfl, (fun e => by cases e), (fun e => by cases e), ⟨⟨rfl, rfl, rfl, Nat.le_refl _, fun _ _ => rfl⟩, (fun e => by cases e), (fun e => by cases e), (fun e => by cases e), (fun e => by cases e)⟩⟩
      case step =>
        rintro i l a w' ⟨b0, b1, b2, b3, b4, b5, b6, b7, b8, b9, b10, g3, g6, g7, g8, rfl, rfl, h93, h10, hM⟩ hr
        have hr := mem_ready.1 hr
        have ht := (hM.bel.block _ hblt).trans (unhide HBT)
        have ht0 := Boxed.cell ht
        have hws : IntKind.i64.wrap ((s.size : Int) + 1) = (s.size : Int) + 1 := by rw [show (s.size : Int) + 1 = ((s.size + 1 : Nat) : Int) by omega]; exact wrapN _ (by omega)
        rcases i with _ | _ | _ | _ | _ | _ | _ | _ | _ | _ | _ | i
        · simp [Region.binds] at hr
          repeat (rcases hr with ⟨hq, hr⟩)
          subst_vars
          refine wpOpIn_step rfl (fun K hK => ?_)
          go_simp
          refine hK _ _ ⟨true, _, _, _, _, _, _, _, _, _, _, _, _, _, _, rfl, rfl, h93, h10, hM⟩
        · simp [Region.binds] at hr
          repeat (rcases hr with ⟨hq, hr⟩)
          subst_vars
          refine wpOpIn_step rfl (fun K hK => ?_)
          go_simp
          refine hK _ _ ⟨_, true, _, _, _, _, _, _, _, _, _, _, _, _, _, rfl, rfl, h93, h10, hM⟩
        · simp [Region.binds] at hr
          repeat (rcases hr with ⟨hq, hr⟩)
          subst_vars
          refine wpOpIn_step rfl (fun K hK => ?_)
          go_simp
          refine hK _ _ ⟨_, _, true, _, _, _, _, _, _, _, _, _, _, _, _, rfl, rfl, h93, h10, hM⟩
        · simp [Region.binds] at hr
          repeat (rcases hr with ⟨hq, hr⟩)
          subst_vars
          refine wpOpIn_step rfl (fun K hK => ?_)
          go_simp
          refine hK _ _ ⟨_, _, _, true, _, _, _, _, _, _, _, w'.heap.size, g6, g7, g8, rfl, rfl, (fun e => by have := (h93 e).1; cases this), h10, { hM.al _ with m3 := fun _ => ⟨hM.bel.size, heap_alloc_last w' _⟩, m7 := fun e => ⟨(hM.m7 e).1, by cases b9 with | false => exact ((hM.al _).m7 e).2 | true => have := (h93 rfl).1; cases this⟩ }⟩
        · simp [Region.binds] at hr
          repeat (rcases hr with ⟨hq, hr⟩)
          subst_vars
          refine wpOpIn_step rfl (fun K hK => ?_)
          go_simp
          refine hK _ _ ⟨_, _, _, _, true, _, _, _, _, _, _, _, _, _, _, rfl, rfl, h93, h10, hM⟩
        · simp [Region.binds] at hr
          repeat (rcases hr with ⟨hq, hr⟩)
          subst_vars
          refine wpOpIn_step rfl (fun K hK => ?_)
          go_simp
          refine hK _ _ ⟨_, _, _, _, _, true, _, _, _, _, _, _, _, _, _, rfl, rfl, h93, h10, hM⟩
        · simp [Region.binds] at hr
          repeat (rcases hr with ⟨hq, hr⟩)
          subst_vars
          refine wpOpIn_step rfl (fun K hK => ?_)
          go_simp
          refine hK _ _ ⟨_, _, _, _, _, _, true, _, _, _, _, g3, w'.heap.size, g7, g8, rfl, rfl, h93, (fun e => by have := (h10 e).1; cases this), { hM.al _ with m6 := fun _ => ⟨hM.bel.size, heap_alloc_last w' _⟩, m8 := fun e => ⟨(hM.m8 e).1, by cases b10 with | false => exact ((hM.al _).m8 e).2 | true => have := (h10 rfl).1; cases this⟩ }⟩
        · simp [Region.binds] at hr
          repeat (rcases hr with ⟨hq, hr⟩)
          subst_vars
          refine wpOpIn_step rfl (fun K hK => ?_)
          go_simp
          refine hK _ _ ⟨_, _, _, _, _, _, _, true, _, _, _, g3, g6, w'.heap.size, g8, rfl, rfl, (fun e => by have := (h93 e).2; cases this), h10, { hM.al _ with m7 := fun _ => ⟨hM.bel.size, by cases b9 with | false => exact heap_alloc_last w' _ | true => have := (h93 rfl).2; cases this⟩ }⟩
        · simp [Region.binds] at hr
          repeat (rcases hr with ⟨hq, hr⟩)
          subst_vars
          refine wpOpIn_step rfl (fun K hK => ?_)
          go_simp
          refine hK _ _ ⟨_, _, _, _, _, _, _, _, true, _, _, g3, g6, g7, w'.heap.size, rfl, rfl, h93, (fun e => by have := (h10 e).2; cases this), { hM.al _ with m8 := fun _ => ⟨hM.bel.size, by cases b10 with | false => exact heap_alloc_last w' _ | true => have := (h10 rfl).2; cases this⟩ }⟩
        · simp [Region.binds] at hr
          repeat (rcases hr with ⟨hq, hr⟩)
          subst_vars
          obtain ⟨k1, k2⟩ := hM.m7 rfl
          have k3 := hM.m3 rfl
          have c7 := Boxed.cell k2
          have f7 := Boxed.frozen k2
          refine wpOpIn_step rfl (fun K hK => ?_)
          go_simp
          refine hK _ _ ⟨_, _, _, _, _, _, _, _, _, true, _, _, _, _, _, rfl, rfl, (fun _ => ⟨rfl, rfl⟩), h10, ⟨hM.bel.setCell (p := ⟨g7, 0, none⟩) k1 _, fun _ => ⟨k3.1, (heap_setCell_other w' ⟨g7, 0, none⟩ g3 _ (ne_ty k3.2 k2 hd2)).trans k3.2⟩, fun e => ⟨(hM.m6 e).1, (heap_setCell_other w' ⟨g7, 0, none⟩ g6 _ (ne_ty (hM.m6 e).2 k2 hd3)).trans (hM.m6 e).2⟩, fun _ => ⟨k1, Boxed.set _ k2⟩, fun e => ⟨(hM.m8 e).1, Boxed.other (hM.m8 e).2 (ne_ty (hM.m8 e).2 k2 (Ne.symm hd6)) _⟩⟩⟩
        · simp [Region.binds] at hr
          repeat (rcases hr with ⟨hq, hr⟩)
          subst_vars
          obtain ⟨k1, k2⟩ := hM.m8 rfl
          have k3 := hM.m6 rfl
          have c7 := Boxed.cell k2
          have f7 := Boxed.frozen k2
          refine wpOpIn_step rfl (fun K hK => ?_)
          go_simp
          refine hK _ _ ⟨_, _, _, _, _, _, _, _, _, _, true, _, _, _, _, rfl, rfl, h93, (fun _ => ⟨rfl, rfl⟩), ⟨hM.bel.setCell (p := ⟨g8, 0, none⟩) k1 _, fun e => ⟨(hM.m3 e).1, (heap_setCell_other w' ⟨g8, 0, none⟩ g3 _ (ne_ty (hM.m3 e).2 k2 hd4)).trans (hM.m3 e).2⟩, fun _ => ⟨k3.1, (heap_setCell_other w' ⟨g8, 0, none⟩ g6 _ (ne_ty k3.2 k2 hd5)).trans k3.2⟩, fun e => ⟨(hM.m7 e).1, Boxed.other (hM.m7 e).2 (ne_ty (hM.m7 e).2 k2 hd6) _⟩, fun _ => ⟨k1, Boxed.set _ k2⟩⟩⟩
        · simp at hr
      case last =>
        rintro a W1 ⟨f0, f1, f2, f3, f4, f5, f6, f7, f8, f9, f10, gC, gE, b7, b8, hl, rfl, _, _, hM⟩
        have hl := congrArg Array.toList hl
        simp at hl
        repeat (rcases hl with ⟨hq, hl⟩)
        subst_vars
        obtain ⟨hgC, hC⟩ := hM.m3 rfl
        obtain ⟨hgE, hE⟩ := hM.m6 rfl
        obtain ⟨hb7, h7⟩ := hM.m7 rfl
        obtain ⟨hb8, h8⟩ := hM.m8 rfl
        have hbel := hM.bel
        obtain ⟨bp, cp, rfl, hbp, hbpl, hbpc⟩ : ∃ bp cp, u5 = .slice (some ⟨bp, 0, none⟩) (pts s).length cp ∧ w.heap.size + 3 ≤ bp ∧ bp < wr.heap.size ∧ ∀ i, i < (pts s).length → wr.cell? ⟨bp, 0 + i, none⟩ = some (.int .i64 (pl s i : Int)) := by
          have hrow := (unhide HP).row
          rcases hrow.2 with ⟨_, h'⟩ | ⟨g, cp, cur, hv, hg, hh, r⟩
          · omega
          · refine ⟨g, cp, hv, hg, (Array.getElem?_eq_some_iff.1 hh).1, fun i hi => ?_⟩
            subst hv
            have hc := hrow.cellAt i (by omega)
            rw [Nat.zero_add, hc, List.getElem?_map]
            simp [plk, hi]
        simp only [cond_true] at h7 h8 ⊢
        have hbw := (hbel.block _ (unhide HP).bw.lt).trans (unhide HP).bw
        have hbt := (hbel.block _ (unhide HP).bt.lt).trans (unhide HP).bt
        have ht0 := Boxed.cell hbt
        have hBW := hide ((unhide HP).bel.trans (hbel.mono (unhide HP).bel.size))
        have hwr := (unhide HP).bel.size
        have hpc : ∀ i, i < (pts s).length → W1.cell? ⟨bp, 0 + i, none⟩ = some (.int .i64 (pl s i : Int)) := fun i hi => (hbel.cell (p := ⟨bp, 0 + i, none⟩) hbpl).trans (hbpc i hi)
        have hpl1 := Nat.lt_of_lt_of_le hbpl hbel.size
        clear hM HP HBT hmk1 hmk2 hnx hbpc
        gi_wp2_with (refine ⟨trivial, ?_⟩; gi_at_call 36; refine ((callsIn_wide (n := 4)).2 (backward_any _ _ _ _)).mono ?_; rintro e W2 ⟨rfl, hW2⟩; replace hW2 := hW2.symm; subst hW2)
        obtain ⟨b9, hb9⟩ : ∃ b9, W1.heap.size = b9 := ⟨_, rfl⟩
        have hW1s := (unhide hBW).size
        have hBW0 : Below w.heap.size w ((W1.alloc (.cells #[.int .i64 (s.size : Int)] 3)).alloc (.cells #[.slice (some ⟨bp, 0, none⟩) (pts s).length cp] 50)) := ((unhide hBW).alloc hW1s _).alloc (by simp; omega) _
        have hk0 : ∀ {k : Nat} {o : Obj}, W1.heap[k]? = some o → ((W1.alloc (.cells #[.int .i64 (s.size : Int)] 3)).alloc (.cells #[.slice (some ⟨bp, 0, none⟩) (pts s).length cp] 50)).heap[k]? = some o := fun hk => (Below.heap_alloc _ _ _ (by have := (Array.getElem?_eq_some_iff.1 hk).1; simp; omega)).trans ((Below.heap_alloc W1 _ _ (Array.getElem?_eq_some_iff.1 hk).1).trans hk)
        have hn9 : Boxed ((W1.alloc (.cells #[.int .i64 (s.size : Int)] 3)).alloc (.cells #[.slice (some ⟨bp, 0, none⟩) (pts s).length cp] 50)) W1.heap.size 3 (.int .i64 (s.size : Int)) := (Boxed.new W1 3 _).alloc _
        have hnx9 : Boxed ((W1.alloc (.cells #[.int .i64 (s.size : Int)] 3)).alloc (.cells #[.slice (some ⟨bp, 0, none⟩) (pts s).length cp] 50)) (W1.heap.size + 1) 50 (.slice (some ⟨bp, 0, none⟩) (pts s).length cp) := by
          have := Boxed.new (W1.alloc (.cells #[.int .i64 (s.size : Int)] 3)) 50 (.slice (some ⟨bp, 0, none⟩) (pts s).length cp)
          simpa using this
        have F0 : Fs w ((W1.alloc (.cells #[.int .i64 (s.size : Int)] 3)).alloc (.cells #[.slice (some ⟨bp, 0, none⟩) (pts s).length cp] 50)) (.slice av W.length cap) (.slice (some ⟨bp, 0, none⟩) (pts s).length cp) s b7 b8 W1.heap.size gC gE (List.replicate (s.size + 1) 0) (List.replicate s.size 0) s.size :=
          ⟨hk0 hbw, hk0 hbt, hk0 h7, hk0 h8, hn9, (hk0 hC).trans (by simp), (hk0 hE).trans (by simp), hnx9, hBW0⟩
        have hpc0 : ∀ i, i < (pts s).length → ((W1.alloc (.cells #[.int .i64 (s.size : Int)] 3)).alloc (.cells #[.slice (some ⟨bp, 0, none⟩) (pts s).length cp] 50)).cell? ⟨bp, 0 + i, none⟩ = some (.int .i64 (pl s i : Int)) := fun i hi => ((al1 (W1.alloc (.cells #[.int .i64 (s.size : Int)] 3)) _).cell (p := ⟨bp, 0 + i, none⟩) (by show bp < _; simp; omega)).trans (((al1 W1 _).cell (p := ⟨bp, 0 + i, none⟩) hpl1).trans (hpc i hi))
        have hsz0 : ((W1.alloc (.cells #[.int .i64 (s.size : Int)] 3)).alloc (.cells #[.slice (some ⟨bp, 0, none⟩) (pts s).length cp] 50)).heap.size = W1.heap.size + 2 := by simp
        have hgEl : gE < W1.heap.size := (Array.getElem?_eq_some_iff.1 hE).1
        have hgCl : gC < W1.heap.size := (Array.getElem?_eq_some_iff.1 hC).1
        generalize ((W1.alloc (.cells #[.int .i64 (s.size : Int)] 3)).alloc (.cells #[.slice (some ⟨bp, 0, none⟩) (pts s).length cp] 50)) = W0 at *
        rw [hb9] at F0 hsz0 hgEl hgCl hpl1 hW1s ⊢
        have hbpE : bp ≠ gE := by omega
        have hbpC : bp ≠ gC := by omega
        have hbp9 : bp ≠ b9 := by omega
        have hE9 : b9 ≠ gE := by omega
        have hloC : w.heap.size ≤ gC := by omega
        have hloE : w.heap.size ≤ gE := by omega
        have hlo9 : w.heap.size ≤ b9 := by omega
        have HRO := hide (rn_ok s W)
        clear hk0 hn9 hnx9 hbw hbt h7 h8 hC hE hb9 hpc ht0 hbel hgC hgE hb7 hb8
        refine wpIn_rangeFunc_ownH rfl h1 (gf := 42) (lb := #[.pointer (some ⟨b9 + 1, 0, none⟩)]) rfl trivial (enters_of Tryd.func42 (by kernel_rfl) rfl)
          (back_stops 4 (b9 + 1) bp 0 (pts s).length cp hn0 (by omega) (fun i => (pl s i : Int)) W0 (by omega) (by omega) F0.bx.cell hpc0) Kq.trans (kq_b (by omega) (by omega)) (Below.refl _ _) (fun _ => rfl)
          (fun pre V => Fs w V (.slice av W.length cap) (.slice (some ⟨bp, 0, none⟩) (pts s).length cp) s b7 b8 b9 gC gE (rn s W (pre.map (·.1))).1 (rn s W (pre.map (·.1))).2.1 (rn s W (pre.map (·.1))).2.2)
          (fun _ _ _ => False)
          (Fs.own w _ _ _ _ _ _ _ _ _ (fun (pre : List (Pl (pts s).length)) => rn s W (pre.map (·.1))) hBW0.size) (fun c => fun _ _ _ _ h => h.elim)
          F0
          (fun x a' _ => a' = { tmps := #[.slice av W.length cap, .string s, .pointer (some ⟨w.heap.size, 0, none⟩), .pointer (some ⟨w.heap.size + 1, 0, none⟩), .slice none 0 0, .slice (some ⟨bp, 0, none⟩) (pts s).length cp, u6, .pointer (some ⟨b7, 0, none⟩), .pointer (some ⟨b8, 0, none⟩), .pointer (some ⟨b9, 0, none⟩), undef, .int .i64 (pl s x.1 : Int), undef, undef, undef, .string s, .pointer (some ⟨w.heap.size + 1 + 1, 0, none⟩), .tuple #[.bool false], .bool false, u19, u20, u21, u22, u23, .string s, .int .i64 (s.size : Int), .int .i64 ((s.size : Int) + 1), .slice (some ⟨gC, 0, none⟩) (s.size + 1) (s.size + 1), .string s, .int .i64 (s.size : Int), .slice (some ⟨gE, 0, none⟩) s.size s.size, .string s, .int .i64 (s.size : Int), .slice (some ⟨bp, 0, none⟩) (pts s).length cp, .func (.func 42) #[] #[.pointer (some ⟨b9 + 1, 0, none⟩)], .int .i64 (x.1 : Int), .int .i64 (pl s x.1 : Int), undef, undef, undef, undef, undef, undef, undef, undef, undef, undef, undef, undef, undef, undef, undef, undef, undef, undef, undef, undef, undef, undef, undef, undef, undef, undef, undef, undef, undef, undef, undef, undef, undef, undef, undef, undef, undef, undef, undef, undef, undef, undef, undef], defers := [] })
          (fun x a' _ _ _ _ h _ _ => h)
          ?assign ?body ?done ?stop
        case stop =>
          rintro D c pre V hD _ h
          exact h.elim
        case assign =>
          rintro l pre x V K hi hK
          unfold encP
          dsimp only
          gi_wp2
          exact hK _ _ ⟨Nat.le_refl _, fun _ _ _ h _ => h⟩ (Kq.refl _ _ _) hi rfl
        case done =>
          rintro D xs V hD hS hI hK
          rw [hS] at hI
          have hG := rn_good (unhide HW) hs (pts s).length (Nat.le_refl _)
          rw [Nat.sub_self] at hG
          obtain ⟨hl1, hl2, hl3⟩ := (unhide HRO) (down (pts s).length (pts s).length)
          have hes : ∀ i, i < (pts s).length → nth (rn s W (down (pts s).length (pts s).length)).2.1 (pl s i) = ((pl s (i + (be (iw s W) (pts s).length i).2) : Nat) : Int) := fun i hi => hG.es i (Nat.zero_le _) hi
          generalize rn s W (down (pts s).length (pts s).length) = S at *
          have n0 := hI.be.cell
          have hoth : ∀ k, k ≠ D → (V.putObj D (.deferred none)).heap[k]? = V.heap[k]? := fun k hk => World.putObj_heap_other (by intro e; exact hk (by omega))
          have hre := (hoth gE (by omega)).trans hI.re
          have hin : IntsAt (V.putObj D (.deferred none)) (.slice (some ⟨gE, 0, none⟩) s.size s.size) S.2.1 := ⟨some ⟨gE, 0, none⟩, s.size, by rw [hl2], .inr ⟨gE, 0, rfl, (Array.getElem?_eq_some_iff.1 hre).1, fun i hi => by rw [Nat.zero_add]; exact (cell_of hre hi).1⟩⟩
          gi_wp2
          refine ⟨by simp, .inl ⟨_, _, rfl, run_takeDeferred hK, ?_⟩⟩
          refine ⟨.slice (some ⟨gE, 0, none⟩) s.size s.size, by simp [results, Tryd.results28, go_sem]; try rfl, ?_⟩
          exact ⟨_, S.2.1, rfl, hin, hl2, hes, hI.bel.trans (belowK_b (w := w) (Nat.le_refl _) V D _ _ (by omega) hK rfl rfl)⟩
        case body =>
          rintro l pre x a' V hl2 ⟨r, hr⟩ hI rfl hlt
          obtain ⟨i, hi⟩ := x
          dsimp only
          obtain ⟨hs1, hs2, hs3⟩ := (unhide HRO) (pre.map (·.1))
          have HMap : Hid (rn s W ((pre ++ [(⟨i, hi⟩ : Pl (pts s).length)]).map (·.1)) = tr1 s W (rn s W (pre.map (·.1))) i ∧ True) := hide ⟨by rw [List.map_append, List.map_cons, List.map_nil, rn_snoc], trivial⟩
          have HTR : Hid (tr1 s W (rn s W (pre.map (·.1))) i = ((rn s W (pre.map (·.1))).1.set (pl s i) (bsI (rn s W (pre.map (·.1))).1 (rn s W (pre.map (·.1))).2.2 (eL s W (pl s i) 60)).1, (rn s W (pre.map (·.1))).2.1.set (pl s i) (bsI (rn s W (pre.map (·.1))).1 (rn s W (pre.map (·.1))).2.2 (eL s W (pl s i) 60)).2, pl s i) ∧ True) := hide ⟨rfl, trivial⟩
          generalize tr1 s W (rn s W (pre.map (·.1))) i = S2 at *
          generalize rn s W (pre.map (·.1)) = S at *
          obtain ⟨C, E, z⟩ := S
          simp only at hs1 hs2 hs3 HTR hI
          have hp := pl_in hi
          have HEI := hide (fun e => @eL_in s W (pl s i) e)
          have CE := hide (fun X h => wordEnds_any (.slice av W.length cap) W s (pl s i) X h (unhide HW) hs (by omega))
          generalize hLw : eL s W (pl s i) 60 = Lw at *
          have hLl : Lw.length ≤ 60 := by rw [← hLw]; exact eL_len _ _ _ _
          have HBT := hide (fun t h => @bsI_take C z Lw t h)
          obtain ⟨c, hc⟩ : ∃ c, nth C z = c := ⟨_, rfl⟩
          have HB0 : Hid (bsI C z (Lw.take 0) = (wr64 (c + 3), (z : Int))) := hide (by rw [← hc]; rfl)
          generalize pl s i = p at *
          have HC := hide (And.intro hc trivial)
          clear hLw hc HRO
          have hzc : (z : Int) < (s.size : Int) + 1 := by omega
          have hpc : (p : Int) < (s.size : Int) + 1 := by omega
          have hps : (p : Int) < (s.size : Int) := by omega
          gi_wp2_with fail
          refine region_inv mixed (fun l a w' => ∃ (b0 b1 b2 b3 b4 b5 b6 b7' b8' b9' b10 b11 b12 b13 : Bool), l = #[b0, b1, b2, b3, b4, b5, b6, b7', b8', b9', b10, b11, b12, b13] ∧ a = { tmps := #[.slice av W.length cap, .string s, .pointer (some ⟨w.heap.size, 0, none⟩), .pointer (some ⟨w.heap.size + 1, 0, none⟩), .slice none 0 0, .slice (some ⟨bp, 0, none⟩) (pts s).length cp, u6, .pointer (some ⟨b7, 0, none⟩), .pointer (some ⟨b8, 0, none⟩), .pointer (some ⟨b9, 0, none⟩), undef, .int .i64 (p : Int), undef, undef, undef, .string s, .pointer (some ⟨w.heap.size + 1 + 1, 0, none⟩), .tuple #[.bool false], .bool false, u19, u20, u21, u22, u23, .string s, .int .i64 (s.size : Int), .int .i64 ((s.size : Int) + 1), .slice (some ⟨gC, 0, none⟩) (s.size + 1) (s.size + 1), .string s, .int .i64 (s.size : Int), .slice (some ⟨gE, 0, none⟩) s.size s.size, .string s, .int .i64 (s.size : Int), .slice (some ⟨bp, 0, none⟩) (pts s).length cp, .func (.func 42) #[] #[.pointer (some ⟨b9 + 1, 0, none⟩)], .int .i64 (i : Int), .int .i64 (p : Int), (bif b0 then .slice (some ⟨gC, 0, none⟩) (s.size + 1) (s.size + 1) else undef), (bif b1 then .int .i64 (p : Int) else undef), (bif b2 then .slice (some ⟨gE, 0, none⟩) s.size s.size else undef), (bif b3 then .int .i64 (p : Int) else undef), (bif b4 then .slice (some ⟨gC, 0, none⟩) (s.size + 1) (s.size + 1) else undef), (bif b5 then .int .i64 (z : Int) else undef), (bif b6 then .pointer (some ⟨gC, z, none⟩) else undef), (bif b7' then .int .i64 c else undef), (bif b8' then .int .i64 (wr64 (c + 3)) else undef), (bif b9' then .int .i64 (z : Int) else undef), (bif b10 then .pointer (some ⟨gC, p, none⟩) else undef), (bif b12 then .pointer (some ⟨gE, p, none⟩) else undef), undef, undef, undef, undef, undef, undef, undef, undef, undef, undef, undef, undef, undef, undef, undef, undef, undef, undef, undef, undef, undef, undef, undef, undef, undef, undef, undef, undef, undef, undef, undef], defers := [] } ∧ (b11 = true → b7' = true) ∧ Fs w w' (.slice av W.length cap) (.slice (some ⟨bp, 0, none⟩) (pts s).length cp) s b7 b8 b9 gC gE (bif b11 then C.set p (wr64 (c + 3)) else C) (bif b13 then E.set p (z : Int) else E) z ∧ Kx W0.heap.size bp (b9 + 1) V w') (by kernel_rfl) (by rintro l a w' ⟨_, _, _, _, _, _, _, _, _, _, _, _, _, _, rfl, _⟩; rfl) ?first ?step ?last
          case first => exact ⟨false, false, false, false, false, false, false, false, false, false, false, false, false, false, rfl, rfl, (fun e => by cases e), hI.at (fun k o h _ => h) (bdrew hI.bel 1), ⟨⟨Nat.le_refl _, fun _ _ _ h _ => h⟩, ⟨rfl, rfl⟩⟩⟩
          case step =>
            rintro ii l a w' ⟨b0, b1, b2, b3, b4, b5, b6, b7', b8', b9', b10, b11, b12, b13, rfl, rfl, h117, hF, hX⟩ hr
            have hr := mem_ready.1 hr
            have k7 := hF.bc.cell
            have k8 := hF.be.cell
            have k9 := hF.bn.cell
            rcases ii with _ | _ | _ | _ | _ | _ | _ | _ | _ | _ | _ | _ | _ | _ | ii
            · simp [Region.binds] at hr
              repeat (rcases hr with ⟨hq, hr⟩)
              subst_vars
              refine wpOpIn_step rfl (fun K hK => ?_)
              go_simp
              refine hK _ _ ⟨true, _, _, _, _, _, _, _, _, _, _, _, _, _, rfl, rfl, h117, hF, hX⟩
            · simp [Region.binds] at hr
              repeat (rcases hr with ⟨hq, hr⟩)
              subst_vars
              refine wpOpIn_step rfl (fun K hK => ?_)
              go_simp
              refine hK _ _ ⟨_, true, _, _, _, _, _, _, _, _, _, _, _, _, rfl, rfl, h117, hF, hX⟩
            · simp [Region.binds] at hr
              repeat (rcases hr with ⟨hq, hr⟩)
              subst_vars
              refine wpOpIn_step rfl (fun K hK => ?_)
              go_simp
              refine hK _ _ ⟨_, _, true, _, _, _, _, _, _, _, _, _, _, _, rfl, rfl, h117, hF, hX⟩
            · simp [Region.binds] at hr
              repeat (rcases hr with ⟨hq, hr⟩)
              subst_vars
              refine wpOpIn_step rfl (fun K hK => ?_)
              go_simp
              refine hK _ _ ⟨_, _, _, true, _, _, _, _, _, _, _, _, _, _, rfl, rfl, h117, hF, hX⟩
            · simp [Region.binds] at hr
              repeat (rcases hr with ⟨hq, hr⟩)
              subst_vars
              refine wpOpIn_step rfl (fun K hK => ?_)
              go_simp
              refine hK _ _ ⟨_, _, _, _, true, _, _, _, _, _, _, _, _, _, rfl, rfl, h117, hF, hX⟩
            · simp [Region.binds] at hr
              repeat (rcases hr with ⟨hq, hr⟩)
              subst_vars
              refine wpOpIn_step rfl (fun K hK => ?_)
              go_simp
              refine hK _ _ ⟨_, _, _, _, _, true, _, _, _, _, _, _, _, _, rfl, rfl, h117, hF, hX⟩
            · simp [Region.binds] at hr
              repeat (rcases hr with ⟨hq, hr⟩)
              subst_vars
              refine wpOpIn_step rfl (fun K hK => ?_)
              go_simp
              refine hK _ _ ⟨_, _, _, _, _, _, true, _, _, _, _, _, _, _, rfl, rfl, h117, hF, hX⟩
            · simp [Region.binds] at hr
              repeat (rcases hr with ⟨hq, hr⟩)
              subst_vars
              have hb11 : b11 = false := by
                cases b11 with
                | false => rfl
                | true => have := h117 rfl; cases this
              subst hb11
              have kz := (cell_of hF.rc (j := z) (by show z < (C.length); omega)).1
              simp only [cond_false] at kz
              rw [(unhide HC).1] at kz
              refine wpOpIn_step rfl (fun K hK => ?_)
              go_simp
              refine hK _ _ ⟨_, _, _, _, _, _, _, true, _, _, _, _, _, _, rfl, rfl, (fun _ => rfl), hF, hX⟩
            · simp [Region.binds] at hr
              repeat (rcases hr with ⟨hq, hr⟩)
              subst_vars
              refine wpOpIn_step rfl (fun K hK => ?_)
              go_simp
              refine hK _ _ ⟨_, _, _, _, _, _, _, _, true, _, _, _, _, _, rfl, rfl, h117, hF, hX⟩
            · simp [Region.binds] at hr
              repeat (rcases hr with ⟨hq, hr⟩)
              subst_vars
              refine wpOpIn_step rfl (fun K hK => ?_)
              go_simp
              refine hK _ _ ⟨_, _, _, _, _, _, _, _, _, true, _, _, _, _, rfl, rfl, h117, hF, hX⟩
            · simp [Region.binds] at hr
              repeat (rcases hr with ⟨hq, hr⟩)
              subst_vars
              refine wpOpIn_step rfl (fun K hK => ?_)
              go_simp
              refine hK _ _ ⟨_, _, _, _, _, _, _, _, _, _, true, _, _, _, rfl, rfl, h117, hF, hX⟩
            · simp [Region.binds] at hr
              repeat (rcases hr with ⟨hq, hr⟩)
              subst_vars
              obtain ⟨kz, kf⟩ := cell_of hF.rc (j := p) (by show p < (C.length); omega)
              have hF2 := hF.setC hloC p (wr64 (c + 3))
              have hX2 := hX.set gC p (.int .i64 (wr64 (c + 3))) hbpC (by omega)
              refine wpOpIn_step rfl (fun K hK => ?_)
              go_simp
              refine hK _ _ ⟨_, _, _, _, _, _, _, _, _, _, _, true, _, _, rfl, rfl, (fun _ => rfl), hF2, hX2⟩
            · simp [Region.binds] at hr
              repeat (rcases hr with ⟨hq, hr⟩)
              subst_vars
              refine wpOpIn_step rfl (fun K hK => ?_)
              go_simp
              refine hK _ _ ⟨_, _, _, _, _, _, _, _, _, _, _, _, true, _, rfl, rfl, h117, hF, hX⟩
            · simp [Region.binds] at hr
              repeat (rcases hr with ⟨hq, hr⟩)
              subst_vars
              obtain ⟨kz, kf⟩ := cell_of hF.re (j := p) (by show p < (E.length); omega)
              have hF2 := hF.setE hloE hE9 p (z : Int)
              have hX2 := hX.set gE p (.int .i64 (z : Int)) hbpE (by omega)
              refine wpOpIn_step rfl (fun K hK => ?_)
              go_simp
              refine hK _ _ ⟨_, _, _, _, _, _, _, _, _, _, _, _, _, true, rfl, rfl, h117, hF2, hX2⟩
            · simp at hr
          case last =>
            rintro a W2 ⟨f0, f1, f2, f3, f4, f5, f6, f7, f8, f9, f10, f11, f12, f13, hl, rfl, _, hF, hX⟩
            have hl := congrArg Array.toList hl
            simp at hl
            repeat (rcases hl with ⟨hq, hl⟩)
            subst_vars
            simp only [cond_true] at hF ⊢
            have k2 := hF.bw.cell
            have k3 := hF.bt.cell
            have hst := hide ((unhide HV).below hF.bel)
            have hlt9 := hF.bx.lt
            have CE2 := hide ((unhide CE) W2 (unhide hst))
            clear CE
            gi_wp2_with (refine ⟨trivial, ?_⟩; gi_at_call 37; refine (CallsIn.inRound l ((callsIn_wide (n := 2)).2 (unhide CE2))).mono ?_; rintro e W3 ⟨vl, rfl, hol, hb3⟩; have HOL := hide hol; obtain ⟨la, lc, rfl, _⟩ := owned3 hol; clear hol)
            have hgC2 : gC < W2.heap.size := (Array.getElem?_eq_some_iff.1 hF.rc).1
            have hgE2 : gE < W2.heap.size := (Array.getElem?_eq_some_iff.1 hF.re).1
            have hb92 : b9 < W2.heap.size := hF.bn.lt
            have F3 := hide (hF.below hb3)
            have X3 := hide (hX.below hb3 (by omega) hlt9)
            rw [show (wr64 (c + 3)) = (bsI C z (Lw.take 0)).1 by rw [unhide HB0], show (z : Int) = (bsI C z (Lw.take 0)).2 by rw [unhide HB0]] at F3
            clear hF hX hb3 k2 k3 hst CE2 HB0
            gi_loopw [54] (fun tv wx => ∃ t : Nat, tv = .int .i64 (t : Int) ∧ t ≤ Lw.length ∧ Hid (Fs w wx (.slice av W.length cap) (.slice (some ⟨bp, 0, none⟩) (pts s).length cp) s b7 b8 b9 gC gE (C.set p (bsI C z (Lw.take t)).1) (E.set p (bsI C z (Lw.take t)).2) z) ∧ Hid (Kx W0.heap.size bp (b9 + 1) V wx) ∧ Hid (World.ownsRow wx W2.heap.size 3 1 (.slice la Lw.length lc) Lw.length (Lw.map (Value.int .i64)))) (fun tv _ => Lw.length - (intOf tv).toNat)
            case atStart => exact ⟨0, rfl, Nat.zero_le _, F3, X3, HOL⟩
            case round =>
              obtain ⟨t, rfl, ht, HF, HX, HO⟩ := hrel
              clear F3 X3 HOL
              by_cases htl : t < Lw.length
              · have htl' : (t : Int) < (Lw.length : Int) := by omega
                obtain ⟨bl, ol, ql, hel, hbl, hcl⟩ := ints_at (owned3 (unhide HO)) (by omega)
                cases hel
                have kl := hcl t htl
                have hmem : nth Lw t ∈ Lw := by
                  unfold nth
                  rw [List.getD_eq_getElem?_getD, List.getElem?_eq_getElem htl]
                  exact List.getElem_mem htl
                obtain ⟨e, hee, he1, he2⟩ := (unhide HEI) _ hmem
                rw [hee] at kl
                have HST := hide ((unhide HBT) t htl)
                rw [hee] at HST
                obtain ⟨x0, hx0⟩ : ∃ x0, (bsI C z (Lw.take t)).1 = x0 := ⟨_, rfl⟩
                obtain ⟨y0, hy0⟩ : ∃ y0, (bsI C z (Lw.take t)).2 = y0 := ⟨_, rfl⟩
                obtain ⟨ce, hce⟩ : ∃ ce, nth C e = ce := ⟨_, rfl⟩
                have HST2 : Hid (bsI C z (Lw.take (t + 1)) = if wr64 (ce + 2) ≤ x0 then (wr64 (ce + 2), (e : Int)) else (x0, y0)) := hide (by
                  rw [unhide HST]
                  unfold stI
                  rw [Int.toNat_natCast, hce, hx0]
                  split
                  · rfl
                  · rw [← hx0, ← hy0])
                rw [hx0, hy0] at HF
                have kc := (cell_of (unhide HF).rc (j := e) (by rw [List.length_set]; omega)).1
                rw [nthS_set, if_neg (fun h => by omega), hce] at kc
                obtain ⟨kp, kpf⟩ := cell_of (unhide HF).rc (j := p) (by rw [List.length_set]; omega)
                rw [nthS_set, if_pos ⟨rfl, by omega⟩] at kp
                have k7 := (unhide HF).bc.cell
                have hec : (e : Int) < (s.size : Int) + 1 := by omega
                have hes : (e : Int) < ((s.size + 1 : Nat) : Int) := by omega
                have hwr : IntKind.i64.wrap (ce + 2) = wr64 (ce + 2) := rfl
                clear hcl hmem hee HST hx0 hy0 hce
                by_cases hle : wr64 (ce + 2) ≤ x0
                · have HR : Hid (bsI C z (Lw.take (t + 1)) = (wr64 (ce + 2), (e : Int))) := hide (by rw [unhide HST2, if_pos hle])
                  gi_wp2_with fail
                  refine region_inv mixed (fun l a w' => ∃ (b0 b1 b2 b3 b4 b5 b6 b7' b8' b9' : Bool), l = #[b0, b1, b2, b3, b4, b5, b6, b7', b8', b9'] ∧ a = { tmps := #[.slice av W.length cap, .string s, .pointer (some ⟨w.heap.size, 0, none⟩), .pointer (some ⟨w.heap.size + 1, 0, none⟩), .slice none 0 0, .slice (some ⟨bp, 0, none⟩) (pts s).length cp, u6, .pointer (some ⟨b7, 0, none⟩), .pointer (some ⟨b8, 0, none⟩), .pointer (some ⟨b9, 0, none⟩), undef, .int .i64 (p : Int), undef, .int .i64 (e : Int), .int .i64 (wr64 (ce + 2)), .string s, .pointer (some ⟨w.heap.size + 1 + 1, 0, none⟩), .tuple #[.bool false], .bool false, u19, u20, u21, u22, u23, .string s, .int .i64 (s.size : Int), .int .i64 ((s.size : Int) + 1), .slice (some ⟨gC, 0, none⟩) (s.size + 1) (s.size + 1), .string s, .int .i64 (s.size : Int), .slice (some ⟨gE, 0, none⟩) s.size s.size, .string s, .int .i64 (s.size : Int), .slice (some ⟨bp, 0, none⟩) (pts s).length cp, .func (.func 42) #[] #[.pointer (some ⟨b9 + 1, 0, none⟩)], .int .i64 (i : Int), .int .i64 (p : Int), .slice (some ⟨gC, 0, none⟩) (s.size + 1) (s.size + 1), .int .i64 (p : Int), .slice (some ⟨gE, 0, none⟩) s.size s.size, .int .i64 (p : Int), .slice (some ⟨gC, 0, none⟩) (s.size + 1) (s.size + 1), .int .i64 (z : Int), .pointer (some ⟨gC, z, none⟩), .int .i64 c, .int .i64 (wr64 (c + 3)), .int .i64 (z : Int), .pointer (some ⟨gC, p, none⟩), .pointer (some ⟨gE, p, none⟩), .slice av W.length cap, .string s, .int .i64 (p : Int), .slice (some ⟨bl, ol, none⟩) Lw.length lc, .int .i64 (Lw.length : Int), .int .i64 (t : Int), .bool true, .pointer (some ⟨bl, ol + t, none⟩), .int .i64 (e : Int), .slice (some ⟨gC, 0, none⟩) (s.size + 1) (s.size + 1), .int .i64 (e : Int), .pointer (some ⟨gC, e, none⟩), .int .i64 ce, .int .i64 (wr64 (ce + 2)), .int .i64 (wr64 (ce + 2)), .slice (some ⟨gC, 0, none⟩) (s.size + 1) (s.size + 1), .int .i64 (p : Int), .pointer (some ⟨gC, p, none⟩), .int .i64 x0, .bool true, (bif b0 then .slice (some ⟨gC, 0, none⟩) (s.size + 1) (s.size + 1) else u69), (bif b1 then .int .i64 (p : Int) else u70), (bif b2 then .slice (some ⟨gE, 0, none⟩) s.size s.size else u71), (bif b3 then .int .i64 (p : Int) else u72), (bif b4 then .int .i64 (wr64 (ce + 2)) else u73), (bif b5 then .int .i64 (e : Int) else u74), (bif b6 then .pointer (some ⟨gC, p, none⟩) else u75), (bif b8' then .pointer (some ⟨gE, p, none⟩) else u76), u77, undef, undef], defers := [] } ∧ Fs w w' (.slice av W.length cap) (.slice (some ⟨bp, 0, none⟩) (pts s).length cp) s b7 b8 b9 gC gE (bif b7' then C.set p (wr64 (ce + 2)) else C.set p x0) (bif b9' then E.set p (e : Int) else E.set p y0) z ∧ Kx W0.heap.size bp (b9 + 1) V w' ∧ World.ownsRow w' W2.heap.size 3 1 (.slice (some ⟨bl, ol, none⟩) Lw.length lc) Lw.length (Lw.map (Value.int .i64))) (by kernel_rfl) (by rintro l a w' ⟨_, _, _, _, _, _, _, _, _, _, rfl, _⟩; rfl) ?first ?step ?last
                  case first => exact ⟨false, false, false, false, false, false, false, false, false, false, rfl, rfl, (unhide HF).at (fun k o h _ => h) (bdrew (unhide HF).bel 1), ⟨⟨(unhide HX).kf.size, (unhide HX).kf.same⟩, ⟨(unhide HX).kq.1, (unhide HX).kq.2⟩⟩, unhide HO⟩
                  case step =>
                    rintro ii l a w' ⟨b0, b1, b2, b3, b4, b5, b6, b7', b8', b9', rfl, rfl, hF, hX, hO⟩ hr
                    have hr := mem_ready.1 hr
                    have k7 := hF.bc.cell
                    have k8 := hF.be.cell
                    rcases ii with _ | _ | _ | _ | _ | _ | _ | _ | _ | _ | ii
                    · simp [Region.binds] at hr
                      repeat (rcases hr with ⟨hq, hr⟩)
                      subst_vars
                      refine wpOpIn_step rfl (fun K hK => ?_)
                      go_simp
                      refine hK _ _ ⟨true, _, _, _, _, _, _, _, _, _, rfl, rfl, hF, hX, hO⟩
                    · simp [Region.binds] at hr
                      repeat (rcases hr with ⟨hq, hr⟩)
                      subst_vars
                      refine wpOpIn_step rfl (fun K hK => ?_)
                      go_simp
                      refine hK _ _ ⟨_, true, _, _, _, _, _, _, _, _, rfl, rfl, hF, hX, hO⟩
                    · simp [Region.binds] at hr
                      repeat (rcases hr with ⟨hq, hr⟩)
                      subst_vars
                      refine wpOpIn_step rfl (fun K hK => ?_)
                      go_simp
                      refine hK _ _ ⟨_, _, true, _, _, _, _, _, _, _, rfl, rfl, hF, hX, hO⟩
                    · simp [Region.binds] at hr
                      repeat (rcases hr with ⟨hq, hr⟩)
                      subst_vars
                      refine wpOpIn_step rfl (fun K hK => ?_)
                      go_simp
                      refine hK _ _ ⟨_, _, _, true, _, _, _, _, _, _, rfl, rfl, hF, hX, hO⟩
                    · simp [Region.binds] at hr
                      repeat (rcases hr with ⟨hq, hr⟩)
                      subst_vars
                      refine wpOpIn_step rfl (fun K hK => ?_)
                      go_simp
                      refine hK _ _ ⟨_, _, _, _, true, _, _, _, _, _, rfl, rfl, hF, hX, hO⟩
                    · simp [Region.binds] at hr
                      repeat (rcases hr with ⟨hq, hr⟩)
                      subst_vars
                      refine wpOpIn_step rfl (fun K hK => ?_)
                      go_simp
                      refine hK _ _ ⟨_, _, _, _, _, true, _, _, _, _, rfl, rfl, hF, hX, hO⟩
                    · simp [Region.binds] at hr
                      repeat (rcases hr with ⟨hq, hr⟩)
                      subst_vars
                      refine wpOpIn_step rfl (fun K hK => ?_)
                      go_simp
                      refine hK _ _ ⟨_, _, _, _, _, _, true, _, _, _, rfl, rfl, hF, hX, hO⟩
                    · simp [Region.binds] at hr
                      repeat (rcases hr with ⟨hq, hr⟩)
                      subst_vars
                      obtain ⟨kz, kf⟩ := cell_of hF.rc (j := p) (by simp only [cond_false, List.length_set]; omega)
                      have hF2 := hF.setC hloC p (wr64 (ce + 2))
                      simp only [cond_false, List.set_set] at hF2
                      have hX2 := hX.set gC p (.int .i64 (wr64 (ce + 2))) hbpC (by omega)
                      have hO2 := own_set (g := gC) (k := p) (x := .int .i64 (wr64 (ce + 2))) hO hgC2
                      refine wpOpIn_step rfl (fun K hK => ?_)
                      go_simp
                      refine hK _ _ ⟨_, _, _, _, _, _, _, true, _, _, rfl, rfl, hF2, hX2, hO2⟩
                    · simp [Region.binds] at hr
                      repeat (rcases hr with ⟨hq, hr⟩)
                      subst_vars
                      refine wpOpIn_step rfl (fun K hK => ?_)
                      go_simp
                      refine hK _ _ ⟨_, _, _, _, _, _, _, _, true, _, rfl, rfl, hF, hX, hO⟩
                    · simp [Region.binds] at hr
                      repeat (rcases hr with ⟨hq, hr⟩)
                      subst_vars
                      obtain ⟨kz, kf⟩ := cell_of hF.re (j := p) (by simp only [cond_false, List.length_set]; omega)
                      have hF2 := hF.setE hloE hE9 p (e : Int)
                      simp only [cond_false, List.set_set] at hF2
                      have hX2 := hX.set gE p (.int .i64 (e : Int)) hbpE (by omega)
                      have hO2 := own_set (g := gE) (k := p) (x := .int .i64 (e : Int)) hO hgE2
                      refine wpOpIn_step rfl (fun K hK => ?_)
                      go_simp
                      refine hK _ _ ⟨_, _, _, _, _, _, _, _, _, true, rfl, rfl, hF2, hX2, hO2⟩
                    · simp at hr
                  case last =>
                    rintro a W4 ⟨f0, f1, f2, f3, f4, f5, f6, f7, f8, f9, hl, rfl, hF, hX, hO⟩
                    have hl := congrArg Array.toList hl
                    simp at hl
                    repeat (rcases hl with ⟨hq, hl⟩)
                    subst_vars
                    simp only [cond_true] at hF ⊢
                    gi_wp2
                    go_roundw
                    case rel => exact ⟨t + 1, by go_num, by omega, hide (by rw [unhide HR]; exact hF), hide hX, hide hO⟩
                    case measure => simp [intOf]; omega
                · have HR : Hid (bsI C z (Lw.take (t + 1)) = (x0, y0)) := hide (by rw [unhide HST2, if_neg hle])
                  gi_wp2
                  go_roundw
                  case rel => exact ⟨t + 1, by go_num, by omega, hide (by rw [unhide HR]; exact unhide HF), HX, HO⟩
                  case measure => simp [intOf]; omega
              · obtain rfl : t = Lw.length := by omega
                have hge : ¬ (Lw.length : Int) < (Lw.length : Int) := by omega
                have k9 := (unhide HF).bn.cell
                have k9f := (unhide HF).bn.frozen
                have F5 := (unhide HF).setN hlo9 hE9 p
                have X5 := (unhide HX).set b9 0 (.int .i64 (p : Int)) hbp9 (by omega)
                rw [List.take_length] at F5
                gi_wp2
                refine ⟨by have h := X5.kf; rw [hsz0] at h; exact h, X5.kq, ?_⟩
                show Fs w _ _ _ s b7 b8 b9 gC gE (rn s W ((pre ++ [(⟨i, hi⟩ : Pl (pts s).length)]).map (·.1))).1 (rn s W ((pre ++ [(⟨i, hi⟩ : Pl (pts s).length)]).map (·.1))).2.1 (rn s W ((pre ++ [(⟨i, hi⟩ : Pl (pts s).length)]).map (·.1))).2.2
                rw [(unhide HMap).1, (unhide HTR).1]
                exact F5
end Fw
end Go.Proofs.YtjcgchmncgihbaaDoor
/- FewestWords of the program. -/
namespace Go.Proofs.YtjcgchmncgihbaaDoor
namespace Fw
open Go.RowKit
set_option linter.unusedVariables false
theorem own_low {w : World} {B B2 n : Nat} {e : TypeId} {v : Value} {xs : List Value} (h : w.ownsRow B2 e 1 v n xs) (hb : B ≤ B2) : w.ownsRow B e 1 v n xs := by
  refine ⟨h.1, ?_⟩
  rcases h.2 with h' | ⟨g, cap, cur, hv, hg, r⟩
  · exact .inl h'
  · exact .inr ⟨g, cap, cur, hv, Nat.le_trans hb hg, r⟩
set_option maxRecDepth 100000 in
set_option maxHeartbeats 16000000 in
theorem cutsF (v : Value) (W : List ByteArray) (s : ByteArray) (w : World) (hv : StrsAt w v W) (hW : Wr W) (hs : s.size ≤ 65536) :
    Calls Tryd.prog 17 #[v, .string s] w fun e w' => ∃ v' C, e = .returned v' ∧ w'.ownsRow w.heap.size 2 1 v' C.length (C.map (Value.int .i64)) ∧ (C = [] ∧ s.size = 0 ∨ C = cu s (fsL W s)) ∧ Below w.heap.size w w' := by
  obtain ⟨i0, hi, hz0, hz1, hz2⟩ := info_parts info2
  by_cases h0 : s.size = 0
  · have hx : s = ⟨#[]⟩ := by
      apply ByteArray.ext
      exact Array.eq_empty_of_size_eq_zero h0
    subst hx
    obtain ⟨av, cap, rfl, _⟩ := hv
    go_enter Tryd.func17, Tryd.ntmps17
    go_wp2
    go_ret
    exact ⟨_, [], rfl, World.ownsRow_nil _ _ _ _, .inl ⟨rfl, rfl⟩, Below.refl _ _⟩
  · have hne := Wd.empty_ne (show 0 < s.size by omega)
    have CE := hide ((callsIn_wide (n := 5)).1 (ends_in v W s w hv hW hs (by omega)))
    have HFS : Hid (fsL W s = wk (fun i => (be (iw s W) (pts s).length i).2) (pts s).length (pts s).length 0) := hide rfl
    have hn := Nat.le_trans (pts_le s) hs
    have HBF := hide (fun i h => @be_first (iw s W) (pts s).length i h)
    obtain ⟨av, cap, rfl, _⟩ := hv
    generalize fsL W s = FS at *
    generalize be (iw s W) (pts s).length = bb at *
    go_enter Tryd.func17, Tryd.ntmps17
    go_upto_region 4 with (go_at_call 28; refine (unhide CE).mono ?_; rintro e w1 ⟨u, E, rfl, hin, hEl, hes, hb1⟩; have I1 := hide hin; have B1 := hide hb1; have HE := hide hes; clear hes hb1; obtain ⟨ua, uc, rfl, _⟩ := hin)
    have hEl' : E.length = s.size := hEl
    have O0 : Hid ((w1.alloc (.cells #[.int .i64 0] 2)).ownsRow w1.heap.size 2 1 (.slice (some ⟨w1.heap.size, 0, none⟩) 1 1) (cu s []).length ((cu s []).map (Value.int .i64))) := hide (World.ownsRow_lit w1 #[.int .i64 0] 1 (Nat.le_refl _) (by unfold maxLen; omega) rfl)
    go_wp2
    go_loopw [6, 7] (fun v' x wr => ∃ (D : List Nat) (i k : Nat), x = .int .i64 (pl s i : Int) ∧ i ≤ (pts s).length ∧ (pts s).length - i ≤ k ∧ D.sum = i ∧ D.length ≤ i ∧ Hid (D ++ wk (fun i => (bb i).2) (pts s).length k i = FS) ∧ Hid (wr.ownsRow w1.heap.size 2 1 v' (cu s D).length ((cu s D).map (Value.int .i64))) ∧ Hid (Below w1.heap.size w1 wr)) (fun _ x _ => s.size - (intOf x).toNat)
    case atStart => exact ⟨[], 0, (pts s).length, rfl, by omega, by omega, rfl, by simp, hide (unhide HFS).symm, O0, hide (al1 _ _)⟩
    case round =>
      obtain ⟨D, i, k, rfl, hi1, hi2, hDs, hDl, HD, HO, HB⟩ := hrel
      clear O0
      by_cases hin : i < (pts s).length
      · have hp := pl_in hin
        have hp' : (pl s i : Int) < (s.size : Int) := by omega
        obtain ⟨k', hkk, hwk⟩ := wk_at (f := fun i => (bb i).2) hin hi2
        have hff := (unhide HBF) i hin
        obtain ⟨b, off, cp, he, hbs, hc⟩ := ints_at (unhide I1) (by omega)
        cases he
        have c0 := hc (pl s i) (by omega)
        rw [(unhide HE) i hin] at c0
        have HD2 : Hid ((D ++ [(bb i).2]) ++ wk (fun i => (bb i).2) (pts s).length k' (i + (bb i).2) = FS) := hide (by rw [← unhide HD, hwk, List.append_assoc]; rfl)
        obtain ⟨f, hf⟩ : ∃ f, (bb i).2 = f := ⟨_, rfl⟩
        rw [hf] at hff c0 HD2
        have hpl := pl_lt (s := s) (show i < i + f by omega) hff.2
        have hple := pl_le s (i + f)
        have HSN := hide (cu_snoc s D f)
        rw [hDs] at HSN
        have hcl := cu_len s D
        obtain ⟨d, hd⟩ : ∃ d, (cu s D).length = d := ⟨_, rfl⟩
        rw [hd] at hcl HO
        have HDD := hide hd
        have c1 := ((unhide HB).cell (p := ⟨b, off + pl s i, none⟩) hbs).trans c0
        have hBz := (unhide HB).size
        have HP := hide hpl
        clear hf hwk hd hc
        obtain ⟨pf, hpf⟩ : ∃ pf, pl s (i + f) = pf := ⟨_, rfl⟩
        rw [hpf] at c0 c1 hple HSN HP
        have HPF := hide hpf
        clear hpf hpl
        generalize pl s i = p0 at *
        go_wp2_with (at_builtin; refine wpList_append_own _ rfl _ _ 30 rfl w1.heap.size 2 i0 (.int .i64 0) 1 8 Tryd.underlying30 hi hz0 hz1 hz2 rfl (by decide) _ _ _ rfl (ownG_alloc (unhide HO) _) ⟨wr.heap.size, 0, none⟩ 1 1 [.int .i64 (pf : Int)] rfl rfl ?c1 ?c2 ?c3 ?c4 ?c5 ?_; rotate_left 5; intro v' w4 hown' hgrow hne; have B4 : Hid (Below w1.heap.size w1 w4) := hide (((unhide HB).alloc (by omega) _).grown hgrow (by simp; omega) (fun m hm => ((unhide HO).lt m hm).1)); have c4 := ((unhide B4).cell (p := ⟨b, off + p0, none⟩) hbs).trans c0; have O4 := hide hown'; clear hown' hgrow hne)
        case c1 => exact cell_one_new _ _ _
        case c2 => first | rfl | (intro u hu; simp at hu; subst hu; rfl)
        case c3 => first | omega | (unfold maxLen; omega)
        case c4 => omega
        case c5 => first | omega | (simp; omega)
        go_roundw
        case rel => exact ⟨D ++ [f], i + f, k', by rw [unhide HPF], by omega, by omega, by simp [hDs], by simp; omega, HD2, hide (by rw [unhide HSN, List.map_append, List.length_append, unhide HDD]; exact unhide O4), B4⟩
        case measure => have := unhide HP; simp [intOf]; omega
      · obtain rfl : i = (pts s).length := by omega
        have hpe : pl s (pts s).length = s.size := pl_end s
        have hge : ¬ (pl s (pts s).length : Int) < (s.size : Int) := by omega
        have HE2 : Hid (FS = D) := hide (by rw [← unhide HD, wk_end, List.append_nil])
        go_wp2
        go_ret
        first
          | exact ⟨_, cu s D, rfl, own_low (unhide HO) (unhide B1).size, .inr (by rw [unhide HE2]), jn2 (unhide B1) (unhide HB)⟩
          | exact ⟨_, rfl, cu s D, own_low (unhide HO) (unhide B1).size, (by first | exact .inr (by rw [unhide HE2]) | rw [unhide HE2]), jn2 (unhide B1) (unhide HB)⟩
theorem piecesF (W : List ByteArray) (s : ByteArray) (C : List Int) (hC : C = [] ∧ s.size = 0 ∨ C = cu s (fsL W s)) (hs : s.size ≤ 65536) : pieces s C = pcI s 0 (fsL W s) ∧ C.length ≤ 65537 ∧ Cuts s C := by
  have hl := (fsL_ok W s).2
  have hn := Nat.le_trans (pts_le s) hs
  rcases hC with ⟨rfl, h0⟩ | rfl
  · have hp := pts_le s
    have e : fsL W s = [] := List.eq_nil_of_length_eq_zero (by omega)
    rw [e]
    exact ⟨rfl, by simp, fun i hi => by simp at hi⟩
  · exact ⟨pieces_cu s _, by rw [cu_len]; omega, cu_cuts s _⟩
set_option maxRecDepth 100000 in
set_option maxHeartbeats 2000000 in
theorem implF (v : Value) (W : List ByteArray) (s : ByteArray) (w : World) (ht : TabAt w) (hv : StrsAt w v W) (hl : W.length ≤ 1048576) (hw : ∀ i, i < W.length → (nthS W i).size ≤ 1048576) :
    Calls Tryd.prog 5 #[v, .string s] w fun e w' => ∃ v', e = .returned v' ∧ w'.ownsRow w.heap.size 9 1 v' (fwO W s).length ((fwO W s).map Value.string) ∧ Below w.heap.size w w' := by
  have CW := hide (Wd.implWF v W w hv hl hw ht)
  have HV := hide hv
  have CC := hide (fun h1 h2 V h => cutsF v W s V h (wr_of h1) h2)
  have HF : Hid (fwO W s = if 65536 < s.size ∨ Wd.wfc W ≠ 0 then [] else pcI s 0 (fsL W s)) := hide rfl
  have HPC := hide (fun C hC hs => piecesF W s C hC hs)
  obtain ⟨av, cap, rfl, _⟩ := hv
  clear hw ht
  generalize fwO W s = R at *
  by_cases hb : 65536 < s.size
  · have hb' : (65536 : Int) < (s.size : Int) := by omega
    have HE : Hid (R = []) := hide (by rw [unhide HF, if_pos (.inl hb)])
    clear CC CW HF
    go_enter Tryd.func5, Tryd.ntmps5
    go_wp2
    go_ret
    refine ⟨_, rfl, ?_, Below.refl _ _⟩
    rw [unhide HE]
    exact World.ownsRow_nil _ _ _ _
  · have hb' : ¬ (65536 : Int) < (s.size : Int) := by omega
    have hbd : decide ((65536 : Int) < (s.size : Int)) = false := by simpa using hb'
    by_cases h0 : Wd.wfc W = 0
    · have HE : Hid (R = pcI s 0 (fsL W s)) := hide (by rw [unhide HF, if_neg (fun h => h.elim hb (fun e => e h0))])
      have C2 := hide ((unhide CC) h0 (by omega))
      have HPC2 := hide (fun C hC => (unhide HPC) C hC (by omega))
      rw [h0] at CW
      have hs6 : s.size ≤ 65536 := by omega
      clear CC h0 HF HPC
      go_enter Tryd.func5, Tryd.ntmps5
      go_wp2_with (first
        | (go_at_call 15; refine (unhide CW).mono ?_; rintro e w1 ⟨rfl, hb1⟩; have B1 := hide hb1; clear hb1)
        | (go_at_call 17; refine ((unhide C2) _ ((unhide HV).below (unhide B1))).mono ?_; rintro e w2 ⟨v2, C, rfl, h2, hC, hb2⟩; have I2 := hide (IntsAt.owned h2); have HC := hide ((unhide HPC2) C hC); have B2 := hide (jn2 (unhide B1) hb2); clear h2 hb2 hC)
        | (go_at_call 16; refine (piecesI s C v2 w2 (unhide I2) (unhide HC).2.1 hs6 (unhide HC).2.2).mono ?_; rintro e w3 ⟨v3, rfl, h3, hb3⟩; have O3 := hide (own_low h3 (unhide B2).size); have B3 := hide (jn2 (unhide B2) hb3); clear h3 hb3))
      go_ret
      exact ⟨_, rfl, by rw [unhide HE, ← (unhide HC).1]; exact unhide O3, unhide B3⟩
    · have HE : Hid (R = []) := hide (by rw [unhide HF, if_pos (.inr h0)])
      have hne : (Wd.wfc W != 0) = true := by simp [bne]; exact h0
      generalize Wd.wfc W = cw at *
      clear CC h0 HF
      go_enter Tryd.func5, Tryd.ntmps5
      go_wp2_with (go_at_call 15; refine (unhide CW).mono ?_; rintro e w1 ⟨rfl, hb1⟩; have B1 := hide hb1; clear hb1)
      go_ret
      refine ⟨_, rfl, ?_, unhide B1⟩
      rw [unhide HE]
      exact World.ownsRow_nil _ _ _ _
end Fw
end Go.Proofs.YtjcgchmncgihbaaDoor
