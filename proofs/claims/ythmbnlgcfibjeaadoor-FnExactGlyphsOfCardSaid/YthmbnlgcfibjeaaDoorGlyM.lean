/- Rows of glyphs in memory; the row that is laid while some glyphs are held back. -/
import Derived.Test.YthmbnlgcfibjeaaDoorGlyP
import Derived.Test.YthmbnlgcfibjeaaDoorAppG
import Derived.Laws.AppendOwnNone
namespace Go.Proofs.YthmbnlgcfibjeaaDoor.Gly
open Go.RowKit
set_option linter.unusedVariables false
theorem infoG : (Tryd.prog.info? 30).map (fun i => (i.zero, i.size, i.bytes)) = some (some (.agg #[.int .i64 0, .int .i64 0, .int .i64 0, .int .i64 0, .int .i64 0]), 5, 40) := by kernel_rfl
/-- The five numbers of a glyph; those of a row of glyphs. -/
def cel (g : Int × Int × Int) : List Int := [g.1, g.2.1, g.2.2, 0, 0]
def flt (G : List (Int × Int × Int)) : List Int := G.flatMap cel
theorem flt_app (G H : List (Int × Int × Int)) : flt (G ++ H) = flt G ++ flt H := by simp [flt]
theorem flt_one (g : Int × Int × Int) : flt [g] = cel g := by simp [flt]
theorem flt_len (G : List (Int × Int × Int)) : (flt G).length = G.length * 5 := by
  induction G with
  | nil => rfl
  | cons g t ih =>
    have : flt (g :: t) = cel g ++ flt t := by simp [flt]
    rw [this, List.length_append, ih]
    simp [cel]
    omega
def gl0 : Int × Int × Int := (0, 0, 0)
def gat (G : List (Int × Int × Int)) (k : Nat) : Int × Int × Int := G.getD k gl0
theorem nth_flt (G : List (Int × Int × Int)) (k j : Nat) (hk : k < G.length) (hj : j < 5) : nth (flt G) (k * 5 + j) = nth (cel (gat G k)) j := by
  induction G generalizing k with
  | nil => simp at hk
  | cons g t ih =>
    have e : flt (g :: t) = cel g ++ flt t := by simp [flt]
    have el : (cel g).length = 5 := rfl
    rw [e]
    cases k with
    | zero =>
      have : nth (cel g ++ flt t) (0 * 5 + j) = nth (cel g) j := by
        unfold nth List.getD
        rw [Nat.zero_mul, Nat.zero_add, List.getElem?_append_left (by omega)]
      rw [this]
      rfl
    | succ k =>
      have h2 : nth (cel g ++ flt t) ((k + 1) * 5 + j) = nth (flt t) (k * 5 + j) := by
        unfold nth List.getD
        rw [List.getElem?_append_right (by omega), el]
        congr 2
        omega
      rw [h2, ih k (by simpa using hk)]
      rfl
theorem rowAt {w w' : World} {B : Nat} {e : TypeId} {s : Nat} {v : Value} {n : Nat} {xs : List Value} (h : w.ownsRow B e s v n xs) (hs : ∀ k, v.ownBlock = some k → w'.heap[k]? = w.heap[k]?) : w'.ownsRow B e s v n xs := by
  refine ⟨h.1, ?_⟩
  rcases h.2 with h' | ⟨g, cap, cur, hv, hg, hh, r⟩
  · exact .inl h'
  · exact .inr ⟨g, cap, cur, hv, hg, (hs g (by rw [hv]; rfl)).trans hh, r⟩
/-- A row of glyphs of the call's own. -/
def GR (w : World) (B : Nat) (v : Value) (G : List (Int × Int × Int)) : Prop := w.ownsRow B 30 5 v G.length ((flt G).map (Value.int .i64))
theorem GR.below {w w' : World} {B : Nat} {v : Value} {G : List (Int × Int × Int)} (h : GR w B v G) (hb : Below w.heap.size w w') : GR w' B v G := ownsRow_below h hb
theorem GR.form {w : World} {B : Nat} {v : Value} {G : List (Int × Int × Int)} (h : GR w B v G) : ∃ a c, v = .slice a G.length c ∧ ((a = none ∧ c = 0 ∧ G = []) ∨ ∃ b, a = some ⟨b, 0, none⟩ ∧ G.length ≤ c ∧ B ≤ b ∧ b < w.heap.size) := by
  rcases h.2 with ⟨hv, hn⟩ | ⟨g, cap, cur, hv, hg, hh, hc, _⟩
  · exact ⟨none, 0, by rw [hv, hn], .inl ⟨rfl, rfl, List.eq_nil_of_length_eq_zero hn⟩⟩
  · exact ⟨_, _, hv, .inr ⟨g, rfl, hc, hg, (Array.getElem?_eq_some_iff.1 hh).1⟩⟩
theorem GR.cell {w : World} {B b c n : Nat} {G : List (Int × Int × Int)} (h : GR w B (.slice (some ⟨b, 0, none⟩) n c) G) (hn : n = G.length) (i : Nat) (hi : i < n * 5) : w.cell? ⟨b, i, none⟩ = some (.int .i64 (nth (flt G) i)) ∧ w.frozen? ⟨b, i, none⟩ = false := by
  subst hn
  refine ⟨?_, World.ownsRow.frozenAt h i⟩
  have e := flt_len G
  rw [World.ownsRow.cellAt h i (by omega), List.getElem?_map]
  simp [nth, List.getD, e, hi]
theorem GR.five {w : World} {B b c n : Nat} {G : List (Int × Int × Int)} (h : GR w B (.slice (some ⟨b, 0, none⟩) n c) G) (hn : n = G.length) (k : Nat) (hk : k < n) :
    w.cell? ⟨b, k * 5, none⟩ = some (.int .i64 (gat G k).1) ∧ w.cell? ⟨b, k * 5 + 1, none⟩ = some (.int .i64 (gat G k).2.1) ∧ w.cell? ⟨b, k * 5 + 2, none⟩ = some (.int .i64 (gat G k).2.2) ∧ w.cell? ⟨b, k * 5 + 3, none⟩ = some (.int .i64 0) ∧ w.cell? ⟨b, k * 5 + 4, none⟩ = some (.int .i64 0) := by
  have n0 := nth_flt G k 0 (by omega) (by omega)
  have n1 := nth_flt G k 1 (by omega) (by omega)
  have n2 := nth_flt G k 2 (by omega) (by omega)
  have n3 := nth_flt G k 3 (by omega) (by omega)
  have n4 := nth_flt G k 4 (by omega) (by omega)
  refine ⟨?_, ?_, ?_, ?_, ?_⟩
  · have := (h.cell hn (k * 5 + 0) (by omega)).1
    rw [n0] at this
    exact this
  · have := (h.cell hn (k * 5 + 1) (by omega)).1
    rw [n1] at this
    exact this
  · have := (h.cell hn (k * 5 + 2) (by omega)).1
    rw [n2] at this
    exact this
  · have := (h.cell hn (k * 5 + 3) (by omega)).1
    rw [n3] at this
    exact this
  · have := (h.cell hn (k * 5 + 4) (by omega)).1
    rw [n4] at this
    exact this
theorem GR.nil (w : World) (B : Nat) : GR w B (.slice none 0 0) [] := World.ownsRow_nil _ _ _ _
/-- The row without its glyphs, in its place. -/
theorem GR.cut {w : World} {B b c n : Nat} {G : List (Int × Int × Int)} (h : GR w B (.slice (some ⟨b, 0, none⟩) n c) G) : GR w B (.slice (some ⟨b, 0, none⟩) 0 c) [] := by
  obtain ⟨h1, h2⟩ := h
  refine ⟨by simp [flt], ?_⟩
  rcases h2 with ⟨e, _⟩ | ⟨g', cap', cur, e, hg, hh, hn, hm, hs, ht⟩
  · cases e
  · injection e with e1 e2 e3
    injection e1 with e1
    injection e1 with e1
    subst e1 e3
    exact .inr ⟨b, c, cur, rfl, hg, hh, by simp, hm, hs, by simp [flt]⟩
/-- The box at g: what is laid, what is held back, whether it binds; since w nothing but the box has changed of what was there. -/
structure BS (w wr : World) (g : Nat) (lv hv : Value) (s : St) : Prop where
  bx : wr.heap[g]? = some (.cells #[lv, hv, .bool s.bd] 28 (0, 0))
  lo : GR wr w.heap.size lv s.laid
  ho : GR wr w.heap.size hv s.held
  gl : g < w.heap.size
  lh : ∀ b, lv.ownBlock = some b → hv.ownBlock ≠ some b
  gr : w.grownBy wr (some g)
theorem grown_bel {w w' w'' : World} {r : Option Nat} (h : w.grownBy w' r) (hb : Below w'.heap.size w' w'') : w.grownBy w'' r :=
  ⟨hb.os.trans h.os, hb.tape.trans h.tape, hb.output.trans h.output, Nat.le_trans h.size hb.size, fun k hk hne => (hb.block k (Nat.lt_of_lt_of_le hk h.size)).trans (h.block k hk hne)⟩
theorem grown_set {w w' : World} {g j : Nat} {u : Value} (h : w.grownBy w' (some g)) : w.grownBy (w'.setCell ⟨g, j, none⟩ u) (some g) :=
  ⟨h.os, h.tape, h.output, by simp; exact h.size, fun k hk hne => (heap_setCell_other w' ⟨g, j, none⟩ k u (fun e => hne (by rw [e]))).trans (h.block k hk hne)⟩
/-- An append to a row of our own changes nothing of what was there. -/
theorem grown_own {w w' w3 : World} {g : Nat} {v : Value} (h : w.grownBy w' (some g)) (hg : w'.grownBy w3 v.ownBlock) (hv : ∀ k, v.ownBlock = some k → w.heap.size ≤ k) : w.grownBy w3 (some g) :=
  ⟨hg.os.trans h.os, hg.tape.trans h.tape, hg.output.trans h.output, Nat.le_trans h.size hg.size, fun k hk hne => (hg.block k (Nat.lt_of_lt_of_le hk h.size) (fun e => by have := hv k e.symm; omega)).trans (h.block k hk hne)⟩
theorem BS.sz {w wr : World} {g : Nat} {lv hv : Value} {s : St} (h : BS w wr g lv hv s) : w.heap.size ≤ wr.heap.size := h.gr.size
theorem BS.lt {w wr : World} {g : Nat} {lv hv : Value} {s : St} (h : BS w wr g lv hv s) : g < wr.heap.size := Nat.lt_of_lt_of_le h.gl h.gr.size
theorem BS.nl {w wr : World} {g : Nat} {lv hv : Value} {s : St} (h : BS w wr g lv hv s) : lv.ownBlock ≠ some g := fun e => by
  have := (World.ownsRow.lt h.lo g e).1
  have := h.gl
  omega
theorem BS.nh {w wr : World} {g : Nat} {lv hv : Value} {s : St} (h : BS w wr g lv hv s) : hv.ownBlock ≠ some g := fun e => by
  have := (World.ownsRow.lt h.ho g e).1
  have := h.gl
  omega
theorem BS.below {w wr w' : World} {g : Nat} {lv hv : Value} {s : St} (h : BS w wr g lv hv s) (hb : Below wr.heap.size wr w') : BS w w' g lv hv s :=
  { h with bx := (hb.block g h.lt).trans h.bx, lo := h.lo.below hb, ho := h.ho.below hb, gr := grown_bel h.gr hb }
theorem box3 {w : World} {g : Nat} {a b c : Value} {t : TypeId} (h : w.heap[g]? = some (.cells #[a, b, c] t (0, 0))) : w.cell? ⟨g, 0, none⟩ = some a ∧ w.cell? ⟨g, 1, none⟩ = some b ∧ w.cell? ⟨g, 2, none⟩ = some c ∧ ∀ i, w.frozen? ⟨g, i, none⟩ = false := by
  refine ⟨?_, ?_, ?_, fun i => ?_⟩ <;> simp [World.cell?, World.frozen?, h]
theorem BS.putL {w wr w3 : World} {g : Nat} {lv hv v' : Value} {s : St} {G : List (Int × Int × Int)} (h : BS w wr g lv hv s) (ho : GR w3 w.heap.size v' G) (hg : wr.grownBy w3 lv.ownBlock) (hk : ∀ k, v'.ownBlock = some k → lv.ownBlock = some k ∨ wr.heap.size ≤ k) :
    BS w (w3.setCell ⟨g, 0, none⟩ v') g v' hv ⟨G, s.held, s.bd⟩ := by
  have hH : ∀ b, hv.ownBlock = some b → b < wr.heap.size := fun b hb => (World.ownsRow.lt h.ho b hb).2
  have hgl := h.gl
  have nv : v'.ownBlock ≠ some g := fun e => by
    have := (World.ownsRow.lt ho g e).1
    omega
  have oth3 : ∀ b, b < wr.heap.size → lv.ownBlock ≠ some b → w3.heap[b]? = wr.heap[b]? := fun b hb hr => hg.block b hb (fun e => hr e.symm)
  have b3 := (oth3 g h.lt h.nl).trans h.bx
  have oth : ∀ b, b ≠ g → (w3.setCell ⟨g, 0, none⟩ v').heap[b]? = w3.heap[b]? := fun b hb => heap_setCell_other w3 ⟨g, 0, none⟩ b v' hb
  refine ⟨?_, ?_, ?_, h.gl, ?_, grown_set (grown_own h.gr hg (fun k e => (World.ownsRow.lt h.lo k e).1))⟩
  · rw [heap_setCell_same _ _ _ _ _ _ b3]; rfl
  · exact rowAt ho (fun k e => oth k (fun e2 => nv (by rw [← e2]; exact e)))
  · exact rowAt h.ho (fun k e => (oth k (fun e2 => h.nh (by rw [← e2]; exact e))).trans (oth3 k (hH k e) (fun e2 => h.lh k e2 e)))
  · intro b hb e
    rcases hk b hb with h1 | h1
    · exact h.lh b h1 e
    · have := hH b e; omega
theorem BS.putH {w wr w3 : World} {g : Nat} {lv hv v' : Value} {s : St} {G : List (Int × Int × Int)} (h : BS w wr g lv hv s) (ho : GR w3 w.heap.size v' G) (hg : wr.grownBy w3 hv.ownBlock) (hk : ∀ k, v'.ownBlock = some k → hv.ownBlock = some k ∨ wr.heap.size ≤ k) :
    BS w (w3.setCell ⟨g, 1, none⟩ v') g lv v' ⟨s.laid, G, s.bd⟩ := by
  have hL : ∀ b, lv.ownBlock = some b → b < wr.heap.size := fun b hb => (World.ownsRow.lt h.lo b hb).2
  have hgl := h.gl
  have nv : v'.ownBlock ≠ some g := fun e => by
    have := (World.ownsRow.lt ho g e).1
    omega
  have oth3 : ∀ b, b < wr.heap.size → hv.ownBlock ≠ some b → w3.heap[b]? = wr.heap[b]? := fun b hb hr => hg.block b hb (fun e => hr e.symm)
  have b3 := (oth3 g h.lt h.nh).trans h.bx
  have oth : ∀ b, b ≠ g → (w3.setCell ⟨g, 1, none⟩ v').heap[b]? = w3.heap[b]? := fun b hb => heap_setCell_other w3 ⟨g, 1, none⟩ b v' hb
  refine ⟨?_, ?_, ?_, h.gl, ?_, grown_set (grown_own h.gr hg (fun k e => (World.ownsRow.lt h.ho k e).1))⟩
  · rw [heap_setCell_same _ _ _ _ _ _ b3]; rfl
  · exact rowAt h.lo (fun k e => (oth k (fun e2 => h.nl (by rw [← e2]; exact e))).trans (oth3 k (hL k e) (fun e2 => h.lh k e e2)))
  · exact rowAt ho (fun k e => oth k (fun e2 => nv (by rw [← e2]; exact e)))
  · intro b hb e
    rcases hk b e with h1 | h1
    · exact h.lh b hb h1
    · have := hL b hb; omega
theorem BS.setB {w wr : World} {g : Nat} {lv hv : Value} {s : St} (h : BS w wr g lv hv s) (x : Bool) : BS w (wr.setCell ⟨g, 2, none⟩ (.bool x)) g lv hv ⟨s.laid, s.held, x⟩ := by
  have oth : ∀ b, b ≠ g → (wr.setCell ⟨g, 2, none⟩ (.bool x)).heap[b]? = wr.heap[b]? := fun b hb => heap_setCell_other wr ⟨g, 2, none⟩ b _ hb
  refine ⟨?_, ?_, ?_, h.gl, h.lh, grown_set h.gr⟩
  · rw [heap_setCell_same _ _ _ _ _ _ h.bx]; rfl
  · exact rowAt h.lo (fun k e => oth k (fun e2 => h.nl (by rw [← e2]; exact e)))
  · exact rowAt h.ho (fun k e => oth k (fun e2 => h.nh (by rw [← e2]; exact e)))
/-- What is held back is let go, in its place. -/
theorem BS.cutH {w wr : World} {g b c n : Nat} {lv : Value} {s : St} (h : BS w wr g lv (.slice (some ⟨b, 0, none⟩) n c) s) : BS w (wr.setCell ⟨g, 1, none⟩ (.slice (some ⟨b, 0, none⟩) 0 c)) g lv (.slice (some ⟨b, 0, none⟩) 0 c) ⟨s.laid, [], s.bd⟩ := by
  have oth : ∀ k, k ≠ g → (wr.setCell ⟨g, 1, none⟩ (.slice (some ⟨b, 0, none⟩) 0 c)).heap[k]? = wr.heap[k]? := fun k hb => heap_setCell_other wr ⟨g, 1, none⟩ k _ hb
  have hb : b ≠ g := fun e => h.nh (by rw [e]; rfl)
  refine ⟨?_, ?_, ?_, h.gl, h.lh, grown_set h.gr⟩
  · rw [heap_setCell_same _ _ _ _ _ _ h.bx]; rfl
  · exact rowAt h.lo (fun k e => oth k (fun e2 => h.nl (by rw [← e2]; exact e)))
  · exact rowAt h.ho.cut (fun k e => oth k (fun e2 => hb (by
      have : b = k := by simpa [Value.ownBlock] using e
      rw [this, e2])))
theorem step_appG {P : Program} {ops : Array Oper} {o : Oper} {a : Act} {w : World} {K : Act → World → Prop} {Q : Exit → Act → World → Prop} {E : Prop}
    (hg : o.guard = none) (s x : Operand) (t : TypeId) (hop : o.op = Op.call { callee := Callee.builtin Builtin.append, args := #[s, x], argTypes := #[t, t] })
    (base : Nat) (e : TypeId) (i : TypeInfo) (z : Value) (size bytes : Nat) (ht : P.underlying t = some (.slice e)) (hi : P.info? e = some i) (hz : i.zero = some z)
    (hsize : i.size = size) (hby : i.bytes = bytes) (hzs : z.cells.size = size) (hsz : 0 < size)
    (v : Value) (n : Nat) (xs : List Value) (hs : a.eval s = v) (hown : w.ownsRow base e size v n xs)
    (ad : Addr) (m c : Nat) (news : List Value) (hx : a.eval x = .slice (some ad) m c) (hl : news.length = m * size) (hnews : ∀ j u, news[j]? = some u → w.cell? (ad.add j) = some u) (h1 : ∀ u ∈ news, u.oneCell' = true)
    (h63 : n + m ≤ maxLen) (hbytes : (n + m) * bytes ≤ 140737488355328) (hbase : base ≤ w.heap.size)
    (h : ∀ v' w', w'.ownsRow base e size v' (n + m) (xs ++ news) → w.grownBy w' v.ownBlock → (∀ k, v'.ownBlock = some k → v.ownBlock = some k ∨ w.heap.size ≤ k) → K (a.put o.dst v') w') :
    if Region.wanted o (yielded ops a.tmps) = true then Oper.wp P o a w K Q else E := by
  have hw : Region.wanted o (yielded ops a.tmps) = true := by simp [Region.wanted, hg]
  rw [if_pos hw]
  obtain ⟨v', w', hr, h2, h3, h4⟩ := app_blockG (P := P) w t o.type e i z size bytes ht hi hz hsize hby hzs hsz base v n xs hown ad m c news hl hnews h1 h63 hbytes hbase
  unfold Oper.wp execOp
  simp only [hop, resolve, invoke, builtin, Sem.run_bind, Sem.run_pure, Result.andThen_ok, List.map_toArray, List.map_cons, List.map_nil, hs, hx, hr]
  exact h v' w' h2 h3 h4
theorem step_appN {P : Program} {ops : Array Oper} {o : Oper} {a : Act} {w : World} {K : Act → World → Prop} {Q : Exit → Act → World → Prop} {E : Prop}
    (hg : o.guard = none) (s x : Operand) (t : TypeId) (hop : o.op = Op.call { callee := Callee.builtin Builtin.append, args := #[s, x], argTypes := #[t, t] })
    (base : Nat) (e : TypeId) (i : TypeInfo) (size : Nat) (ht : P.underlying t = some (.slice e)) (hi : P.info? e = some i)
    (v : Value) (n : Nat) (xs : List Value) (hs : a.eval s = v) (hown : w.ownsRow base e size v n xs) (hx : a.eval x = .slice none 0 0)
    (h : K (a.put o.dst v) w) :
    if Region.wanted o (yielded ops a.tmps) = true then Oper.wp P o a w K Q else E := by
  have hw : Region.wanted o (yielded ops a.tmps) = true := by simp [Region.wanted, hg]
  rw [if_pos hw]
  have hrun := run_append_owned_none (P := P) (w := w) base t o.type e i size ht hi v n xs hown
  unfold Oper.wp
  simp [execOp, hop, resolve, invoke, builtin, hs, hx, hrun, Result.andThen]
  exact h
end Go.Proofs.YthmbnlgcfibjeaaDoor.Gly
