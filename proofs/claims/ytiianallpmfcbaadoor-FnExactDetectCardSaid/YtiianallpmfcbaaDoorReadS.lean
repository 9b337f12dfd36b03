/- The specification's reading of bytes: what it keeps of them. -/
import Derived.Test.YtiianallpmfcbaaDoorNextB
import Derived.Test.YtiianallpmfcbaaDoorBegD
import Derived.ArgAppend
import Derived.Deep.RegionLaw
import Derived.Deep.QuietTactic
import Derived.BigQuiet
import Derived.Handy
namespace Go.Proofs.YtiianallpmfcbaaDoor
open Go.RowKit
/-- append of one number to a row of the call's own: the new row is where the old one was, or new. -/
theorem app_block {P : Program} (w : World) (t ty : TypeId) (i : TypeInfo) (ht : P.underlying t = some (.slice 2)) (hi : P.info? 2 = some i) (hz : i.zero = some (.int .i64 0)) (hsize : i.size = 1) (hby : i.bytes = 8)
    (base : Nat) (v : Value) (n : Nat) (xs : List Value) (hown : w.ownsRow base 2 1 v n xs) (a : Addr) (x : Value) (hx : w.cell? a = some x) (h1 : x.oneCell' = true)
    (h63 : n + 1 ≤ maxLen) (hbytes : (n + 1) * 8 ≤ 140737488355328) (hbase : base ≤ w.heap.size) :
    ∃ v' w', (Builtin.append_ #[t, t] ty #[v, .slice (some a) 1 1]).run P w = .ok v' w' ∧ w'.ownsRow base 2 1 v' (n + 1) (xs ++ [x]) ∧ w.grownBy w' v.ownBlock ∧ (∀ k, v'.ownBlock = some k → v.ownBlock = some k ∨ w.heap.size ≤ k) := by
  have hn : ∀ j u, [x][j]? = some u → w.cell? (a.add j) = some u := by
    intro j u hj
    match j, hj with
    | 0, hj => simp at hj; subst hj; simpa [Addr.add] using hx
    | (j + 1), hj => simp at hj
  have h1' : ∀ u ∈ [x], u.oneCell' = true := by intro u hu; simp at hu; subst hu; exact h1
  obtain ⟨v', w', hr, ho, hg, _⟩ := run_append_own (P := P) w base t ty 2 i (.int .i64 0) 1 8 ht hi hz hsize hby rfl (by decide) v n xs hown a 1 1 [x] rfl hn h1' h63 hbytes hbase
  refine ⟨v', w', hr, ho, hg, ?_⟩
  rcases hown.2 with ⟨rfl, rfl⟩ | ⟨g, cap, cur, rfl, hbg, hgg, hnc, hcm, hcs, htake⟩
  · obtain ⟨v2, w2, hr2, ho2, _, _⟩ := run_append_own (P := P) w w.heap.size t ty 2 i (.int .i64 0) 1 8 ht hi hz hsize hby rfl (by decide) (.slice none 0 0) 0 [] (World.ownsRow_nil w _ 2 1) a 1 1 [x] rfl hn h1' h63 hbytes (Nat.le_refl _)
    have e : v' = v2 := by have := hr.symm.trans hr2; injection this
    intro k hk
    exact .inr (ho2.lt k (e ▸ hk)).1
  · by_cases hroom : n + 1 ≤ cap
    · have hsz : cur.size = cap := by simpa using hcs
      have hr2 := run_append_room (P := P) w t ty 2 i ht hi g n cap cur hgg a 1 1 [x] (by rw [hsize]; rfl) hn h1' hroom (by rw [hsize]; simp; omega)
      have e : v' = .slice (some ⟨g, 0, none⟩) (n + 1) cap := by have := hr.symm.trans hr2; injection this
      intro k hk
      rw [e] at hk
      exact .inl hk
    · have holds : ∀ j u, xs[j]? = some u → w.cell? ((⟨g, 0, none⟩ : Addr).add j) = some u := hown.cells (g := g) rfl
      obtain ⟨v2, w2, hr2, ho2, _⟩ := run_append_arg_grows (P := P) w t ty 2 i (.int .i64 0) 1 8 ht hi hz hsize hby rfl (by decide) ⟨g, 0, none⟩ n cap xs hown.1 holds a 1 1 [x] rfl hn (by omega) h63 hbytes
      have e : v' = v2 := by have := hr.symm.trans hr2; injection this
      intro k hk
      exact .inr (ho2.lt k (e ▸ hk)).1
theorem wp_app2 {P : Program} {w : World} {o : Oper} {a : Act} {K : Act → World → Prop} {Q : Exit → Act → World → Prop} (s x : Operand) (t : TypeId)
    (ho : o.op = .call { callee := .builtin .append, args := #[s, x], argTypes := #[t, t] })
    (i : TypeInfo) (ht : P.underlying t = some (.slice 2)) (hi : P.info? 2 = some i) (hz : i.zero = some (.int .i64 0)) (hsize : i.size = 1) (hby : i.bytes = 8)
    (base : Nat) (v : Value) (n : Nat) (xs : List Value) (hs : a.eval s = v) (hown : w.ownsRow base 2 1 v n xs) (ad : Addr) (y : Value) (hx : a.eval x = .slice (some ad) 1 1) (hy : w.cell? ad = some y) (h1 : y.oneCell' = true)
    (h63 : n + 1 ≤ maxLen) (hbytes : (n + 1) * 8 ≤ 140737488355328) (hbase : base ≤ w.heap.size)
    (h : ∀ v' w', w'.ownsRow base 2 1 v' (n + 1) (xs ++ [y]) → w.grownBy w' v.ownBlock → (∀ k, v'.ownBlock = some k → v.ownBlock = some k ∨ w.heap.size ≤ k) → K (a.put o.dst v') w') : o.wp P a w K Q := by
  obtain ⟨v', w', hr, h2, h3, h4⟩ := app_block (P := P) w t o.type i ht hi hz hsize hby base v n xs hown ad y hy h1 h63 hbytes hbase
  unfold Oper.wp execOp
  simp only [ho, resolve, invoke, builtin, Sem.run_bind, Sem.run_pure, Result.andThen_ok, List.map_toArray, List.map_cons, List.map_nil, hs, hx, hr]
  exact h v' w' h2 h3 h4
theorem wpList_app2 {P : Program} {w : World} {ops : Array Oper} {rest : List Oper} {o : Oper} {a : Act} {Q : Exit → Act → World → Prop} (hgd : o.guard = none) (s x : Operand) (t : TypeId)
    (ho : o.op = .call { callee := .builtin .append, args := #[s, x], argTypes := #[t, t] })
    (i : TypeInfo) (ht : P.underlying t = some (.slice 2)) (hi : P.info? 2 = some i) (hz : i.zero = some (.int .i64 0)) (hsize : i.size = 1) (hby : i.bytes = 8)
    (base : Nat) (v : Value) (n : Nat) (xs : List Value) (hs : a.eval s = v) (hown : w.ownsRow base 2 1 v n xs) (ad : Addr) (y : Value) (hx : a.eval x = .slice (some ad) 1 1) (hy : w.cell? ad = some y) (h1 : y.oneCell' = true)
    (h63 : n + 1 ≤ maxLen) (hbytes : (n + 1) * 8 ≤ 140737488355328) (hbase : base ≤ w.heap.size)
    (h : ∀ v' w', w'.ownsRow base 2 1 v' (n + 1) (xs ++ [y]) → w.grownBy w' v.ownBlock → (∀ k, v'.ownBlock = some k → v.ownBlock = some k ∨ w.heap.size ≤ k) → wpList P ops Q rest (a.put o.dst v') w') : wpList P ops Q (o :: rest) a w :=
  wpList_plain hgd fun _ hK => wp_app2 s x t ho i ht hi hz hsize hby base v n xs hs hown ad y hx hy h1 h63 hbytes hbase fun v' w' h2 h3 h4 => hK _ _ (h v' w' h2 h3 h4)
theorem step_app2 {P : Program} {w : World} {ops : Array Oper} {o : Oper} {a : Act} {K : Act → World → Prop} {Q : Exit → Act → World → Prop} {E : Prop} (hgd : o.guard = none) (s x : Operand) (t : TypeId)
    (ho : o.op = .call { callee := .builtin .append, args := #[s, x], argTypes := #[t, t] })
    (i : TypeInfo) (ht : P.underlying t = some (.slice 2)) (hi : P.info? 2 = some i) (hz : i.zero = some (.int .i64 0)) (hsize : i.size = 1) (hby : i.bytes = 8)
    (base : Nat) (v : Value) (n : Nat) (xs : List Value) (hs : a.eval s = v) (hown : w.ownsRow base 2 1 v n xs) (ad : Addr) (y : Value) (hx : a.eval x = .slice (some ad) 1 1) (hy : w.cell? ad = some y) (h1 : y.oneCell' = true)
    (h63 : n + 1 ≤ maxLen) (hbytes : (n + 1) * 8 ≤ 140737488355328) (hbase : base ≤ w.heap.size)
    (h : ∀ v' w', w'.ownsRow base 2 1 v' (n + 1) (xs ++ [y]) → w.grownBy w' v.ownBlock → (∀ k, v'.ownBlock = some k → v.ownBlock = some k ∨ w.heap.size ≤ k) → K (a.put o.dst v') w') :
    if Region.wanted o (yielded ops a.tmps) = true then Oper.wp P o a w K Q else E := by
  have hw : Region.wanted o (yielded ops a.tmps) = true := by simp [Region.wanted, hgd]
  rw [if_pos hw]
  exact wp_app2 s x t ho i ht hi hz hsize hby base v n xs hs hown ad y hx hy h1 h63 hbytes hbase h
/-- The reading at block R: its rows of points and of broken pieces are its own and apart; so many bytes are used, so many pieces broken. -/
def RS (w : World) (B R u nb : Nat) : Prop :=
  ∃ (vp vb : Value) (np : Nat) (xp xb : List Value), w.heap[R]? = some (.cells #[vp, vb, .int .i64 u] 40) ∧ w.ownsRow B 2 1 vp np xp ∧ w.ownsRow B 2 1 vb nb xb ∧ np ≤ u ∧ B ≤ R ∧ ∀ k, vp.ownBlock = some k → vb.ownBlock = some k → False
theorem read_cells {w : World} {R : Nat} {a b c : Value} (h : w.heap[R]? = some (.cells #[a, b, c] 40)) :
    w.cell? ⟨R, 0, none⟩ = some a ∧ w.cell? ⟨R, 1, none⟩ = some b ∧ w.cell? ⟨R, 2, none⟩ = some c ∧ w.frozen? ⟨R, 0, none⟩ = false ∧ w.frozen? ⟨R, 1, none⟩ = false ∧ w.frozen? ⟨R, 2, none⟩ = false := by
  refine ⟨?_, ?_, ?_, ?_, ?_, ?_⟩ <;> simp [World.cell?, World.frozen?, h]
theorem rs_not {w : World} {B R : Nat} {v : Value} {n : Nat} {xs : List Value} {cs : Array Value} (ho : w.ownsRow B 2 1 v n xs) (h : w.heap[R]? = some (.cells cs 40)) : some R ≠ v.ownBlock := by
  intro e
  rcases ho.2 with ⟨rfl, _⟩ | ⟨g, cap, cur, rfl, hg, hh, r⟩
  · cases e
  · simp only [Value.ownBlock, Option.some.injEq] at e
    rw [← e, h] at hh
    cases hh
theorem own_form {w : World} {B : Nat} {e : TypeId} {v : Value} {n : Nat} {xs : List Value} (h : w.ownsRow B e 1 v n xs) : ∃ a c, v = .slice a n c := by
  rcases h.2 with ⟨hv, hn⟩ | ⟨g, cap, cur, hv, _⟩
  · exact ⟨none, 0, by rw [hv, hn]⟩
  · exact ⟨_, _, hv⟩
theorem rs_set {w : World} {R j : Nat} {u : Value} : w.grownBy (w.setCell ⟨R, j, none⟩ u) (some R) :=
  ⟨rfl, rfl, rfl, by simp, fun k _ hk => heap_setCell_other w ⟨R, j, none⟩ k u (fun e => hk (by simp [e]))⟩
/-- The block of the reading behind an append to one of its rows. -/
theorem rs_heap {w w3 : World} {B R : Nat} {v : Value} {n : Nat} {xs : List Value} {o : Obj} {cs : Array Value} (hh : w.heap[R]? = some (.cells cs 40)) (ho : w.ownsRow B 2 1 v n xs) (hg : (w.alloc o).grownBy w3 v.ownBlock) : w3.heap[R]? = some (.cells cs 40) := by
  have hlt : R < w.heap.size := (Array.getElem?_eq_some_iff.1 hh).1
  rw [hg.block R (by simp; omega) (rs_not ho hh), Below.heap_alloc w o R hlt]
  exact hh
theorem own_ne {w : World} {B R : Nat} {v : Value} {n : Nat} {xs : List Value} {cs : Array Value} (ho : w.ownsRow B 2 1 v n xs) (h : w.heap[R]? = some (.cells cs 40)) : v.ownBlock = none ∨ v.ownBlock ≠ some R := .inr fun e => rs_not ho h e.symm
theorem below_set {B : Nat} {a w : World} (h : Below B a w) {R j : Nat} (hR : B ≤ R) (u : Value) : Below B a (w.setCell ⟨R, j, none⟩ u) := h.setCell (p := ⟨R, j, none⟩) hR u
theorem rs_point {w w3 : World} {B R u nb np n : Nat} {vp vb v' y : Value} {xp xb : List Value} {o : Obj} (hh : w.heap[R]? = some (.cells #[vp, vb, .int .i64 u] 40)) (hop : w.ownsRow B 2 1 vp np xp) (hob : w.ownsRow B 2 1 vb nb xb)
    (hnp : np ≤ u) (hBR : B ≤ R) (hd : ∀ k, vp.ownBlock = some k → vb.ownBlock = some k → False) (hB : B ≤ w.heap.size) (hn1 : 1 ≤ n)
    (ho3 : w3.ownsRow B 2 1 v' (np + 1) (xp ++ [y])) (hg : (w.alloc o).grownBy w3 vp.ownBlock) (hb : ∀ k, v'.ownBlock = some k → vp.ownBlock = some k ∨ w.heap.size ≤ k) {z : Int} (hz : z = ((u + n : Nat) : Int)) :
    RS ((w3.setCell ⟨R, 0, none⟩ v').setCell ⟨R, 2, none⟩ (.int .i64 z)) B R (u + n) nb ∧ Below B w ((w3.setCell ⟨R, 0, none⟩ v').setCell ⟨R, 2, none⟩ (.int .i64 z)) := by
  subst hz
  have h3 := rs_heap hh hop hg
  have h4 := heap_setCell_same w3 R 0 _ 40 v' h3
  have h5 := heap_setCell_same (w3.setCell ⟨R, 0, none⟩ v') R 2 _ 40 (.int .i64 ((u + n : Nat) : Int)) h4
  have hob3 : w3.ownsRow B 2 1 vb nb xb := (hob.alloc o).kept hg (by
    cases hv : vb.ownBlock with
    | none => exact .inl rfl
    | some k => exact .inr fun e => hd k e.symm hv)
  have hp4 := ho3.kept (rs_set (R := R) (j := 0) (u := v')) (own_ne ho3 h3)
  have hb4 := hob3.kept (rs_set (R := R) (j := 0) (u := v')) (own_ne hob3 h3)
  have hp5 := hp4.kept (rs_set (R := R) (j := 2) (u := .int .i64 ((u + n : Nat) : Int))) (own_ne hp4 h4)
  have hb5 := hb4.kept (rs_set (R := R) (j := 2) (u := .int .i64 ((u + n : Nat) : Int))) (own_ne hb4 h4)
  refine ⟨⟨v', vb, np + 1, _, _, h5, hp5, hb5, by omega, hBR, fun k h1 h2 => ?_⟩, ?_⟩
  · rcases hb k h1 with h | h
    · exact hd k h h2
    · have := (hob.lt k h2).2
      omega
  · exact below_set (below_set (((Below.refl B w).alloc hB o).grown hg (by simp; omega) (fun k hk => (hop.lt k hk).1)) hBR v') hBR _
theorem rs_piece {w w3 : World} {B R u nb np : Nat} {vp vb v' y : Value} {xp xb : List Value} {o : Obj} (hh : w.heap[R]? = some (.cells #[vp, vb, .int .i64 u] 40)) (hop : w.ownsRow B 2 1 vp np xp) (hob : w.ownsRow B 2 1 vb nb xb)
    (hnp : np ≤ u) (hBR : B ≤ R) (hd : ∀ k, vp.ownBlock = some k → vb.ownBlock = some k → False) (hB : B ≤ w.heap.size)
    (ho3 : w3.ownsRow B 2 1 v' (nb + 1) (xb ++ [y])) (hg : (w.alloc o).grownBy w3 vb.ownBlock) (hb : ∀ k, v'.ownBlock = some k → vb.ownBlock = some k ∨ w.heap.size ≤ k) :
    RS (w3.setCell ⟨R, 1, none⟩ v') B R u (nb + 1) ∧ Below B w (w3.setCell ⟨R, 1, none⟩ v') := by
  have h3 := rs_heap hh hob hg
  have h4 := heap_setCell_same w3 R 1 _ 40 v' h3
  have hop3 : w3.ownsRow B 2 1 vp np xp := (hop.alloc o).kept hg (by
    cases hv : vp.ownBlock with
    | none => exact .inl rfl
    | some k => exact .inr fun e => hd k hv e.symm)
  have hb4 := ho3.kept (rs_set (R := R) (j := 1) (u := v')) (own_ne ho3 h3)
  have hp4 := hop3.kept (rs_set (R := R) (j := 1) (u := v')) (own_ne hop3 h3)
  refine ⟨⟨vp, v', np, _, _, h4, hp4, hb4, hnp, hBR, fun k h1 h2 => ?_⟩, ?_⟩
  · rcases hb k h2 with h | h
    · exact hd k h1 h
    · have := (hop.lt k h1).2
      omega
  · exact below_set (((Below.refl B w).alloc hB o).grown hg (by simp; omega) (fun k hk => (hob.lt k hk).1)) hBR v'
end Go.Proofs.YtiianallpmfcbaaDoor
