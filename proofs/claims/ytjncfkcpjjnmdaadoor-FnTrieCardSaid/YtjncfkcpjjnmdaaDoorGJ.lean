/- Several texts in one. -/
import Derived.Test.YtjncfkcpjjnmdaaDoorBldK
import Derived.Test.YtjncfkcpjjnmdaaDoorBase
import Derived.ArgAppend
import Derived.Deep.RegionLaw
/- A trie in a box whose two rows grow: what the specification's BuildTrie keeps. -/
namespace Go.Proofs.YtjncfkcpjjnmdaaDoor
open Go.RowKit
structure BoxT (w : World) (N g : Nat) (xi xd : List Int) (vi vd : Value) : Prop where
  hN : N ≤ w.heap.size
  hg : g < N
  box : w.heap[g]? = some (.cells #[vi, vd] 28 (0, 0))
  oi : w.ownsRow N 2 1 vi xi.length (xi.map (Value.int .i64))
  od : w.ownsRow N 2 1 vd xd.length (xd.map (Value.int .i64))
  apart : vi.ownBlock = none ∨ vi.ownBlock ≠ vd.ownBlock
/-- Below N all but the box stays. -/
structure Fr (N g : Nat) (w w' : World) : Prop where
  os : w'.os = w.os
  tape : w'.tape = w.tape
  output : w'.output = w.output
  size : w.heap.size ≤ w'.heap.size
  block : ∀ k, k < N → k ≠ g → w'.heap[k]? = w.heap[k]?
theorem Fr.refl (N g : Nat) (w : World) : Fr N g w w := ⟨rfl, rfl, rfl, Nat.le_refl _, fun _ _ _ => rfl⟩
theorem Fr.trans {N g : Nat} {a b c : World} (h : Fr N g a b) (h' : Fr N g b c) : Fr N g a c :=
  ⟨h'.os.trans h.os, h'.tape.trans h.tape, h'.output.trans h.output, Nat.le_trans h.size h'.size, fun k hk hn => (h'.block k hk hn).trans (h.block k hk hn)⟩
theorem Fr.drewN {N g : Nat} {a b : World} (h : Fr N g a b) (n : Nat) : Fr N g a (b.drewN n) := ⟨h.os, h.tape, h.output, h.size, h.block⟩
theorem BoxT.drewN {w : World} {N g : Nat} {xi xd : List Int} {vi vd : Value} (h : BoxT w N g xi xd vi vd) (n : Nat) : BoxT (w.drewN n) N g xi xd vi vd := ⟨h.hN, h.hg, h.box, h.oi, h.od, h.apart⟩
theorem BoxT.cells {w : World} {N g : Nat} {xi xd : List Int} {vi vd : Value} (h : BoxT w N g xi xd vi vd) : w.cell? ⟨g, 0, none⟩ = some vi ∧ w.cell? ⟨g, 1, none⟩ = some vd ∧ w.frozen? ⟨g, 0, none⟩ = false ∧ w.frozen? ⟨g, 1, none⟩ = false := by
  simp [World.cell?, World.frozen?, h.box]
theorem fr_put {w w2 : World} {N g j : Nat} {row : Option Nat} {u : Value} (hN : N ≤ w.heap.size) (hg : w.grownBy w2 row) (hr : ∀ k, k < N → some k ≠ row) : Fr N g w (w2.setCell ⟨g, j, none⟩ u) :=
  ⟨hg.os, hg.tape, hg.output, by have := hg.size; simp; omega, fun k hk hn => (heap_setCell_other w2 ⟨g, j, none⟩ k u hn).trans (hg.block k (by omega) (hr k hk))⟩
theorem new_apart {w : World} {N : Nat} {e : TypeId} {s n : Nat} {xs : List Value} {v u u' : Value} (hv : w.ownsRow N e s v n xs) (ha : v.ownBlock = none ∨ v.ownBlock ≠ u.ownBlock) (hn : NewAt w u u') : v.ownBlock = none ∨ v.ownBlock ≠ u'.ownBlock := by
  cases hk : v.ownBlock with
  | none => exact .inl rfl
  | some k =>
    refine .inr fun e1 => ?_
    rcases hn k e1.symm with h1 | h1
    · rcases ha with h2 | h2
      · rw [h2] at hk; cases hk
      · exact h2 (hk.trans h1.symm)
    · have := (hv.lt k hk).2
      omega
theorem apart_symm {u v : Value} (h : u.ownBlock = none ∨ u.ownBlock ≠ v.ownBlock) : v.ownBlock = none ∨ v.ownBlock ≠ u.ownBlock := by
  cases hk : v.ownBlock with
  | none => exact .inl rfl
  | some k =>
    refine .inr fun e => ?_
    rcases h with h | h
    · rw [h] at e; cases e
    · exact h (e.symm.trans hk.symm)
theorem BoxT.data {w w2 : World} {N g : Nat} {xi xd b : List Int} {vi vd vd' : Value} (h : BoxT w N g xi xd vi vd) (ho : w2.ownsRow N 2 1 vd' (xd.length + b.length) (xd.map (Value.int .i64) ++ b.map (Value.int .i64))) (hg : w.grownBy w2 vd.ownBlock) (hn : NewAt w vd vd') :
    BoxT (w2.setCell ⟨g, 1, none⟩ vd') N g xi (xd ++ b) vi vd' ∧ Fr N g w (w2.setCell ⟨g, 1, none⟩ vd') := by
  have hN := h.hN
  have hgN := h.hg
  have hs := hg.size
  have hb : w2.heap[g]? = some (.cells #[vi, vd] 28 (0, 0)) := (hg.block g (by omega) (own_ge h.od hgN)).trans h.box
  have oi2 := World.ownsRow.kept h.oi hg h.apart
  refine ⟨⟨by simp; omega, hgN, ?_, World.ownsRow.kept oi2 set_grown (.inr fun e => own_ge oi2 hgN e.symm), ?_, new_apart h.oi h.apart hn⟩, fr_put hN hg (fun k hk => own_ge h.od hk)⟩
  · rw [heap_setCell_same w2 g 1 _ _ vd' hb]
    rfl
  · rw [List.length_append, List.map_append]
    exact World.ownsRow.kept ho set_grown (.inr fun e => own_ge ho hgN e.symm)
theorem BoxT.index {w w2 : World} {N g : Nat} {xi xd : List Int} {x : Int} {vi vd vi' : Value} {o : Obj} (h : BoxT w N g xi xd vi vd) (ho : w2.ownsRow N 2 1 vi' (xi.length + 1) (xi.map (Value.int .i64) ++ [.int .i64 x])) (hg : (w.alloc o).grownBy w2 vi.ownBlock) (hn : NewAt w vi vi') :
    BoxT (w2.setCell ⟨g, 0, none⟩ vi') N g (xi ++ [x]) xd vi' vd ∧ Fr N g w (w2.setCell ⟨g, 0, none⟩ vi') := by
  have hN := h.hN
  have hgN := h.hg
  have hs := hg.size
  simp at hs
  have hb : w2.heap[g]? = some (.cells #[vi, vd] 28 (0, 0)) := (hg.block g (by simp; omega) (own_ge h.oi hgN)).trans ((alloc_block w o (by omega)).trans h.box)
  have od2 := World.ownsRow.kept (World.ownsRow.alloc h.od o) hg (apart_symm h.apart)
  have hf : Fr N g w (w2.setCell ⟨g, 0, none⟩ vi') :=
    ⟨hg.os, hg.tape, hg.output, by simp; omega, fun k hk hne => (heap_setCell_other w2 ⟨g, 0, none⟩ k vi' hne).trans ((hg.block k (by simp; omega) (own_ge h.oi hk)).trans (alloc_block w o (by omega)))⟩
  refine ⟨⟨by simp; omega, hgN, ?_, ?_, World.ownsRow.kept od2 set_grown (.inr fun e => own_ge od2 hgN e.symm), apart_symm (new_apart h.od (apart_symm h.apart) hn)⟩, hf⟩
  · rw [heap_setCell_same w2 g 0 _ _ vi' hb]
    rfl
  · rw [List.length_append, List.map_append]
    exact World.ownsRow.kept ho set_grown (.inr fun e => own_ge ho hgN e.symm)
end Go.Proofs.YtjncfkcpjjnmdaaDoor
/- append to a row of the call's own: the new row is where the old one was, or new. -/
namespace Go.Proofs.YtjncfkcpjjnmdaaDoor
open Go.RowKit
theorem app_blockG {P : Program} (w : World) (t ty e : TypeId) (i : TypeInfo) (z : Value) (size bytes : Nat) (ht : P.underlying t = some (.slice e)) (hi : P.info? e = some i) (hz : i.zero = some z) (hsize : i.size = size) (hby : i.bytes = bytes) (hzs : z.cells.size = size) (hsz : 0 < size)
    (base : Nat) (v : Value) (n : Nat) (xs : List Value) (hown : w.ownsRow base e size v n xs) (a : Addr) (m c : Nat) (news : List Value) (hl : news.length = m * size) (hn : ∀ j u, news[j]? = some u → w.cell? (a.add j) = some u) (h1 : ∀ u ∈ news, u.oneCell' = true)
    (h63 : n + m ≤ maxLen) (hbytes : (n + m) * bytes ≤ 140737488355328) (hbase : base ≤ w.heap.size) :
    ∃ v' w', (Builtin.append_ #[t, t] ty #[v, .slice (some a) m c]).run P w = .ok v' w' ∧ w'.ownsRow base e size v' (n + m) (xs ++ news) ∧ w.grownBy w' v.ownBlock ∧ (∀ k, v'.ownBlock = some k → v.ownBlock = some k ∨ w.heap.size ≤ k) := by
  obtain ⟨v', w', hr, ho, hg, _⟩ := run_append_own (P := P) w base t ty e i z size bytes ht hi hz hsize hby hzs hsz v n xs hown a m c news hl hn h1 h63 hbytes hbase
  refine ⟨v', w', hr, ho, hg, ?_⟩
  rcases hown.2 with ⟨rfl, rfl⟩ | ⟨g, cap, cur, rfl, hbg, hgg, hnc, hcm, hcs, htake⟩
  · obtain ⟨v2, w2, hr2, ho2, _, _⟩ := run_append_own (P := P) w w.heap.size t ty e i z size bytes ht hi hz hsize hby hzs hsz (.slice none 0 0) 0 [] (World.ownsRow_nil w _ e size) a m c news hl hn h1 h63 hbytes (Nat.le_refl _)
    have e : v' = v2 := by have := hr.symm.trans hr2; injection this
    intro k hk
    exact .inr (ho2.lt k (e ▸ hk)).1
  · by_cases hroom : n + m ≤ cap
    · have hr2 := run_append_room (P := P) w t ty e i ht hi g n cap cur hgg a m c news (by rw [hsize]; exact hl) hn h1 hroom (by rw [hsize, hl, ← Nat.add_mul, hcs]; exact Nat.mul_le_mul_right _ hroom)
      have e : v' = .slice (some ⟨g, 0, none⟩) (n + m) cap := by have := hr.symm.trans hr2; injection this
      intro k hk
      rw [e] at hk
      exact .inl hk
    · have holds : ∀ j u, xs[j]? = some u → w.cell? ((⟨g, 0, none⟩ : Addr).add j) = some u := hown.cells (g := g) rfl
      obtain ⟨v2, w2, hr2, ho2, _⟩ := run_append_arg_grows (P := P) w t ty e i z size bytes ht hi hz hsize hby hzs hsz ⟨g, 0, none⟩ n cap xs hown.1 holds a m c news hl hn (by omega) h63 hbytes
      have e : v' = v2 := by have := hr.symm.trans hr2; injection this
      intro k hk
      exact .inr (ho2.lt k (e ▸ hk)).1
theorem wpList_appG {P : Program} (w : World) {ops : Array Oper} {rest : List Oper} {o : Oper} {a : Act} {Q : Exit → Act → World → Prop} (hgd : o.guard = none) (s x : Operand) (t : TypeId)
    (ho : o.op = .call { callee := .builtin .append, args := #[s, x], argTypes := #[t, t] })
    (base : Nat) (e : TypeId) (i : TypeInfo) (z : Value) (size bytes : Nat) (ht : P.underlying t = some (.slice e)) (hi : P.info? e = some i) (hz : i.zero = some z) (hsize : i.size = size) (hby : i.bytes = bytes) (hzs : z.cells.size = size) (hsz : 0 < size)
    (v : Value) (n : Nat) (xs : List Value) (hs : a.eval s = v) (hown : w.ownsRow base e size v n xs) (ad : Addr) (m c : Nat) (news : List Value) (hx : a.eval x = .slice (some ad) m c) (hl : news.length = m * size) (hn : ∀ j u, news[j]? = some u → w.cell? (ad.add j) = some u) (h1 : ∀ u ∈ news, u.oneCell' = true)
    (h63 : n + m ≤ maxLen) (hbytes : (n + m) * bytes ≤ 140737488355328) (hbase : base ≤ w.heap.size)
    (h : ∀ v' w', w'.ownsRow base e size v' (n + m) (xs ++ news) → w.grownBy w' v.ownBlock → (∀ k, v'.ownBlock = some k → v.ownBlock = some k ∨ w.heap.size ≤ k) → wpList P ops Q rest (a.put o.dst v') w') : wpList P ops Q (o :: rest) a w := by
  refine wpList_plain hgd fun K hK => ?_
  obtain ⟨v', w', hr, h2, h3, h4⟩ := app_blockG (P := P) w t o.type e i z size bytes ht hi hz hsize hby hzs hsz base v n xs hown ad m c news hl hn h1 h63 hbytes hbase
  unfold Oper.wp execOp
  simp only [ho, resolve, invoke, builtin, Sem.run_bind, Sem.run_pure, Result.andThen_ok, List.map_toArray, List.map_cons, List.map_nil, hs, hx, hr]
  exact hK _ _ (h v' w' h2 h3 h4)
theorem step_append_own {P : Program} {ops : Array Oper} {o : Oper} {a : Act} {w : World} {K : Act → World → Prop} {Q : Exit → Act → World → Prop} {E : Prop}
    (hg : o.guard = none) (s x : Operand) (t : TypeId) (hop : o.op = Op.call { callee := Callee.builtin Builtin.append, args := #[s, x], argTypes := #[t, t] })
    (base : Nat) (e : TypeId) (i : TypeInfo) (z : Value) (size bytes : Nat) (ht : P.underlying t = some (.slice e)) (hi : P.info? e = some i) (hz : i.zero = some z)
    (hsize : i.size = size) (hby : i.bytes = bytes) (hzs : z.cells.size = size) (hsz : 0 < size)
    (v : Value) (n : Nat) (xs : List Value) (hs : a.eval s = v) (hown : w.ownsRow base e size v n xs)
    (ad : Addr) (m c : Nat) (news : List Value) (hx : a.eval x = .slice (some ad) m c) (hl : news.length = m * size) (hnews : ∀ j u, news[j]? = some u → w.cell? (ad.add j) = some u) (h1 : ∀ u ∈ news, u.oneCell' = true)
    (h63 : n + m ≤ maxLen) (hbytes : (n + m) * bytes ≤ 140737488355328) (hbase : base ≤ w.heap.size)
    (h : ∀ v' w', w'.ownsRow base e size v' (n + m) (xs ++ news) → w.grownBy w' v.ownBlock → K (a.put o.dst v') w') :
    if Region.wanted o (yielded ops a.tmps) = true then Oper.wp P o a w K Q else E := by
  have hw : Region.wanted o (yielded ops a.tmps) = true := by simp [Region.wanted, hg]
  rw [if_pos hw]
  exact wp_append_own w s x t hop base e i z size bytes ht hi hz hsize hby hzs hsz v n xs hs hown ad m c news hx hl hnews h1 h63 hbytes hbase (fun v' w' h2 h3 _ => h v' w' h2 h3)
end Go.Proofs.YtjncfkcpjjnmdaaDoor
/- A trie out of spans: the specification's walk. -/
namespace Go.Proofs.YtjncfkcpjjnmdaaDoor
open Go.RowKit
theorem BoxT.start {w0 w2 : World} {r : Nat} (hb : Below (r + 2) w0 w2) (hs : w0.heap.size = r + 2) (hg : w0.heap[r + 1]? = some (.cells #[.slice none 0 0, .slice none 0 0] 28 (0, 0))) : BoxT w2 w2.heap.size (r + 1) [] [] (.slice none 0 0) (.slice none 0 0) :=
  ⟨Nat.le_refl _, by have := hb.size; omega, (hb.block _ (by omega)).trans hg, World.ownsRow_nil _ _ _ _, World.ownsRow_nil _ _ _ _, .inl rfl⟩
theorem BoxT.grow0 {w w2 : World} {N g : Nat} {xi xd : List Int} {vi vd : Value} {o : Obj} (h : BoxT w N g xi xd vi vd) (hg : (w.alloc o).grownBy w2 vi.ownBlock) : w2.cell? ⟨g, 0, none⟩ = some vi ∧ w2.frozen? ⟨g, 0, none⟩ = false := by
  have hN := h.hN
  have hgN := h.hg
  have e : w2.heap[g]? = w.heap[g]? := (hg.block g (by simp; omega) (own_ge h.oi hgN)).trans (alloc_block w o (by omega))
  exact ⟨(World.cell?_of_block (a := ⟨g, 0, none⟩) e).trans h.cells.1, (World.frozen?_of_block (a := ⟨g, 0, none⟩) e).trans h.cells.2.2.1⟩
theorem BoxT.grow1 {w w2 : World} {N g : Nat} {xi xd : List Int} {vi vd : Value} (h : BoxT w N g xi xd vi vd) (hg : w.grownBy w2 vd.ownBlock) : w2.cell? ⟨g, 1, none⟩ = some vd ∧ w2.frozen? ⟨g, 1, none⟩ = false := by
  have hN := h.hN
  have hgN := h.hg
  have e : w2.heap[g]? = w.heap[g]? := hg.block g (by omega) (own_ge h.od hgN)
  exact ⟨(World.cell?_of_block (a := ⟨g, 1, none⟩) e).trans h.cells.2.1, (World.frozen?_of_block (a := ⟨g, 1, none⟩) e).trans h.cells.2.2.2⟩
theorem own_blk {w : World} {N gd n c m : Nat} {T : List (List Int)} (hA : ∀ b ∈ T, b.length = 64) (h : w.ownsRow N 2 1 (.slice (some ⟨gd, 0, none⟩) n c) n (T.flatten.map (Value.int .i64))) (hm : m < T.length) (cap : Nat) : BlkAt w w.heap.size (.slice (some ⟨gd, m * 64, none⟩) 64 cap) (tb T m) := by
  have hl := flat_len T hA
  have hn : T.flatten.length = n := by have := h.1; rw [List.length_map] at this; omega
  have := blk_cell (off := 0) (cap := cap) (B := w.heap.size) (w := w) (l := T.flatten) (h.lt gd rfl).2 (fun i hi => by
    rw [Nat.zero_add, h.cellAt i (by omega), List.getElem?_map]
    simp only [nth, List.getD, List.getElem?_eq_getElem hi]
    rfl) T.length m hl hm
  rw [Nat.zero_add, flat_blk T hA m hm] at this
  exact this
set_option maxHeartbeats 1500000 in
set_option maxRecDepth 100000 in
theorem specBuild (v : Value) (L : List Sp) (o : Int) (B : Nat) (w : World) (h : SpRow w B v L) (hr : right L = true) (hl : L.length ≤ 1048576) :
    Calls Tryd.prog 15 #[v, .int .i64 o] w fun e w' => ∃ vi vd, e = .returned (.agg #[vi, vd]) ∧ w'.ownsRow w.heap.size 2 1 vi 512 ((bld (valsL L o) 512).2.map (Value.int .i64)) ∧ w'.ownsRow w.heap.size 2 1 vd ((bld (valsL L o) 512).1.length * 64) ((bld (valsL L o) 512).1.flatten.map (Value.int .i64)) ∧ Below w.heap.size w w' := by
  obtain ⟨i0, hi, hz0, hz1, hz2⟩ := info_parts info2
  have HR := hide hr
  have HF : Hid (faultOf L = 0) := hide (by unfold faultOf; rw [hr]; rfl)
  have H := hide h
  clear h hr
  obtain ⟨x, hx⟩ : ∃ x : Obj, x = .cells #[.slice none 0 0, .slice none 0 0] 28 (0, 0) := ⟨_, rfl⟩
  have W0 : Hid (Below w.heap.size w ((w.alloc x).alloc x)) := hide (((Below.refl _ _).alloc (Nat.le_refl _) x).alloc (by simp) x)
  have S0 : Hid (((w.alloc x).alloc x).heap.size = w.heap.size + 2) := hide (by simp)
  have C0 : Hid (((w.alloc x).alloc x).heap[w.heap.size]? = some x) := hide ((alloc_block _ _ (by simp)).trans (heap_alloc_new _ _))
  have C1 : Hid (((w.alloc x).alloc x).heap[w.heap.size + 1]? = some x) := hide (by have := heap_alloc_new (w.alloc x) x; simpa using this)
  have H0 := hide ((unhide H).below (unhide W0))
  subst hx
  clear H
  go_enter Tryd.func15, Tryd.ntmps15
  go_wp2_with fail
  generalize (w.alloc (.cells #[.slice none 0 0, .slice none 0 0] 28)).alloc (.cells #[.slice none 0 0, .slice none 0 0] 28) = w0 at *
  refine (specFault _ L B _ (unhide H0) hl).mono ?_
  rintro e w1 ⟨rfl, hb1⟩
  rw [unhide HF]
  have H1 := hide ((unhide H0).below hb1)
  have B1 : Hid (Below (w.heap.size + 2) w0 w1) := hide (hb1.mono (by rw [unhide S0]; exact Nat.le_refl _))
  clear hb1 H0
  go_wp2_with fail
  refine (l04Values_any _ L o B _ (unhide H1) (unhide HR)).mono ?_
  rintro e w2 ⟨rfl, hv, hb2⟩
  have hs1 := (unhide B1).size
  rw [unhide S0] at hs1
  have HV : Hid (VRow w2 w1.heap.size (fun q => pv L o q)) := hide hv
  have B2 : Hid (Below (w.heap.size + 2) w0 w2) := hide ((unhide B1).trans (hb2.mono hs1))
  have hs2 : w1.heap.size < w2.heap.size := (World.ownsRow.lt hv _ rfl).2
  clear hv hb2 B1 H1
  have ST : Hid (∃ vi vd, BoxT w2 w2.heap.size (w.heap.size + 1) (bld (valsL L o) 0).2 (bld (valsL L o) 0).1.flatten vi vd) := hide ⟨_, _, BoxT.start (unhide B2) (unhide S0) (unhide C1)⟩
  have HD : Hid (∀ W, Fr w2.heap.size (w.heap.size + 1) w2 W → ∀ k, k < 512 → BlkAt W w2.heap.size (.slice (some ⟨w1.heap.size, k * 64, none⟩) 64 (32768 - k * 64)) (blk (valsL L o) k)) := hide (fun W hW k hk => by
    have := blk_cell (off := 0) (cap := 32768 - k * 64) (l := valsL L o) hs2 (fun i hi => (World.cell?_of_block (a := ⟨w1.heap.size, 0 + i, none⟩) (hW.block _ hs2 (by show w1.heap.size ≠ w.heap.size + 1; omega))).trans (by
      have hi' : i < 32768 := by rw [valsL_len] at hi; omega
      have := ((unhide HV).at i hi').1
      rw [Nat.zero_add, this]
      simp [nth, valsL, tabF, List.getD, hi'])) 512 k (valsL_len L o) hk
    rwa [Nat.zero_add] at this)
  have HAll := hide (fun k (hk : k ≤ 512) => bld_all (valsL L o) 512 (valsL_len L o) k hk)
  clear HV
  generalize hvl : valsL L o = vl at *
  have HVL := hide hvl
  clear hvl
  go_wp2
  go_loopw [7] (fun iv wr => ∃ k p : Nat, k ≤ 512 ∧ p = k * 64 ∧ iv = .int .i64 p ∧ Hid (∃ vi vd, BoxT wr w2.heap.size (w.heap.size + 1) (bld vl k).2 (bld vl k).1.flatten vi vd) ∧ Hid (Fr w2.heap.size (w.heap.size + 1) w2 wr)) (fun i _ => 32768 - (intOf i).toNat)
  case atStart => exact ⟨0, 0, Nat.zero_le _, rfl, rfl, ST, hide (Fr.refl _ _ _)⟩
  case round =>
    obtain ⟨k, p, hk, hp, rfl, HS, HFr⟩ := hrel
    clear ST
    by_cases hlt : k < 512
    · have hlt' : (p : Int) < 32768 := by omega
      have hp3 : p + 64 ≤ 32768 := by omega
      have HX : Hid (BlkAt wr w2.heap.size (.slice (some ⟨w1.heap.size, p, none⟩) 64 (32768 - p)) (blk vl k)) := hide (by rw [hp]; exact (unhide HD) wr (unhide HFr) k hlt)
      obtain ⟨vi, vd, hBx⟩ := unhide HS
      have HSz := hide (flat_len (bld vl k).1 ((unhide HAll) k hk))
      have HA1 := hide ((unhide HAll) k hk)
      have hbk := bld_len vl k
      have HIx := hide (bld_ix_len vl k)
      have HP := hide hp
      have HNx : Hid ((bld vl (k + 1)).1 = addB (bld vl k).1 (blk vl k) ∧ (bld vl (k + 1)).2 = (bld vl k).2 ++ [((idxF (blk vl k) (bld vl k).1 : Nat) : Int)]) := hide ⟨rfl, rfl⟩
      clear hp HS
      generalize (bld vl k).1 = T at *
      generalize (bld vl k).2 = ix at *
      generalize blk vl k = bb at *
      obtain ⟨ai, ci, hvi⟩ := own_form hBx.oi
      obtain ⟨ad, cd, hvd⟩ := own_form hBx.od
      subst hvi hvd
      have HBx := hide hBx
      obtain ⟨x0, x1, y0, y1⟩ := hBx.cells
      rw [unhide HSz] at x1
      obtain ⟨D, hD⟩ : ∃ D, T.length * 64 = D := ⟨_, rfl⟩
      rw [hD] at x1 HSz
      have hDl : D ≤ 32768 := by omega
      have HDe := hide hD
      clear hBx hD
      go_wp2
      rw [show p + 64 - p = 64 by omega]
      go_loopw [9] (fun av wq => ∃ m q n : Nat, m ≤ T.length ∧ Hid (q = m * 64) ∧ av = .int .i64 q ∧ wq = wr.drewN n ∧ Hid (∀ j, j < m → tb T j ≠ bb)) (fun a _ => D - (intOf a).toNat)
      case atStart => exact ⟨0, 0, 0, Nat.zero_le _, hide rfl, rfl, rfl, hide (fun j hj => by omega)⟩
      case round =>
        obtain ⟨m, q, n, hm, HQ, rfl, rfl, HC⟩ := hrel
        by_cases hmt : m < T.length
        · have hq3 : q + 64 ≤ D := by rw [unhide HQ, ← unhide HDe]; omega
          have hmt' : (q : Int) < (D : Int) := by omega
          have hod := (unhide HBx).od
          rw [unhide HSz] at hod
          obtain ⟨gd, cd', hv⟩ := own_at hod (by omega)
          simp only [Value.slice.injEq] at hv
          obtain ⟨rfl, _, rfl⟩ := hv
          have hcd : D ≤ cd := by
            rcases hod.2 with ⟨_, h0⟩ | ⟨g', cap, cur, hv, _, _, hn, _⟩
            · omega
            · injection hv with _ _ h3
              omega
          have sm3 : (q : Int) + 64 ≤ (cd : Int) := by omega
          have sm8 : ¬ cd = q := by omega
          have IB : Hid (IntsAt wr (.slice (some ⟨gd, q, none⟩) 64 (cd - q)) (tb T m) ∧ (tb T m).length = 64) := hide (by
            have := own_blk (unhide HA1) hod hmt (cd - q)
            rw [← unhide HQ] at this
            exact ⟨this.ints (Nat.le_refl _), this.1⟩)
          have IX : Hid (IntsAt wr (.slice (some ⟨w1.heap.size, p, none⟩) 64 (32768 - p)) bb ∧ bb.length = 64) := hide ⟨(unhide HX).ints (unhide HBx).hN, (unhide HX).1⟩
          clear hod
          have z1 : (wr.drewN n).cell? ⟨w.heap.size + 1, 1, none⟩ = some (.slice (some ⟨gd, 0, none⟩) D cd) := x1
          go_wp2_with fail
          refine (same_any _ _ (tb T m) bb _ ((unhide IB).1.drewN n) ((unhide IX).1.drewN n) (by have := (unhide IB).2; omega) (by have := (unhide IX).2; omega)).mono ?_
          rintro e w5 ⟨rfl, n', rfl⟩
          cases hsb : sameB (tb T m) bb
          · have HC' : Hid (∀ j, j < m + 1 → tb T j ≠ bb) := hide (fun j hj => by
              by_cases e : j = m
              · rw [e]; exact (sameB_not _ _).1 hsb
              · exact unhide HC j (by omega))
            go_wp2
            go_roundw
            case rel => exact ⟨m + 1, q + 64, n + n', by omega, hide (by rw [unhide HQ]; omega), by go_num, by first | rfl | exact drewN_add _ _ _, HC'⟩
            case measure => simp [intOf]; omega
          · have HIdx : Hid (idxF bb T = m) := hide (idxF_first bb T m hmt ((sameB_iff _ _).1 hsb) (unhide HC))
            have HAd : Hid (addB T bb = T) := hide (addB_mem (((sameB_iff _ _).1 hsb) ▸ tb_mem hmt))
            have HBd : Hid (BoxT ((wr.drewN n).drewN n') w2.heap.size (w.heap.size + 1) ix T.flatten (.slice ai ix.length ci) (.slice (some ⟨gd, 0, none⟩) T.flatten.length cd)) := hide (((unhide HBx).drewN n).drewN n')
            have HFd := hide (((unhide HFr).drewN n).drewN n')
            have z1 : ((wr.drewN n).drewN n').cell? ⟨w.heap.size + 1, 1, none⟩ = some (.slice (some ⟨gd, 0, none⟩) D cd) := x1
            have z0 : ((wr.drewN n).drewN n').cell? ⟨w.heap.size + 1, 0, none⟩ = some (.slice ai ix.length ci) := x0
            clear HBx HFr
            generalize (wr.drewN n).drewN n' = wd at *
            have hqD : ((q : Int) == (D : Int)) = false := by simp; omega
            have hqd : (q : Int).tdiv 64 = (m : Int) := by rw [Int.tdiv_eq_ediv_of_nonneg (by omega), unhide HQ]; omega
            have hNs := (unhide HBd).hN
            have z0a := cell_alloc z0
            have hixl : ix.length ≤ 512 := by have := unhide HIx; omega
            have HO : Hid (wd.ownsRow w2.heap.size 2 1 (.slice ai ix.length ci) ix.length (ix.map (Value.int .i64))) := hide (unhide HBd).oi
            go_upto_region 14 with fail
            clear hqD hsb sm3 sm8 hmt' hcd z1 x0 x1 y0 y1
            go_wp2_with (at_builtin; go_loud (refine wpList_appG _ rfl _ _ 26 rfl w2.heap.size 2 i0 (.int .i64 0) 1 8 Tryd.underlying26 hi hz0 hz1 hz2 rfl (by decide) _ _ _ rfl (World.ownsRow.alloc (unhide HO) _) ⟨wd.heap.size, 0, none⟩ 1 1 [.int .i64 (m : Int)] rfl rfl ?c1 ?c2 ?c3 ?c4 ?c5 ?_))
            case c1 => exact one_new _ _ _
            case c2 => intro u hu; simp at hu; subst hu; rfl
            case c3 => unfold maxLen; omega
            case c4 => omega
            case c5 => simp; omega
            intro v' w5 ho5 hg' hblk
            obtain ⟨g0, g1⟩ := (unhide HBd).grow0 hg'
            have RR := hide ((unhide HBd).index ho5 hg' (fun j hj => (hblk j hj).imp_right (fun h => by (try simp at h); omega)))
            obtain ⟨va5, vc5, hv5⟩ := own_form ho5
            subst hv5
            clear ho5 hg' hblk
            all_goals
              go_wp2
              go_roundw
              case rel => exact ⟨k + 1, p + 64, by omega, by rw [unhide HP]; omega, by go_num, hide ⟨_, _, by rw [(unhide HNx).1, (unhide HNx).2, unhide HIdx, unhide HAd]; exact (unhide RR).1⟩, hide ((unhide HFd).trans (unhide RR).2)⟩
              case measure => simp [intOf]; omega
        · obtain rfl : m = T.length := by omega
          have hqe : q = D := by rw [unhide HQ, unhide HDe]
          have hnot : bb ∉ T := fun hmem => by
            obtain ⟨j, hj, e⟩ := tb_of_mem hmem
            exact unhide HC j hj e
          have HIdx : Hid (idxF bb T = T.length) := hide (idxF_not hnot)
          have HAd : Hid (addB T bb = T ++ [bb]) := hide (addB_not hnot)
          clear hnot HC
          subst hqe
          have HBd : Hid (BoxT (wr.drewN n) w2.heap.size (w.heap.size + 1) ix T.flatten (.slice ai ix.length ci) (.slice ad q cd)) := hide (by have := (unhide HBx).drewN n; rw [unhide HSz] at this; exact this)
          have HFd := hide ((unhide HFr).drewN n)
          have HXd : Hid (BlkAt (wr.drewN n) w2.heap.size (.slice (some ⟨w1.heap.size, p, none⟩) 64 (32768 - p)) bb) := hide (unhide HX)
          have z1 : (wr.drewN n).cell? ⟨w.heap.size + 1, 1, none⟩ = some (.slice ad q cd) := x1
          clear HBx HFr x0 x1 y0 y1 HX
          generalize wr.drewN n = wd at *
          have HO : Hid (wd.ownsRow w2.heap.size 2 1 (.slice ad q cd) q (T.flatten.map (Value.int .i64))) := hide (by have := (unhide HBd).od; rw [unhide HSz] at this; exact this)
          have HSr : Hid (∀ j u, (bb.map (Value.int .i64))[j]? = some u → wd.cell? ((⟨w1.heap.size, p, none⟩ : Addr).add j) = some u) := hide (by
            obtain ⟨hl, g', off, cap, e, _, hc⟩ := unhide HXd
            simp only [Value.slice.injEq, Option.some.injEq, Addr.mk.injEq] at e
            obtain ⟨⟨rfl, rfl, _⟩, _, _⟩ := e
            exact blk_src hl hc)
          have HL := hide (unhide HXd).1
          have hNs := (unhide HBd).hN
          go_wp2_with (at_builtin; refine wpList_appG _ rfl _ _ 26 rfl w2.heap.size 2 i0 (.int .i64 0) 1 8 Tryd.underlying26 hi hz0 hz1 hz2 rfl (by decide) _ _ _ rfl (unhide HO) ⟨w1.heap.size, p, none⟩ 64 (32768 - p) (bb.map (Value.int .i64)) rfl (by rw [List.length_map]; exact unhide HL) (unhide HSr) (nums_one _) (by unfold maxLen; omega) (by omega) hNs ?_)
          intro v' w5 ho5 hg' hblk
          obtain ⟨g0, g1⟩ := (unhide HBd).grow1 hg'
          have RR := hide ((unhide HBd).data (b := bb) (by rw [unhide HSz, unhide HL, List.map_flatten]; exact ho5) hg' hblk)
          obtain ⟨va5, vc5, hv5⟩ := own_form ho5
          subst hv5
          clear ho5 hg' hblk HO HSr z1
          go_upto_region 14 with fail
          generalize w5.setCell ⟨w.heap.size + 1, 1, none⟩ (.slice va5 (q + 64) vc5) = w6 at *
          clear g0 g1 HBd
          have HBd := hide (unhide RR).1
          have HFe := hide ((unhide HFd).trans (unhide RR).2)
          clear RR HFd hNs
          obtain ⟨z0, _, _, _⟩ := (unhide HBd).cells
          have hqd : (q : Int).tdiv 64 = (T.length : Int) := by rw [Int.tdiv_eq_ediv_of_nonneg (by omega), unhide HQ]; omega
          have hNs := (unhide HBd).hN
          have z0a := cell_alloc z0
          have hixl : ix.length ≤ 512 := by have := unhide HIx; omega
          have HO : Hid (w6.ownsRow w2.heap.size 2 1 (.slice ai ix.length ci) ix.length (ix.map (Value.int .i64))) := hide (unhide HBd).oi
          go_wp2_with (at_builtin; go_loud (refine wpList_appG _ rfl _ _ 26 rfl w2.heap.size 2 i0 (.int .i64 0) 1 8 Tryd.underlying26 hi hz0 hz1 hz2 rfl (by decide) _ _ _ rfl (World.ownsRow.alloc (unhide HO) _) ⟨w6.heap.size, 0, none⟩ 1 1 [.int .i64 (T.length : Int)] rfl rfl ?c1 ?c2 ?c3 ?c4 ?c5 ?_))
          case c1 => exact one_new _ _ _
          case c2 => intro u hu; simp at hu; subst hu; rfl
          case c3 => unfold maxLen; omega
          case c4 => omega
          case c5 => simp; omega
          intro v' w7 ho5 hg' hblk
          obtain ⟨g0, g1⟩ := (unhide HBd).grow0 hg'
          have RR := hide ((unhide HBd).index ho5 hg' (fun j hj => (hblk j hj).imp_right (fun h => by (try simp at h); omega)))
          obtain ⟨va7, vc7, hv7⟩ := own_form ho5
          subst hv7
          clear ho5 hg' hblk
          go_wp2
          go_roundw
          case rel => exact ⟨k + 1, p + 64, by omega, by rw [unhide HP]; omega, by go_num, hide ⟨_, _, by rw [(unhide HNx).1, (unhide HNx).2, unhide HIdx, unhide HAd, flat_snoc]; exact (unhide RR).1⟩, hide ((unhide HFe).trans (unhide RR).2)⟩
          case measure => simp [intOf]; omega
    · obtain rfl : k = 512 := by omega
      obtain ⟨vi, vd, hBx⟩ := unhide HS
      have hSz := flat_len (bld vl 512).1 ((unhide HAll) 512 hk)
      have HIx := hide (bld_ix_len vl 512)
      have HBx := hide hBx
      obtain ⟨x0, x1, y0, y1⟩ := hBx.cells
      obtain ⟨ai, ci, hvi⟩ := own_form hBx.oi
      obtain ⟨ad, cd, hvd⟩ := own_form hBx.od
      rw [hSz] at hvd
      obtain ⟨D, hD⟩ : ∃ D, (bld vl 512).1.length * 64 = D := ⟨_, rfl⟩
      rw [hD] at hvd hSz
      subst hvi hvd
      have HSz := hide hSz
      have HDe := hide hD
      clear hBx hSz hD HS HD HAll
      generalize hTe : (bld vl 512).1 = T at *
      generalize hXe : (bld vl 512).2 = ix at *
      have HTe := hide hTe
      have HXe := hide hXe
      clear hTe hXe
      have h7 : wr.heap[w.heap.size]? = some (.cells #[.slice none 0 0, .slice none 0 0] 28 (0, 0)) := ((unhide HFr).block _ (by omega) (by omega)).trans (((unhide B2).block _ (by omega)).trans (unhide C0))
      have e0 : wr.cell? ⟨w.heap.size, 0, none⟩ = some (.slice none 0 0) := by simp [World.cell?, h7]
      have e1 : wr.cell? ⟨w.heap.size, 1, none⟩ = some (.slice none 0 0) := by simp [World.cell?, h7]
      have f0 : wr.frozen? ⟨w.heap.size, 0, none⟩ = false := by simp [World.frozen?, h7]
      have f1 : wr.frozen? ⟨w.heap.size, 1, none⟩ = false := by simp [World.frozen?, h7]
      clear h7
      subst hp
      go_wp2
      refine bodyPost_ret (by simp [results, Tryd.results15, go_sem, e0, e1]; try rfl) rfl ?_
      rw [unhide HVL, unhide HTe, unhide HXe, unhide HDe]
      have OI := own_base (B := w.heap.size) (unhide HBx).oi (by omega)
      have OD := own_base (B := w.heap.size) (unhide HBx).od (by omega)
      have gi := own_ge (unhide HBx).oi (k := w.heap.size) (by omega)
      have gd := own_ge (unhide HBx).od (k := w.heap.size) (by omega)
      refine ⟨_, _, rfl, ?_, ?_, ?_⟩
      · have := World.ownsRow.kept (World.ownsRow.kept OI (set_grown (R := w.heap.size) (j := 0) (u := .slice ai ix.length ci)) (.inr fun e => gi e.symm)) (set_grown (R := w.heap.size) (j := 1) (u := .slice ad D cd)) (.inr fun e => gi e.symm)
        rw [unhide HIx] at this ⊢
        exact this
      · have := World.ownsRow.kept (World.ownsRow.kept OD (set_grown (R := w.heap.size) (j := 0) (u := .slice ai ix.length ci)) (.inr fun e => gd e.symm)) (set_grown (R := w.heap.size) (j := 1) (u := .slice ad D cd)) (.inr fun e => gd e.symm)
        rw [unhide HSz] at this
        exact this
      · have hF : Below w.heap.size w2 wr := ⟨(unhide HFr).os, (unhide HFr).tape, (unhide HFr).output, (unhide HFr).size, fun k hk => (unhide HFr).block k (by omega) (by omega)⟩
        exact ((((unhide W0).trans ((unhide B2).mono (by omega))).trans hF).setCell (p := ⟨w.heap.size, 0, none⟩) (Nat.le_refl _) _).setCell (p := ⟨w.heap.size, 1, none⟩) (Nat.le_refl _) _
end Go.Proofs.YtjncfkcpjjnmdaaDoor
/- A trie out of spans: the specification's walk for spans that are not right. -/
namespace Go.Proofs.YtjncfkcpjjnmdaaDoor
open Go.RowKit
set_option maxHeartbeats 1500000 in
set_option maxRecDepth 100000 in
theorem specBuild_no (v : Value) (L : List Sp) (o : Int) (B : Nat) (w : World) (h : SpRow w B v L) (hr : right L = false) (hl : L.length ≤ 1048576) :
    Calls Tryd.prog 15 #[v, .int .i64 o] w fun e w' => e = .returned (.agg #[.slice none 0 0, .slice none 0 0]) ∧ Below w.heap.size w w' := by
  have HF : Hid (faultOf L = 1) := hide (by unfold faultOf; rw [hr]; rfl)
  have H := hide h
  clear h hr
  obtain ⟨x, hx⟩ : ∃ x : Obj, x = .cells #[.slice none 0 0, .slice none 0 0] 28 (0, 0) := ⟨_, rfl⟩
  have W0 : Hid (Below w.heap.size w ((w.alloc x).alloc x)) := hide (((Below.refl _ _).alloc (Nat.le_refl _) x).alloc (by simp) x)
  have S0 : Hid (((w.alloc x).alloc x).heap.size = w.heap.size + 2) := hide (by simp)
  have C0 : Hid (((w.alloc x).alloc x).heap[w.heap.size]? = some x) := hide ((alloc_block _ _ (by simp)).trans (heap_alloc_new _ _))
  have C1 : Hid (((w.alloc x).alloc x).heap[w.heap.size + 1]? = some x) := hide (by have := heap_alloc_new (w.alloc x) x; simpa using this)
  have H0 := hide ((unhide H).below (unhide W0))
  subst hx
  clear H
  go_enter Tryd.func15, Tryd.ntmps15
  go_wp2_with fail
  generalize (w.alloc (.cells #[.slice none 0 0, .slice none 0 0] 28)).alloc (.cells #[.slice none 0 0, .slice none 0 0] 28) = w0 at *
  refine (specFault _ L B _ (unhide H0) hl).mono ?_
  rintro e w1 ⟨rfl, hb1⟩
  rw [unhide HF]
  have B1 : Hid (Below (w.heap.size + 2) w0 w1) := hide (hb1.mono (by rw [unhide S0]; exact Nat.le_refl _))
  have h7 : w1.heap[w.heap.size]? = some (.cells #[.slice none 0 0, .slice none 0 0] 28 (0, 0)) := ((unhide B1).block _ (by omega)).trans (unhide C0)
  have h8 : w1.heap[w.heap.size + 1]? = some (.cells #[.slice none 0 0, .slice none 0 0] 28 (0, 0)) := ((unhide B1).block _ (by omega)).trans (unhide C1)
  have e0 : w1.cell? ⟨w.heap.size, 0, none⟩ = some (.slice none 0 0) := by simp [World.cell?, h7]
  have e1 : w1.cell? ⟨w.heap.size, 1, none⟩ = some (.slice none 0 0) := by simp [World.cell?, h7]
  have f0 : w1.frozen? ⟨w.heap.size, 0, none⟩ = false := by simp [World.frozen?, h7]
  have f1 : w1.frozen? ⟨w.heap.size, 1, none⟩ = false := by simp [World.frozen?, h7]
  have x0 : w1.cell? ⟨w.heap.size + 1, 0, none⟩ = some (.slice none 0 0) := by simp [World.cell?, h8]
  have x1 : w1.cell? ⟨w.heap.size + 1, 1, none⟩ = some (.slice none 0 0) := by simp [World.cell?, h8]
  clear hb1 H0 h7 h8
  go_wp2
  refine bodyPost_ret (by simp [results, Tryd.results15, go_sem, e0, e1]; try rfl) rfl ?_
  exact ⟨rfl, (((unhide W0).trans ((unhide B1).mono (by omega))).setCell (p := ⟨w.heap.size, 0, none⟩) (Nat.le_refl _) _).setCell (p := ⟨w.heap.size, 1, none⟩) (Nat.le_refl _) _⟩
end Go.Proofs.YtjncfkcpjjnmdaaDoor
