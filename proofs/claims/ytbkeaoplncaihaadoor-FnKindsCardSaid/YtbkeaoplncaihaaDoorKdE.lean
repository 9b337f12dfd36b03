/- The edges at which something that is told of points may change: the specification's list, told by a fold. -/
import Derived.Test.YtbkeaoplncaihaaDoorSpecB
import Derived.Deep.RegionLaw
import Derived.Deep.DeepCutAuto
import Derived.RegionTactic
import Derived.Outline
namespace Go.Proofs.YtbkeaoplncaihaaDoor.Kd
open Go.RowKit
theorem info2 : (Tryd.prog.info? 2).map (fun i => (i.zero, i.size, i.bytes)) = some (some (.int .i64 0), 1, 8) := by kernel_rfl
theorem bdrew' {B : Nat} {a w : World} (h : Below B a w) (n : Nat) : Below B a (w.drewN n) := h.trans ⟨rfl, rfl, rfl, Nat.le_refl _, fun _ _ => rfl⟩
theorem ownsRow_below {w w' : World} {base : Nat} {e : TypeId} {size : Nat} {v : Value} {n : Nat} {xs : List Value} (h : w.ownsRow base e size v n xs) (hb : Below w.heap.size w w') : w'.ownsRow base e size v n xs := by
  refine ⟨h.1, ?_⟩
  rcases h.2 with h' | ⟨g, cap, cur, hv, hg, hh, r⟩
  · exact .inl h'
  · have hlt : g < w.heap.size := (Array.getElem?_eq_some_iff.1 hh).1
    exact .inr ⟨g, cap, cur, hv, hg, (hb.block g hlt).trans hh, r⟩
/-- An append to a row of the call's own, as one step of a region that draws its order. -/
theorem step_append_own {P : Program} {ops : Array Oper} {o : Oper} {a : Act} {w : World} {K : Act → World → Prop} {Q : Exit → Act → World → Prop} {E : Prop}
    (hg : o.guard = none) (s x : Operand) (t : TypeId) (hop : o.op = Op.call { callee := Callee.builtin Builtin.append, args := #[s, x], argTypes := #[t, t] })
    (base : Nat) (e : TypeId) (i : TypeInfo) (z : Value) (size bytes : Nat) (ht : P.underlying t = some (.slice e)) (hi : P.info? e = some i) (hz : i.zero = some z)
    (hsize : i.size = size) (hby : i.bytes = bytes) (hzs : z.cells.size = size) (hsz : 0 < size)
    (v : Value) (n : Nat) (xs : List Value) (hs : a.eval s = v) (hown : w.ownsRow base e size v n xs)
    (ad : Addr) (m c : Nat) (news : List Value) (hx : a.eval x = .slice (some ad) m c) (hl : news.length = m * size) (hnews : ∀ j u, news[j]? = some u → w.cell? (ad.add j) = some u) (h1 : ∀ u ∈ news, u.oneCell' = true)
    (h63 : n + m ≤ maxLen) (hbytes : (n + m) * bytes ≤ 140737488355328) (hbase : base ≤ w.heap.size)
    (h : ∀ v' w', w'.ownsRow base e size v' (n + m) (xs ++ news) → w.grownBy w' v.ownBlock → K (a.put o.dst v') w') :
    if Region.wanted o (yielded ops a.tmps) = true then Oper.wp P o a w K Q else E := by
  have hw : Region.wanted o (yielded ops a.tmps) = true := by simp [Region.wanted, hg]
  rw [if_pos hw]
  exact wp_append_own w s x t hop base e i z size bytes ht hi hz hsize hby hzs hsz v n xs hs hown ad m c news hx hl hnews h1 h63 hbytes hbase (fun v' w' h2 h3 _ => h v' w' h2 h3)
def base22 : List Int := [0, 1584, 1585, 1586, 4096, 4112, 4128, 4136, 4144, 4152, 8192, 8400, 8608, 8704, 8912, 9120, 9216, 9424, 9632, 12288, 24576, 32768]
/-- The first k rows' edges. -/
def rowE (l : List (Int × Int × Int × Int)) (b : Int) : Nat → List Int
  | 0 => []
  | k + 1 => rowE l b k ++ [b + gA l k, b + gB l k + 1]
theorem rowE_length (l : List (Int × Int × Int × Int)) (b : Int) (k : Nat) : (rowE l b k).length = 2 * k := by
  induction k with
  | zero => rfl
  | succ k ih => simp [rowE, ih]; omega
theorem spc_bd0 : ((List.range 32).all fun i => decide (0 ≤ gA spc i) && decide (gA spc i ≤ 100000) && decide (0 ≤ gB spc i) && decide (gB spc i ≤ 100000)) = true := by decide +kernel
theorem spc_bd (i : Nat) (h : i < 32) : 0 ≤ gA spc i ∧ gA spc i ≤ 100000 ∧ 0 ≤ gB spc i ∧ gB spc i ≤ 100000 := by
  have := List.all_eq_true.1 spc_bd0 i (by simpa using h)
  simp only [Bool.and_eq_true, decide_eq_true_eq] at this
  omega
/-- What the appending loops carry: the list in a row of the call's own, and the rows that are read in a block of their own. -/
def Ed (w wr : World) (R : Nat) (v : Value) (L : List Int) (l : List (Int × Int × Int × Int)) : Prop :=
  wr.ownsRow w.heap.size 2 1 v L.length (L.map (Value.int .i64)) ∧ RowsAt wr R l ∧ (∃ c, wr.heap[R]? = some (.cells c 56 (0, 0))) ∧ Below w.heap.size w wr
theorem Ed.step {w wr w3 : World} {R : Nat} {v v' : Value} {L : List Int} {l : List (Int × Int × Int × Int)} {x y : Int} {o : Obj} (h : Ed w wr R v L l)
    (ho : w3.ownsRow w.heap.size 2 1 v' (L.length + 2) (L.map (Value.int .i64) ++ [.int .i64 x, .int .i64 y])) (hgd : (wr.alloc o).drew.grownBy w3 v.ownBlock) : Ed w w3 R v' (L ++ [x, y]) l := by
  have hg : (wr.alloc o).grownBy w3 v.ownBlock := ⟨hgd.os, hgd.tape, hgd.output, hgd.size, hgd.block⟩
  obtain ⟨h1, h2, ⟨c, hc⟩, hb⟩ := h
  have hlt : R < wr.heap.size := (Array.getElem?_eq_some_iff.1 hc).1
  have hne : some R ≠ v.ownBlock := by
    intro e
    rcases h1.2 with ⟨rfl, _⟩ | ⟨g, cap, cur, rfl, _, hh, _⟩
    · cases e
    · simp only [Value.ownBlock, Option.some.injEq] at e
      rw [← e, hc] at hh
      cases hh
  have hR : w3.heap[R]? = wr.heap[R]? := by rw [hg.block R (by simp; omega) hne, Below.heap_alloc wr o R hlt]
  refine ⟨?_, fun i hi => ?_, ⟨c, hR.trans hc⟩, (hb.alloc hb.size o).grown hg (by have := hb.size; simp; omega) (fun j hj => (h1.lt j hj).1)⟩
  · rw [List.length_append, List.map_append]; exact ho
  · have := h2 i hi
    refine ⟨?_, ?_, ?_, ?_⟩
    · rw [World.cell?_of_block (a := ⟨R, i * 4, none⟩) hR]; exact this.1
    · rw [World.cell?_of_block (a := ⟨R, i * 4 + 1, none⟩) hR]; exact this.2.1
    · rw [World.cell?_of_block (a := ⟨R, i * 4 + 2, none⟩) hR]; exact this.2.2.1
    · rw [World.cell?_of_block (a := ⟨R, i * 4 + 3, none⟩) hR]; exact this.2.2.2
theorem owned_alloc {w : World} {base : Nat} {e : TypeId} {v : Value} {n : Nat} {xs : List Value} (h : w.ownsRow base e 1 v n xs) (o : Obj) : (w.alloc o).ownsRow base e 1 v n xs :=
  ownsRow_below h ((Below.refl _ _).alloc (Nat.le_refl _) o)
theorem two_new (w : World) (x y : Value) (t : TypeId) : ∀ j u, [x, y][j]? = some u → (w.alloc (.cells #[x, y] t)).cell? ((⟨w.heap.size, 0, none⟩ : Addr).add j) = some u := by
  intro j u hj
  match j, hj with
  | 0, hj => simp at hj; subst hj; simp [Addr.add]
  | 1, hj => simp at hj; subst hj; simp [Addr.add]
  | (j + 2), hj => simp at hj
theorem two_new' (w : World) (x y : Value) (t : TypeId) : ∀ j u, [x, y][j]? = some u → (w.alloc (.cells #[x, y] t)).drew.cell? ((⟨w.heap.size, 0, none⟩ : Addr).add j) = some u := two_new w x y t
theorem wrap_i64 (x : Int) (h0 : 0 ≤ x) (h1 : x ≤ 1000000) : IntKind.i64.wrap x = x := by
  simp [IntKind.wrap, IntKind.signed, IntKind.bits]; omega
theorem two_one (x y : Int) : ∀ u ∈ [Value.int .i64 x, Value.int .i64 y], u.oneCell' = true := by
  intro u hu; simp at hu; rcases hu with rfl | rfl <;> rfl
theorem Ed.zero {w wr : World} {R : Nat} {v : Value} {P : List Int} {l : List (Int × Int × Int × Int)} (h : Ed w wr R v P l) (l' : List (Int × Int × Int × Int)) (b : Int) : Ed w wr R v (P ++ rowE l' b 0) l := by
  rw [show P ++ rowE l' b 0 = P from by simp [rowE]]; exact h
theorem rowE_next (P : List Int) (l : List (Int × Int × Int × Int)) (b : Int) (k : Nat) {x y : Int} (hx : x = b + gA l k) (hy : y = b + gB l k + 1) : (P ++ rowE l b k) ++ [x, y] = P ++ rowE l b (k + 1) := by
  subst hx hy; simp [rowE]
def casE : Nat → List Int
  | 0 => []
  | j + 1 => casE j ++ rowE csd (512 + 256 * (j : Int)) 7
theorem casE_length (j : Nat) : (casE j).length = 14 * j := by
  induction j with
  | zero => rfl
  | succ j ih => simp [casE, ih, rowE_length]; omega
theorem csd_bd0 : ((List.range 7).all fun i => decide (0 ≤ gA csd i) && decide (gA csd i ≤ 100000) && decide (0 ≤ gB csd i) && decide (gB csd i ≤ 100000)) = true := by decide +kernel
theorem csd_bd (i : Nat) (h : i < 7) : 0 ≤ gA csd i ∧ gA csd i ≤ 100000 ∧ 0 ≤ gB csd i ∧ gB csd i ≤ 100000 := by
  have := List.all_eq_true.1 csd_bd0 i (by simpa using h)
  simp only [Bool.and_eq_true, decide_eq_true_eq] at this
  omega
def L86 : List Int := base22 ++ rowE spc 0 32
theorem L86_length : L86.length = 86 := by unfold L86; rw [List.length_append, rowE_length]; rfl
theorem csd_length' : csd.length = 7 := by decide
theorem spc_length' : spc.length = 32 := by decide
theorem Ed.seven {w wr : World} {R j : Nat} {v : Value} {l : List (Int × Int × Int × Int)} (h : Ed w wr R v ((L86 ++ casE j) ++ rowE csd (512 + 256 * (j : Int)) 7) l) : Ed w wr R v (L86 ++ casE (j + 1)) l := by
  rw [show L86 ++ casE (j + 1) = (L86 ++ casE j) ++ rowE csd (512 + 256 * (j : Int)) 7 from by simp [casE]]; exact h
def L128 : List Int := L86 ++ casE 3
theorem L128_length : (L86 ++ casE 3).length = 128 := by rw [List.length_append, L86_length, casE_length]
def nth (l : List Int) (i : Nat) : Int := l.getD i 0
theorem owned_slice {w : World} {base : Nat} {e : TypeId} {v : Value} {n : Nat} {xs : List Value} (h : w.ownsRow base e 1 v n xs) (hn : 0 < n) : ∃ g cap, v = .slice (some ⟨g, 0, none⟩) n cap ∧ base ≤ g := by
  rcases h.2 with ⟨_, h0⟩ | ⟨g, cap, cur, hv, hg, _⟩
  · omega
  · exact ⟨g, cap, hv, hg⟩
theorem owned_cell {w : World} {base g n cap : Nat} {L : List Int} (h : w.ownsRow base 2 1 (.slice (some ⟨g, 0, none⟩) n cap) n (L.map (Value.int .i64))) (i : Nat) (hi : i < L.length) : w.cell? ⟨g, i, none⟩ = some (.int .i64 (nth L i)) := by
  have hl : L.length = n := by simpa using h.1
  rw [h.cellAt i (by omega), List.getElem?_map]
  simp [nth, List.getD, hi]
theorem Ed.reads {w wr : World} {R g cap n : Nat} {l : List (Int × Int × Int × Int)} {L : List Int} (h : Ed w wr R (.slice (some ⟨g, 0, none⟩) n cap) L l) (hn : L.length = n) : ∀ i, i < L.length → wr.cell? ⟨g, i, none⟩ = some (.int .i64 (nth L i)) := by
  subst hn
  exact fun i hi => owned_cell h.1 i hi
/-- Where a number stands among others, and the list with it. -/
def posOf (O : List Int) (x : Int) : Nat := (O.takeWhile (fun y => decide (y < x))).length
def ins (O : List Int) (x : Int) : List Int := if O[posOf O x]? = some x then O else (O.take (posOf O x) ++ [x]) ++ O.drop (posOf O x)
def insAll (k : Nat) : List Int := (L128.take k).foldl ins []
theorem ins_le (O : List Int) (x : Int) : (ins O x).length ≤ O.length + 1 := by
  unfold ins
  split
  · omega
  · simp; omega
theorem insAll_succ (k : Nat) (h : k < 128) : insAll (k + 1) = ins (insAll k) (nth L128 k) := by
  have hl : k < L128.length := by show k < (L86 ++ casE 3).length; rw [L128_length]; exact h
  unfold insAll
  rw [List.take_succ_eq_append_getElem hl, List.foldl_append]
  simp [nth, List.getD, hl]
theorem insAll_le (k : Nat) (h : k ≤ 128) : (insAll k).length ≤ k := by
  induction k with
  | zero => simp [insAll]
  | succ k ih =>
    rw [insAll_succ k (by omega)]
    have := ins_le (insAll k) (nth L128 k)
    have := ih (by omega)
    omega
theorem pos_le (O : List Int) (x : Int) : posOf O x ≤ O.length := by
  unfold posOf
  exact (List.takeWhile_prefix _).length_le
theorem pos_step : ∀ (O : List Int) (x : Int) (p : Nat), p ≤ posOf O x → p < O.length → nth O p < x → p + 1 ≤ posOf O x
  | [], _, _, _, h, _ => by simp at h
  | a :: t, x, 0, _, _, h => by
    have : a < x := by simpa [nth] using h
    simp [posOf, this]
  | a :: t, x, p + 1, hp, hl, h => by
    by_cases ha : a < x
    · have e : posOf (a :: t) x = posOf t x + 1 := by simp [posOf, ha]
      rw [e] at hp ⊢
      have := pos_step t x p (by omega) (by simpa using hl) (by simpa [nth] using h)
      omega
    · have e : posOf (a :: t) x = 0 := by simp [posOf, ha]
      omega
theorem pos_stop : ∀ (O : List Int) (x : Int) (p : Nat), p ≤ posOf O x → (p < O.length → ¬ nth O p < x) → p = posOf O x
  | [], x, p, hp, _ => by simp [posOf] at hp ⊢; omega
  | a :: t, x, 0, _, h => by
    have : ¬ a < x := by simpa [nth] using h (by simp)
    simp [posOf, this]
  | a :: t, x, p + 1, hp, h => by
    by_cases ha : a < x
    · have e : posOf (a :: t) x = posOf t x + 1 := by simp [posOf, ha]
      rw [e] at hp ⊢
      have := pos_stop t x p (by omega) (fun hl => by have := h (by simpa using hl); simpa [nth] using this)
      omega
    · have e : posOf (a :: t) x = 0 := by simp [posOf, ha]
      omega
theorem ins_same (O : List Int) (x : Int) (p : Nat) (hp : p = posOf O x) (hl : p < O.length) (he : nth O p = x) : ins O x = O := by
  unfold ins
  have e : nth O p = O[p] := by simp [nth, List.getD, hl]
  rw [← hp, List.getElem?_eq_getElem hl, ← e, he, if_pos rfl]
theorem ins_new (O : List Int) (x : Int) (p : Nat) (hp : p = posOf O x) (h : p < O.length → nth O p ≠ x) : ins O x = (O.take p ++ [x]) ++ O.drop p := by
  unfold ins
  rw [← hp]
  rw [if_neg]
  intro e
  by_cases hl : p < O.length
  · have : nth O p = O[p] := by simp [nth, List.getD, hl]
    rw [List.getElem?_eq_getElem hl] at e
    exact h hl (by rw [this]; exact Option.some.inj e)
  · rw [List.getElem?_eq_none (by omega)] at e; cases e
theorem own0 (W : World) : (W.alloc (.cells #[] 2)).ownsRow W.heap.size 2 1 (.slice (some ⟨W.heap.size, 0, none⟩) 0 0) 0 [] := World.ownsRow_lit W #[] 0 (Nat.le_refl _) (by unfold maxLen; omega) rfl
theorem add_none (b off j : Nat) : (⟨b, off, none⟩ : Addr).add j = ⟨b, off + j, none⟩ := by unfold Addr.add; split <;> simp_all
theorem news_take {W : World} {B g cap : Nat} {O : List Int} (ho : W.ownsRow B 2 1 (.slice (some ⟨g, 0, none⟩) O.length cap) O.length (O.map (Value.int .i64))) (p : Nat) : ∀ j u, ((O.take p).map (Value.int .i64))[j]? = some u → W.cell? ((⟨g, 0, none⟩ : Addr).add j) = some u := by
  intro j u hj
  rw [List.getElem?_map] at hj
  by_cases h : j < (O.take p).length
  · have hjO : j < O.length := by simp at h; omega
    rw [List.getElem?_eq_getElem h] at hj
    simp only [Option.map_some, Option.some.injEq] at hj
    rw [add_none, Nat.zero_add, owned_cell ho j hjO, ← hj]
    simp [nth, List.getD, hjO]
  · rw [List.getElem?_eq_none (by omega)] at hj; simp at hj
theorem news_drop {W : World} {B g cap : Nat} {O : List Int} (ho : W.ownsRow B 2 1 (.slice (some ⟨g, 0, none⟩) O.length cap) O.length (O.map (Value.int .i64))) (p : Nat) : ∀ j u, ((O.drop p).map (Value.int .i64))[j]? = some u → W.cell? ((⟨g, p, none⟩ : Addr).add j) = some u := by
  intro j u hj
  rw [List.getElem?_map] at hj
  by_cases h : j < (O.drop p).length
  · have hjO : p + j < O.length := by simp at h; omega
    rw [List.getElem?_eq_getElem h] at hj
    simp only [Option.map_some, Option.some.injEq] at hj
    rw [add_none, owned_cell ho (p + j) hjO, ← hj]
    simp [nth, List.getD, hjO]
  · rw [List.getElem?_eq_none (by omega)] at hj; simp at hj
theorem all_one (L : List Int) : ∀ u ∈ L.map (Value.int .i64), u.oneCell' = true := by
  intro u hu
  obtain ⟨z, _, rfl⟩ := List.mem_map.1 hu
  rfl
theorem one_one (x : Int) : ∀ u ∈ [Value.int .i64 x], u.oneCell' = true := by
  intro u hu; simp at hu; subst hu; rfl
/-- Behind the first append: the new row, and that nothing that was there has turned. -/
theorem ed4 {wC wr w4 : World} {n m : Nat} {v1 : Value} {xs : List Value} (hB : Below wC.heap.size wC wr) (ho : w4.ownsRow wr.heap.size 2 1 v1 m xs) (hg : ((wr.drewN n).alloc (.cells #[] 2)).grownBy w4 (some wr.heap.size)) :
    (w4.ownsRow wr.heap.size 2 1 v1 m xs ∧ wr.heap.size ≤ w4.heap.size) ∧ Below wC.heap.size wC w4 := by
  have hb : Below wr.heap.size wr w4 := (((Below.refl _ _).alloc (Nat.le_refl _) (.cells #[] 2)).trans (Below.refl _ _)).grown (w := (wr.alloc (.cells #[] 2))) ⟨hg.os, hg.tape, hg.output, hg.size, hg.block⟩ (by simp) (fun k hk => by simp at hk; omega)
  exact ⟨⟨ho, hb.size⟩, hB.trans (hb.mono hB.size)⟩
theorem ed5 {wC wr w4 w5 : World} {m m2 : Nat} {v1 v2 : Value} {xs ys : List Value} {o : Obj} (hB : Below wC.heap.size wC wr) (h4 : (w4.ownsRow wr.heap.size 2 1 v1 m xs ∧ wr.heap.size ≤ w4.heap.size) ∧ Below wC.heap.size wC w4) (ho : w5.ownsRow wr.heap.size 2 1 v2 m2 ys) (hg : (w4.alloc o).grownBy w5 v1.ownBlock) :
    (w5.ownsRow wr.heap.size 2 1 v2 m2 ys ∧ wr.heap.size ≤ w5.heap.size) ∧ Below wC.heap.size wC w5 := by
  have hs : w4.heap.size ≤ w5.heap.size := by have := hg.size; simp at this; omega
  refine ⟨⟨ho, by omega⟩, (h4.2.alloc h4.2.size o).grown hg (by have := h4.2.size; simp; omega) (fun k hk => ?_)⟩
  have := (h4.1.1.lt k hk).1
  have := hB.size
  omega
theorem ownsRow_base {w : World} {b b' : Nat} {e : TypeId} {v : Value} {n : Nat} {xs : List Value} (h : w.ownsRow b e 1 v n xs) (hb : b' ≤ b) : w.ownsRow b' e 1 v n xs := by
  refine ⟨h.1, ?_⟩
  rcases h.2 with h' | ⟨g, cap, cur, hv, hg, r⟩
  · exact .inl h'
  · exact .inr ⟨g, cap, cur, hv, by omega, r⟩
theorem ed6 {wB wC wr w5 w6 : World} {v2 v3 : Value} {O : List Int} {p m : Nat} {x : Int} {ys : List Value} {k : Nat} (hBB : Below wB.heap.size wB wC) (hB : Below wC.heap.size wC wr) (h5 : (w5.ownsRow wr.heap.size 2 1 v2 m ys ∧ wr.heap.size ≤ w5.heap.size) ∧ Below wC.heap.size wC w5)
    (eI : insAll (k + 1) = (O.take p ++ [x]) ++ O.drop p) (hp : p ≤ O.length) (ho : w6.ownsRow wr.heap.size 2 1 v3 (0 + p + 1 + (O.length - p)) (([] ++ (O.take p).map (Value.int .i64)) ++ [Value.int .i64 x] ++ (O.drop p).map (Value.int .i64))) (hg : w5.grownBy w6 v2.ownBlock) :
    ∃ g' cap', v3 = .slice (some ⟨g', 0, none⟩) (insAll (k + 1)).length cap' ∧ (insAll (k + 1)).length ≤ cap' ∧ cap' ≤ 9223372036854775807 ∧
      w6.ownsRow wB.heap.size 2 1 (.slice (some ⟨g', 0, none⟩) (insAll (k + 1)).length cap') (insAll (k + 1)).length ((insAll (k + 1)).map (Value.int .i64)) ∧ Below wB.heap.size wB w6 := by
  have el : (insAll (k + 1)).length = 0 + p + 1 + (O.length - p) := by rw [eI]; simp; omega
  have em : (insAll (k + 1)).map (Value.int .i64) = ([] ++ (O.take p).map (Value.int .i64)) ++ [Value.int .i64 x] ++ (O.drop p).map (Value.int .i64) := by rw [eI]; simp
  rw [← el, ← em] at ho
  have hb6 : Below wB.heap.size wB w6 := by
    have h1 : Below wC.heap.size wC w6 := h5.2.grown hg h5.2.size (fun j hj => by have := (h5.1.1.lt j hj).1; have := hB.size; omega)
    exact hBB.trans (h1.mono hBB.size)
  have ho' := ownsRow_base ho (Nat.le_trans hBB.size hB.size)
  rcases ho'.2 with ⟨_, h0⟩ | ⟨g', cap', cur, hv, _, _, hn, hm, _⟩
  · omega
  · unfold maxLen at hm
    subst hv
    exact ⟨g', cap', rfl, hn, hm, ho', hb6⟩
theorem ed6z {wB wC wr w5 w6 : World} {v2 v3 : Value} {O : List Int} {p m : Nat} {x : Int} {ys : List Value} {k : Nat} (hBB : Below wB.heap.size wB wC) (hB : Below wC.heap.size wC wr) (h5 : (w5.ownsRow wr.heap.size 2 1 v2 m ys ∧ wr.heap.size ≤ w5.heap.size) ∧ Below wC.heap.size wC w5)
    (eI : insAll (k + 1) = (O.take p ++ [x]) ++ O.drop p) (hp : p ≤ O.length) (hpe : O.length ≤ p) (ho : w6.ownsRow wr.heap.size 2 1 v3 (0 + p + 1 + 0) (([] ++ (O.take p).map (Value.int .i64)) ++ [Value.int .i64 x] ++ [])) (hg : w5.grownBy w6 v2.ownBlock) :
    ∃ g' cap', v3 = .slice (some ⟨g', 0, none⟩) (insAll (k + 1)).length cap' ∧ (insAll (k + 1)).length ≤ cap' ∧ cap' ≤ 9223372036854775807 ∧
      w6.ownsRow wB.heap.size 2 1 (.slice (some ⟨g', 0, none⟩) (insAll (k + 1)).length cap') (insAll (k + 1)).length ((insAll (k + 1)).map (Value.int .i64)) ∧ Below wB.heap.size wB w6 := by
  refine ed6 hBB hB h5 eI hp ?_ hg
  rw [show O.length - p = 0 by omega, show O.drop p = [] from List.drop_eq_nil_of_le hpe]
  exact ho
set_option maxHeartbeats 8000000 in
set_option maxRecDepth 100000 in
theorem edges_any (w : World) : Calls Tryd.prog 33 #[] w fun e w' => ∃ v, e = .returned v ∧ w'.ownsRow w.heap.size 2 1 v (insAll 128).length ((insAll 128).map (Value.int .i64)) ∧ Below w.heap.size w w' := by
  obtain ⟨i0, hi, hz0, hz1, hz2⟩ := info_parts info2
  have HO0 : Hid ((w.alloc (.cells (base22.map (Value.int .i64)).toArray 2)).ownsRow w.heap.size 2 1 (.slice (some ⟨w.heap.size, 0, none⟩) 22 22) (base22 ++ rowE spc 0 0).length ((base22 ++ rowE spc 0 0).map (Value.int .i64))) := hide (World.ownsRow_lit w _ 22 (Nat.le_refl _) (by unfold maxLen; omega) rfl)
  have HB0 : Hid (Below w.heap.size w (w.alloc (.cells (base22.map (Value.int .i64)).toArray 2))) := hide ((Below.refl _ _).alloc (Nat.le_refl _) _)
  go_enter Tryd.func33, Tryd.ntmps33
  go_wp2_with (first | (refine Great.wpList_buildFlat rfl 25 2 22 _ rfl .i64 base22 Tryd.underlying25 (by kernel_rfl) (by kernel_rfl) rfl (by omega) (by omega) (by kernel_rfl) ?_) | (go_at_call 42; refine (rows_any _).mono ?_; rintro e w1 ⟨rfl, hb1, hs1, hr1, hc1⟩; have E0 : Hid (Ed w w1 (w.heap.size + 1) (.slice (some ⟨w.heap.size, 0, none⟩) 22 22) (base22 ++ rowE spc 0 0) spc) := hide ⟨ownsRow_below (unhide HO0) hb1, by simpa using hr1, by simpa using hc1, (unhide HB0).trans (hb1.mono (by simp))⟩; clear hb1 hr1 hc1))
  go_loopw [1, 3] (fun v i wr => ∃ k : Nat, k ≤ 32 ∧ i = .int .i64 k ∧ Hid (Ed w wr (w.heap.size + 1) v (base22 ++ rowE spc 0 k) spc)) (fun _ i _ => 32 - (intOf i).toNat)
  case atStart => exact ⟨0, by omega, rfl, E0⟩
  case round =>
    obtain ⟨k, hk, rfl, HE⟩ := hrel
    clear E0 HO0 HB0
    have hlen : (base22 ++ rowE spc 0 k).length = 22 + 2 * k := by rw [List.length_append, rowE_length]; rfl
    by_cases hlt : k < 32
    · obtain ⟨c0, c1, _, _⟩ := (unhide HE).2.1 k (by rw [spc_length']; exact hlt)
      have bd := spc_bd k hlt
      have b1 := bd.2.2.1
      have b2 := bd.2.2.2
      have hsz := (unhide HE).2.2.2.size
      clear bd
      have hw1 := wrap_i64 (gB spc k + 1) (by omega) (by omega)
      have HW := hide hw1
      clear hw1
      go_wp2
      go_region_law (refine step_append_own rfl _ _ 25 rfl w.heap.size 2 i0 (.int .i64 0) 1 8 Tryd.underlying25 hi hz0 hz1 hz2 rfl (by decide) _ _ _ rfl (owned_alloc (unhide HE).1 _) ⟨wr.heap.size, 0, none⟩ 2 2 [.int .i64 (gA spc k), .int .i64 (IntKind.i64.wrap (gB spc k + 1))] rfl rfl (two_new' _ _ _ _) (two_one _ _) (by rw [hlen]; unfold maxLen; omega) (by rw [hlen]; omega) (by simp; omega) ?_; intro v' w3 ho3 hg3)
      all_goals (have E3 := hide ((unhide HE).step ho3 hg3); clear ho3 hg3)
      all_goals go_wp2
      all_goals go_roundw
      case rel => exact ⟨k + 1, by omega, by go_num, by rw [← rowE_next base22 spc 0 k (x := gA spc k) (y := IntKind.i64.wrap (gB spc k + 1)) (by omega) (by rw [unhide HW]; omega)]; exact E3⟩
      case measure => simp [intOf]; omega
      case rel => exact ⟨k + 1, by omega, by go_num, by rw [← rowE_next base22 spc 0 k (x := gA spc k) (y := IntKind.i64.wrap (gB spc k + 1)) (by omega) (by rw [unhide HW]; omega)]; exact E3⟩
      case measure => simp [intOf]; omega
    · obtain rfl : k = 32 := by omega
      obtain ⟨wA, rfl⟩ : ∃ wA, wA = wr := ⟨_, rfl⟩
      have HE1 : Hid (Ed w wA (w.heap.size + 1) _ L86 spc) := HE
      clear HE hlen
      go_wp2_with (go_at_call 43; refine (cased_any _).mono ?_; rintro e w2 ⟨rfl, hb2, hs2, hr2, hc2⟩; have F0 : Hid (Ed w w2 wA.heap.size _ (L86 ++ casE 0) csd) := hide ⟨by rw [show L86 ++ casE 0 = L86 from by simp [casE]]; exact ownsRow_below (unhide HE1).1 hb2, hr2, hc2, (unhide HE1).2.2.2.trans (hb2.mono (unhide HE1).2.2.2.size)⟩; clear hb2 hr2 hc2)
      go_loopw [1, 4] (fun v i wx => ∃ j : Nat, j ≤ 3 ∧ i = .int .i64 (512 + 256 * (j : Int)) ∧ Hid (Ed w wx wA.heap.size v (L86 ++ casE j) csd)) (fun _ i _ => (1280 - intOf i).toNat)
      case atStart => exact ⟨0, by omega, rfl, F0⟩
      case round =>
        obtain ⟨j, hj, rfl, HF⟩ := hrel
        clear F0 HE1
        obtain ⟨wB, rfl⟩ : ∃ wB, wB = wr := ⟨_, rfl⟩
        by_cases hlt2 : j < 3
        · have HF0 := hide ((unhide HF).zero csd (512 + 256 * (j : Int)))
          have hbt : decide (512 + 256 * (j : Int) < 1280) = true := by simp; omega
          clear HF
          go_wp2
          go_loopw [1, 5] (fun v i wx => ∃ k : Nat, k ≤ 7 ∧ i = .int .i64 k ∧ Hid (Ed w wx wA.heap.size v ((L86 ++ casE j) ++ rowE csd (512 + 256 * (j : Int)) k) csd)) (fun _ i _ => 7 - (intOf i).toNat)
          case atStart => exact ⟨0, by omega, rfl, HF0⟩
          case round =>
            obtain ⟨k, hk, rfl, HE⟩ := hrel
            clear HF0
            have hlen : ((L86 ++ casE j) ++ rowE csd (512 + 256 * (j : Int)) k).length = 86 + 14 * j + 2 * k := by rw [List.length_append, List.length_append, L86_length, casE_length, rowE_length]
            by_cases hlt3 : k < 7
            · obtain ⟨c0, c1, _, _⟩ := (unhide HE).2.1 k (by rw [csd_length']; exact hlt3)
              have bd := csd_bd k hlt3
              have b0 := bd.1
              have b0' := bd.2.1
              have b1 := bd.2.2.1
              have b2 := bd.2.2.2
              have hsz := (unhide HE).2.2.2.size
              clear bd
              have HW1 := hide (wrap_i64 (512 + 256 * (j : Int) + gA csd k) (by omega) (by omega))
              have HW2 := hide (wrap_i64 (512 + 256 * (j : Int) + gB csd k) (by omega) (by omega))
              have HW3 := hide (wrap_i64 (512 + 256 * (j : Int) + gB csd k + 1) (by omega) (by omega))
              go_wp2
              go_region_law (refine step_append_own rfl _ _ 25 rfl w.heap.size 2 i0 (.int .i64 0) 1 8 Tryd.underlying25 hi hz0 hz1 hz2 rfl (by decide) _ _ _ rfl (owned_alloc (unhide HE).1 _) ⟨wr.heap.size, 0, none⟩ 2 2 [.int .i64 (IntKind.i64.wrap (512 + 256 * (j : Int) + gA csd k)), .int .i64 (IntKind.i64.wrap (IntKind.i64.wrap (512 + 256 * (j : Int) + gB csd k) + 1))] rfl rfl (two_new' _ _ _ _) (two_one _ _) (by rw [hlen]; unfold maxLen; omega) (by rw [hlen]; omega) (by simp; omega) ?_; intro v' w3 ho3 hg3)
              all_goals (have E3 := hide ((unhide HE).step ho3 hg3); clear ho3 hg3)
              all_goals go_wp2
              all_goals go_roundw
              case rel =>
                have EE := E3
                rw [rowE_next (L86 ++ casE j) csd (512 + 256 * (j : Int)) k (x := IntKind.i64.wrap (512 + 256 * (j : Int) + gA csd k)) (y := IntKind.i64.wrap (IntKind.i64.wrap (512 + 256 * (j : Int) + gB csd k) + 1)) (unhide HW1) (by rw [unhide HW2]; exact unhide HW3)] at EE
                exact ⟨k + 1, by omega, by go_num, EE⟩
              case measure => simp [intOf]; omega
              case rel =>
                have EE := E3
                rw [rowE_next (L86 ++ casE j) csd (512 + 256 * (j : Int)) k (x := IntKind.i64.wrap (512 + 256 * (j : Int) + gA csd k)) (y := IntKind.i64.wrap (IntKind.i64.wrap (512 + 256 * (j : Int) + gB csd k) + 1)) (unhide HW1) (by rw [unhide HW2]; exact unhide HW3)] at EE
                exact ⟨k + 1, by omega, by go_num, EE⟩
              case measure => simp [intOf]; omega
            · obtain rfl : k = 7 := by omega
              have HE7 := hide ((unhide HE).seven)
              clear HE hlen
              go_wp2
              go_roundw
              case rel => exact ⟨j + 1, by omega, by go_num, HE7⟩
              case measure => simp [intOf]; omega
        · obtain rfl : j = 3 := by omega
          obtain ⟨g1, cap1, hv1, hgb⟩ := owned_slice (unhide HF).1 (by rw [L128_length]; omega)
          rw [L128_length] at hv1
          subst hv1
          have HL := hide ((unhide HF).reads L128_length)
          have hg1 : g1 < wB.heap.size := ((unhide HF).1.lt g1 rfl).2
          have HBw := hide (unhide HF).2.2.2
          clear HF
          have HO0 : Hid ((wB.alloc (.cells #[] 2)).ownsRow wB.heap.size 2 1 (.slice (some ⟨wB.heap.size, 0, none⟩) (insAll 0).length 0) (insAll 0).length ((insAll 0).map (Value.int .i64))) := hide (World.ownsRow_lit wB #[] 0 (Nat.le_refl _) (by unfold maxLen; omega) rfl)
          have HB0 : Hid (Below wB.heap.size wB (wB.alloc (.cells #[] 2))) := hide ((Below.refl _ _).alloc (Nat.le_refl _) _)
          go_wp2
          go_loopw [6, 7] (fun v i wx => ∃ (k g cap : Nat), k ≤ 128 ∧ i = .int .i64 k ∧ v = .slice (some ⟨g, 0, none⟩) (insAll k).length cap ∧ (insAll k).length ≤ cap ∧ cap ≤ 9223372036854775807 ∧ Hid (wx.ownsRow wB.heap.size 2 1 (.slice (some ⟨g, 0, none⟩) (insAll k).length cap) (insAll k).length ((insAll k).map (Value.int .i64))) ∧ Hid (Below wB.heap.size wB wx)) (fun _ i _ => 128 - (intOf i).toNat)
          case atStart => exact ⟨0, wB.heap.size, 0, by omega, rfl, rfl, Nat.le_refl _, by omega, HO0, HB0⟩
          case round =>
            obtain ⟨k, g, cap, hk, rfl, rfl, hlc, hcap, HO, HB⟩ := hrel
            clear HO0 HB0
            obtain ⟨wC, rfl⟩ : ∃ wC, wC = wr := ⟨_, rfl⟩
            by_cases hlt4 : k < 128
            · have HI := hide (insAll_succ k hlt4)
              have hOl := insAll_le k hk
              have HX := hide (((unhide HB).cell (p := ⟨g1, k, none⟩) hg1).trans ((unhide HL) k (by rw [L128_length]; exact hlt4)))
              generalize insAll k = O at *
              obtain ⟨x, hx⟩ : ∃ x, nth L128 k = x := ⟨_, rfl⟩
              rw [hx] at HI
              have HX2 : Hid (wC.cell? ⟨g1, k, none⟩ = some (.int .i64 x)) := by have := unhide HX; rw [show nth (L86 ++ casE 3) k = x from hx] at this; exact hide this
              clear HX hx
              have hgC : g < wC.heap.size := ((unhide HO).lt g rfl).2
              have hg1C : g1 < wC.heap.size := Nat.lt_of_lt_of_le hg1 (unhide HB).size
              go_wp2
              go_loopw [8] (fun a wx => ∃ p : Nat, p ≤ posOf O x ∧ a = .int .i64 p ∧ Hid (Below wC.heap.size wC wx)) (fun a _ => O.length - (intOf a).toNat)
              case atStart => exact ⟨0, by omega, rfl, hide (Below.refl _ _)⟩
              case round =>
                obtain ⟨p, hp, rfl, HBx⟩ := hrel
                have hpl := pos_le O x
                have cx := ((unhide HBx).cell (p := ⟨g1, k, none⟩) hg1C).trans (unhide HX2)
                by_cases hpO : p < O.length
                · have co := ((unhide HBx).cell (p := ⟨g, p, none⟩) hgC).trans (owned_cell (unhide HO) p hpO)
                  by_cases hlx : nth O p < x
                  · have hp1 := pos_step O x p hp hpO hlx
                    go_wp2
                    go_quiet (fail)
                    go_wp2
                    go_roundw
                    case rel => exact ⟨p + 1, by omega, by go_num, hide (bdrew' (unhide HBx) _)⟩
                    case measure => simp [intOf]; omega
                  · have HS := hide (pos_stop O x p hp (fun _ => hlx))
                    have hlx' : decide (nth O p < x) = false := by simp; omega
                    go_wp2
                    go_quiet (fail)
                    go_wp2
                    by_cases hex : nth O p = x
                    · have hex' : (nth O p == x) = true := by simpa using hex
                      have HN := hide (ins_same O x p (unhide HS) hpO hex)
                      clear hex
                      go_quiet (fail)
                      go_wp2
                      go_roundw
                      case rel =>
                        have eI : insAll (k + 1) = O := (unhide HI).trans (unhide HN)
                        (repeat apply Exists.intro)
                        refine ⟨?rr, rfl⟩
                        exact ⟨k + 1, g, cap, by omega, by go_num, by rw [eI], by rw [eI]; exact hlc, hcap, by rw [eI]; exact hide (ownsRow_below (unhide HO) (bdrew' (unhide HBx) _)), hide ((unhide HB).trans ((bdrew' (unhide HBx) _).mono (unhide HB).size))⟩
                      case measure => simp [intOf]; omega
                    · have hex' : (nth O p == x) = false := by simpa using hex
                      have HN := hide (ins_new O x p (unhide HS) (fun _ => hex))
                      clear hex
                      go_quiet (fail)
                      go_wp2_with (first | (at_builtin; refine wpList_append_own _ rfl (.tmp 100) (.tmp 103) 25 rfl wr.heap.size 2 i0 (.int .i64 0) 1 8 Tryd.underlying25 hi hz0 hz1 hz2 rfl (by decide) _ _ _ rfl (own0 _) ⟨g, 0, none⟩ p cap ((O.take p).map (Value.int .i64)) rfl (by simp; omega) (news_take (owned_alloc (ownsRow_below (unhide HO) (bdrew' (unhide HBx) _)) _) p) (all_one _) (by unfold maxLen; omega) (by omega) (by simp) ?_; intro v1 w4 ho4 hg4 _; have A4 := hide (ed4 (unhide HBx) ho4 hg4); have cx4 := ((unhide A4).2.cell (p := ⟨g1, k, none⟩) hg1C).trans (unhide HX2); have hs4 := (unhide A4).1.2; clear ho4 hg4) | (at_builtin; refine wpList_append_own _ rfl (.tmp 105) (.tmp 110) 25 rfl wr.heap.size 2 i0 (.int .i64 0) 1 8 Tryd.underlying25 hi hz0 hz1 hz2 rfl (by decide) _ _ _ rfl (owned_alloc (unhide A4).1.1 _) ⟨w4.heap.size, 0, none⟩ 1 1 [.int .i64 x] rfl rfl (cell_one_new _ _ _) (one_one _) (by unfold maxLen; simp; omega) (by simp; omega) (by simp; omega) ?_; intro v2 w5 ho5 hg5 _; have A5 := hide (ed5 (unhide HBx) (unhide A4) ho5 hg5); have hs5 := (unhide A5).1.2; clear ho5 hg5) | (at_builtin; go_must (refine wpList_append_own _ rfl (.tmp 112) (.tmp 115) 25 rfl wr.heap.size 2 i0 (.int .i64 0) 1 8 Tryd.underlying25 hi hz0 hz1 hz2 rfl (by decide) _ _ _ rfl (unhide A5).1.1 ⟨g, p, none⟩ (O.length - p) (cap - p) ((O.drop p).map (Value.int .i64)) rfl (by simp) (news_drop (ownsRow_below (unhide HO) (unhide A5).2) p) (all_one _) (by unfold maxLen; simp; omega) (by simp; omega) (by omega) ?_); intro v3 w6 ho6 hg6 _; have A6 := hide (ed6 (unhide HB) (unhide HBx) (unhide A5) ((unhide HI).trans (unhide HN)) (by omega) ho6 hg6); clear ho6 hg6))
                      obtain ⟨g', cap', hv3, hl3, hc3, ho3, hb3⟩ := unhide A6
                      clear A6 A5 A4
                      have HO3 := hide ho3
                      have HB3 := hide hb3
                      clear ho3 hb3
                      subst hv3
                      go_wp2
                      go_roundw
                      case rel =>
                        (repeat apply Exists.intro)
                        refine ⟨?r2, rfl⟩
                        exact ⟨k + 1, g', cap', by omega, by go_num, rfl, hl3, hc3, HO3, HB3⟩
                      case measure => simp [intOf]; omega
                · have HS := hide (pos_stop O x p hp (fun h => absurd h hpO))
                  have HN := hide (ins_new O x p (unhide HS) (fun h => absurd h hpO))
                  have hpe : O.length ≤ p := by omega
                  have d1 : decide ((p : Int) < (O.length : Int)) = false := by simp; omega
                  go_wp2
                  go_quiet (fail)
                  go_wp2
                  go_quiet (fail)
                  have hpl2 : p ≤ O.length := by omega
                  by_cases hcp : p < cap
                  · go_wp2_with (first | (at_builtin; refine wpList_append_own _ rfl (.tmp 100) (.tmp 103) 25 rfl wr.heap.size 2 i0 (.int .i64 0) 1 8 Tryd.underlying25 hi hz0 hz1 hz2 rfl (by decide) _ _ _ rfl (own0 _) ⟨g, 0, none⟩ p cap ((O.take p).map (Value.int .i64)) rfl (by simp; omega) (news_take (owned_alloc (ownsRow_below (unhide HO) (bdrew' (unhide HBx) _)) _) p) (all_one _) (by unfold maxLen; omega) (by omega) (by simp) ?_; intro v1 w4 ho4 hg4 _; have A4 := hide (ed4 (unhide HBx) ho4 hg4); have cx4 := ((unhide A4).2.cell (p := ⟨g1, k, none⟩) hg1C).trans (unhide HX2); have hs4 := (unhide A4).1.2; clear ho4 hg4) | (at_builtin; refine wpList_append_own _ rfl (.tmp 105) (.tmp 110) 25 rfl wr.heap.size 2 i0 (.int .i64 0) 1 8 Tryd.underlying25 hi hz0 hz1 hz2 rfl (by decide) _ _ _ rfl (owned_alloc (unhide A4).1.1 _) ⟨w4.heap.size, 0, none⟩ 1 1 [.int .i64 x] rfl rfl (cell_one_new _ _ _) (one_one _) (by unfold maxLen; simp; omega) (by simp; omega) (by simp; omega) ?_; intro v2 w5 ho5 hg5 _; have A5 := hide (ed5 (unhide HBx) (unhide A4) ho5 hg5); have hs5 := (unhide A5).1.2; clear ho5 hg5) | (at_builtin; go_must (refine wpList_append_own _ rfl (.tmp 112) (.tmp 115) 25 rfl wr.heap.size 2 i0 (.int .i64 0) 1 8 Tryd.underlying25 hi hz0 hz1 hz2 rfl (by decide) _ _ _ rfl (unhide A5).1.1 ⟨g, p, none⟩ 0 (cap - p) [] rfl rfl (fun j u hj => by simp at hj) (fun u hu => by simp at hu) (by unfold maxLen; simp; omega) (by simp; omega) (by omega) ?_); intro v3 w6 ho6 hg6 _; have A6 := hide (ed6z (unhide HB) (unhide HBx) (unhide A5) ((unhide HI).trans (unhide HN)) (by omega) hpe ho6 hg6); clear ho6 hg6))
                    obtain ⟨g', cap', hv3, hl3, hc3, ho3, hb3⟩ := unhide A6
                    clear A6 A5 A4
                    have HO3 := hide ho3
                    have HB3 := hide hb3
                    clear ho3 hb3
                    subst hv3
                    go_wp2
                    go_roundw
                    case rel =>
                      refine ⟨k + 1, by omega, by go_num, ?_⟩
                      first
                        | exact ⟨g', cap', rfl, hl3, hc3, HO3, HB3⟩
                        | exact ⟨rfl, g', cap', rfl, hl3, hc3, HO3, HB3⟩
                        | exact ⟨g', rfl, cap', rfl, hl3, hc3, HO3, HB3⟩
                        | (trace_state; repeat' (first | exact HO3 | exact HB3 | exact hl3 | exact hc3 | rfl | apply And.intro | apply Exists.intro))
                    case measure => simp [intOf]; omega
                  · obtain rfl : cap = p := by omega
                    go_wp2_with (first | (at_builtin; refine wpList_append_own _ rfl (.tmp 100) (.tmp 103) 25 rfl wr.heap.size 2 i0 (.int .i64 0) 1 8 Tryd.underlying25 hi hz0 hz1 hz2 rfl (by decide) _ _ _ rfl (own0 _) ⟨g, 0, none⟩ cap cap ((O.take cap).map (Value.int .i64)) rfl (by simp; omega) (news_take (owned_alloc (ownsRow_below (unhide HO) (bdrew' (unhide HBx) _)) _) cap) (all_one _) (by unfold maxLen; omega) (by omega) (by simp) ?_; intro v1 w4 ho4 hg4 _; have A4 := hide (ed4 (unhide HBx) ho4 hg4); have cx4 := ((unhide A4).2.cell (p := ⟨g1, k, none⟩) hg1C).trans (unhide HX2); have hs4 := (unhide A4).1.2; clear ho4 hg4) | (at_builtin; refine wpList_append_own _ rfl (.tmp 105) (.tmp 110) 25 rfl wr.heap.size 2 i0 (.int .i64 0) 1 8 Tryd.underlying25 hi hz0 hz1 hz2 rfl (by decide) _ _ _ rfl (owned_alloc (unhide A4).1.1 _) ⟨w4.heap.size, 0, none⟩ 1 1 [.int .i64 x] rfl rfl (cell_one_new _ _ _) (one_one _) (by unfold maxLen; simp; omega) (by simp; omega) (by simp; omega) ?_; intro v2 w5 ho5 hg5 _; have A5 := hide (ed5 (unhide HBx) (unhide A4) ho5 hg5); have hs5 := (unhide A5).1.2; clear ho5 hg5) | (at_builtin; go_must (refine wpList_append_own _ rfl (.tmp 112) (.tmp 115) 25 rfl wr.heap.size 2 i0 (.int .i64 0) 1 8 Tryd.underlying25 hi hz0 hz1 hz2 rfl (by decide) _ _ _ rfl (unhide A5).1.1 ⟨g, 0, none⟩ 0 0 [] rfl rfl (fun j u hj => by simp at hj) (fun u hu => by simp at hu) (by unfold maxLen; simp; omega) (by simp; omega) (by omega) ?_); intro v3 w6 ho6 hg6 _; have A6 := hide (ed6z (unhide HB) (unhide HBx) (unhide A5) ((unhide HI).trans (unhide HN)) (by omega) hpe ho6 hg6); clear ho6 hg6))
                    obtain ⟨g', cap', hv3, hl3, hc3, ho3, hb3⟩ := unhide A6
                    clear A6 A5 A4
                    have HO3 := hide ho3
                    have HB3 := hide hb3
                    clear ho3 hb3
                    subst hv3
                    go_wp2
                    go_roundw
                    case rel =>
                      refine ⟨k + 1, by omega, by go_num, ?_⟩
                      first
                        | exact ⟨g', cap', rfl, hl3, hc3, HO3, HB3⟩
                        | exact ⟨rfl, g', cap', rfl, hl3, hc3, HO3, HB3⟩
                        | exact ⟨g', rfl, cap', rfl, hl3, hc3, HO3, HB3⟩
                        | (trace_state; repeat' (first | exact HO3 | exact HB3 | exact hl3 | exact hc3 | rfl | apply And.intro | apply Exists.intro))
                    case measure => simp [intOf]; omega
            · obtain rfl : k = 128 := by omega
              go_wp2
              go_ret
              exact ⟨_, rfl, ownsRow_base (unhide HO) (unhide HBw).size, (unhide HBw).trans ((unhide HB).mono (unhide HBw).size)⟩
end Go.Proofs.YtbkeaoplncaihaaDoor.Kd
