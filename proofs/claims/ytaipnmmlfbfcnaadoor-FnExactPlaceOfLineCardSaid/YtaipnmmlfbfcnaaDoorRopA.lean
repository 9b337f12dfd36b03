/- The nodes of a rope's list, handed on one by one. -/
import Derived.Test.YtaipnmmlfbfcnaaDoorRopH
import Derived.RangeFuncBox
import Derived.Stop.RegionWithIn
import Derived.Shelf.RegionOpen
namespace Go.Proofs.YtaipnmmlfbfcnaaDoor.Rop
open Go.RowKit Go.Shelf
set_option linter.unusedVariables false
set_option linter.unusedSimpArgs false
attribute [local go_sem] Oper.semAt_some
theorem mixed : Tryd.prog.follows .mixedOrders = true := by kernel_rfl
theorem range_walkR {F : Fence} {n : Nat} {P : Program} {g : Operand} {ps : Array Tmp} {asg bd : Code} {Q : Exit → Act → World → Prop} {a : Act} {w : World} (hro : F.round = none) (h1 : 1 ≤ n) {gf : Nat} {lb : Array Value} (hg : a.eval g = .func (.func gf) #[] lb) (hFg : F.fn gf)
    (eg : ∀ args w, (callFunc gf args).run P w = .ok (.enter gf args) w)
    (h : ∀ fn, F.fn fn → CallsIn F (n - 1) P gf (#[.func (.yield (w.heap.size + 1)) #[] #[]] ++ lb) ((w.alloc (.deferred (some []))).alloc (.loop (lrec .ready none fn a.tmps ps asg bd w.heap.size))) fun e W => (∃ v, e = .returned v) ∧
      ((W.heap[w.heap.size + 1]? = some (.loop (lrec .ready none fn a.tmps ps asg bd w.heap.size)) ∧ ∀ o, Q .normal { a with defers := { target := .collected w.heap.size, args := #[] } :: a.defers } (W.putObj (w.heap.size + 1) o)) ∨
       (∃ c, W.heap[w.heap.size + 1]? = some (.loop (lrec .done (some c) fn a.tmps ps asg bd w.heap.size)) ∧ ∀ o, c.wpIn F n P Q { a with defers := { target := .collected w.heap.size, args := #[] } :: a.defers } (W.putObj (w.heap.size + 1) o)))) :
    (Code.rangeFunc g ps asg bd).wpIn F n P Q a w := by
  refine range_walk hro h1 hg hFg eg fun fn hfn => (h fn hfn).mono ?_
  rintro e W ⟨he, ⟨h2, h3⟩ | ⟨c, h2, h3⟩⟩
  · exact ⟨he, .inl ⟨h2, h3 _⟩⟩
  · exact ⟨he, .inr ⟨c, h2, h3 _⟩⟩
theorem yield_roundR {F : Fence} {n : Nat} {P : Program} {l d : Nat} {fn : FuncId} {tm : Array Value} {ps : Array Tmp} {asg bd : Code} {args : Array Value} {W : World} {R : Ending → World → Prop} (hF : F.fn fn)
    (hl : W.heap[l]? = some (.loop (lrec .ready none fn tm ps asg bd d))) (hs : args.size = ps.size) (a1 : Act)
    (ha : ∀ K : Act → World → Prop, K a1 W → asg.wpIn (F.inRound l) n P (Exit.then K (fun _ _ _ => False)) { tmps := (ps.zip args).foldl (fun t (p, v) => t.setIfInBounds p v) tm, defers := [] } W)
    (hb : ∀ rc : LoopState → Option Code → Loop, (∀ st pe, rc st pe = lrec st pe fn tm ps asg bd d) → bd.wpIn (F.inRound l) n P (outR l rc R) a1 (W.putObj l (.loop (rc .busy none)))) :
    YieldAt F n P l args W R := yield_round hF hl hs a1 ha (hb _ (fun _ _ => rfl))
set_option maxHeartbeats 1000000 in
theorem all1I (n l Bt n₀ : Nat) (H : HT) (J Jx : List HT → World → Prop)
    (hY : ∀ m pre x W, J pre W → pre ++ [x] <+: H.pre → In n₀ W x → YieldAt Fence.wide m Tryd.prog l #[.pointer x.ptr] W fun e W' =>
      (e = .returned (.bool true) ∧ J (pre ++ [x]) W' ∧ Below n₀ W W') ∨ (e = .returned (.bool false) ∧ Jx (pre ++ [x]) W'))
    (W : World) (hBt : W.cell? ⟨Bt, 0, none⟩ = some (.pointer H.ptr)) (hin : In n₀ W H) (h0 : J [] W) :
    CallsIn Fence.wide n Tryd.prog 65 #[.func (.yield l) #[] #[], .pointer (some ⟨Bt, 0, none⟩)] W fun e W' => (∃ v, e = .returned v) ∧ (J H.pre W' ∨ (∃ pre, pre <+: H.pre ∧ Jx pre W')) := by
  have hp := hide (handI l n₀ H.pre J Jx hY H (n - 1) [] W hin h0 (by simp))
  clear hY
  generalize H.ptr = p0 at *
  refine callsIn_of_wp Tryd.func65 rfl trivial ?_ rfl
  simp only [Tryd.ntmps65, List.size_toArray, List.length_cons, List.length_nil, Nat.reduceAdd, Nat.reduceSub, Array.replicate_succ, Array.replicate_zero, List.push_toArray, List.append_toArray, List.nil_append, List.cons_append]
  gi_wp2_with (refine ⟨trivial, (fun h => (by cases h)), ?_⟩; gi_at_call 66; refine (unhide hp).mono ?_; clear hp; rintro e W1 (⟨rfl, hJ1, _⟩ | ⟨rfl, q, hq, hx⟩))
  · go_end0
    exact ⟨⟨_, rfl⟩, .inl (by simpa using hJ1)⟩
  · go_end0
    exact ⟨⟨_, rfl⟩, .inr ⟨q, hq, by simpa using hx⟩⟩
theorem allI (p : Option Addr) (w : World) : Calls Tryd.prog 52 #[.pointer p] w fun e w' => e = .returned (.func (.func 65) #[] #[.pointer (some ⟨w.heap.size, 0, none⟩)]) ∧ w' = w.alloc (.cells #[.pointer p] 51) := by
  go_enter Tryd.func52, Tryd.ntmps52
  go_wp2
  go_ret
  exact ⟨rfl, rfl⟩
theorem alongF (p : Option Addr) (w : World) : Calls Tryd.prog 48 #[.pointer p] w fun e w' => e = .returned (.func (.func 63) #[] #[.pointer (some ⟨w.heap.size, 0, none⟩)]) ∧ w' = w.alloc (.cells #[.pointer p] 51) := by
  go_enter Tryd.func48, Tryd.ntmps48
  go_wp2
  go_ret
  exact ⟨rfl, rfl⟩
/-- What lies while nodes are handed on: from A on. -/
structure Al (A l : Nat) (p : Option Addr) (V : World) (rc : Obj) (k : Nat) : Prop where
  yl : Boxed V A 105 (.func (.yield l) #[] #[])
  at' : Boxed V (A + 1) 2 (.int .i64 (k : Int))
  pt : Boxed V (A + 2) 51 (.pointer p)
  bd : V.heap[A + 3]? = some (.deferred (some []))
  bl : V.heap[A + 4]? = some rc
theorem Al.lt {A l : Nat} {p : Option Addr} {V : World} {rc : Obj} {k : Nat} (h : Al A l p V rc k) : A + 4 < V.heap.size := (Array.getElem?_eq_some_iff.1 h.bl).1
/-- What a round of the one that asks keeps. -/
structure Kp (A n₀ : Nat) (Va Vb : World) : Prop where
  size : Va.heap.size ≤ Vb.heap.size
  own : ∀ k, A ≤ k → k < A + 5 → Vb.heap[k]? = Va.heap[k]?
  bel : Below n₀ Va Vb
theorem Al.same {A l : Nat} {p : Option Addr} {V V' : World} {rc : Obj} {k : Nat} (h : Al A l p V rc k) (hk : ∀ k, A ≤ k → k < A + 5 → V'.heap[k]? = V.heap[k]?) : Al A l p V' rc k :=
  ⟨(hk _ (by omega) (by omega)).trans h.yl, (hk _ (by omega) (by omega)).trans h.at', (hk _ (by omega) (by omega)).trans h.pt, (hk _ (by omega) (by omega)).trans h.bd, (hk _ (by omega) (by omega)).trans h.bl⟩
theorem Al.below {A l : Nat} {p : Option Addr} {V V' : World} {rc : Obj} {k : Nat} (h : Al A l p V rc k) (hb : Below V.heap.size V V') : Al A l p V' rc k := by
  have := h.lt
  exact h.same (fun k _ h2 => hb.block k (by omega))
theorem Al.rcd {A l : Nat} {p : Option Addr} {V : World} {rc : Obj} {k : Nat} (h : Al A l p V rc k) (rc' : Obj) : Al A l p (V.putObj (A + 4) rc') rc' k := by
  have hlt := h.lt
  have ho : ∀ k, k ≠ A + 4 → (V.putObj (A + 4) rc').heap[k]? = V.heap[k]? := fun k hk => World.putObj_heap_other hk
  exact ⟨(ho _ (by omega)).trans h.yl, (ho _ (by omega)).trans h.at', (ho _ (by omega)).trans h.pt, (ho _ (by omega)).trans h.bd, World.putObj_heap_same (by omega)⟩
theorem Al.inc {A l : Nat} {p : Option Addr} {V : World} {rc : Obj} {k : Nat} (h : Al A l p V rc k) (j : Nat) : Al A l p (V.setCell ⟨A + 1, 0, none⟩ (.int .i64 (j : Int))) rc j := by
  have hlt := h.lt
  have ho : ∀ k, k ≠ A + 1 → (V.setCell ⟨A + 1, 0, none⟩ (.int .i64 (j : Int))).heap[k]? = V.heap[k]? := fun k hk => heap_setCell_other _ ⟨A + 1, 0, none⟩ k _ hk
  exact ⟨(ho _ (by omega)).trans h.yl, h.at'.set _, (ho _ (by omega)).trans h.pt, (ho _ (by omega)).trans h.bd, (ho _ (by omega)).trans h.bl⟩
theorem cell_allocA {w : World} {a : Addr} {v : Value} (h : w.cell? a = some v) (o : Obj) : (w.alloc o).cell? a = some v := (World.cell?_of_block (Below.heap_alloc w o a.block (block_lt_of_cell h))).trans h
theorem grown_of {V V' : World} (h : Below V.heap.size V V') : V.grownBy V' none := ⟨h.os, h.tape, h.output, h.size, fun k hk _ => h.block k hk⟩
theorem pre_ok : ∀ {H : HT} {t : ByteArray}, IsTr t H.sh → t.size ≤ 65536 → ∀ x ∈ H.pre, x ≠ .nil ∧ ∃ t', IsTr t' x.sh ∧ t'.size ≤ 65536
  | .nil, t, h, hs, x, hx => by simp [HT.pre] at hx
  | .leaf b s, t, h, hs, x, hx => by
    have e : x = .leaf b s := by simpa [HT.pre] using hx
    subst e
    exact ⟨(by intro e; cases e), t, h, hs⟩
  | .node b s l r, t, h, hs, x, hx => by
    rcases List.mem_cons.1 hx with e | hx
    · subst e
      exact ⟨(by intro e; cases e), t, h, hs⟩
    · cases h with
      | node h64 hl hr =>
        have hz := size_cut h64
        have hc := cut_bd h64
        rcases List.mem_append.1 hx with hx | hx
        · exact pre_ok hl (by omega) x hx
        · exact pre_ok hr (by omega) x hx
theorem lay_pre {a : Int} {P Q : List HT} (h : P <+: Q) : lay a P <+: lay a Q := by
  obtain ⟨r, rfl⟩ := h
  rw [lay_app]
  exact ⟨_, rfl⟩
theorem lay_snoc (P : List HT) (x : HT) : lay 0 (P ++ [x]) = lay 0 P ++ [ndAt (P.length : Int) x] := by
  rw [lay_app, Int.zero_add]
  rfl
theorem along_walk (n l n₀ : Nat) (H : HT) (W w2 : World) (hin : In n₀ W H) (hn : n₀ ≤ W.heap.size) (hz : w2.heap.size = W.heap.size + 3) (bY : Boxed w2 W.heap.size 105 (.func (.yield l) #[] #[])) (bA : Boxed w2 (W.heap.size + 1) 2 (.int .i64 0)) (bP : Boxed w2 (W.heap.size + 2) 51 (.pointer H.ptr)) (hB2 : Below W.heap.size W w2)
    (J Jx : List Nd → World → Prop)
    (hA : ∀ pre Va Vb row, J pre Va → Va.grownBy Vb row → (∀ r, row = some r → W.heap.size ≤ r ∧ r < W.heap.size + 5) → J pre Vb) (h0 : J [] W)
    {fn : FuncId} {tm : Array Value} {ps : Array Tmp} {asg bd : Code} {d : Nat}
    (hBody : ∀ m pre x Va, Al W.heap.size l H.ptr Va (.loop (lrec .ready none fn tm ps asg bd d)) pre.length → J (lay 0 pre) Va → pre ++ [x] <+: H.pre → In n₀ Va x → YieldAt Fence.wide m Tryd.prog (W.heap.size + 4) #[.pointer x.ptr] Va fun e Vb =>
      (e = .returned (.bool true) ∧ (Al W.heap.size l H.ptr Vb (.loop (lrec .ready none fn tm ps asg bd d)) (pre ++ [x]).length ∧ J (lay 0 (pre ++ [x])) Vb) ∧ Below n₀ Va Vb) ∨ (e = .returned (.bool false) ∧ ∃ k, Al W.heap.size l H.ptr Vb (.loop (lrec .done (some .ret) fn tm ps asg bd d)) k ∧ Jx (lay 0 (pre ++ [x])) Vb)) :
    CallsIn Fence.wide n Tryd.prog 65 #[.func (.yield (W.heap.size + 4)) #[] #[], .pointer (some ⟨W.heap.size + 2, 0, none⟩)] ((w2.alloc (.deferred (some []))).alloc (.loop (lrec .ready none fn tm ps asg bd d))) fun e V => (∃ v, e = .returned v) ∧
      ((∃ k, Al W.heap.size l H.ptr V (.loop (lrec .ready none fn tm ps asg bd d)) k ∧ J (nds H.sh 0) V) ∨ (∃ pre k, pre <+: nds H.sh 0 ∧ Al W.heap.size l H.ptr V (.loop (lrec .done (some .ret) fn tm ps asg bd d)) k ∧ Jx pre V)) := by
  generalize hrc : Obj.loop (lrec .ready none fn tm ps asg bd d) = rc at *
  generalize hrx : Obj.loop (lrec .done (some .ret) fn tm ps asg bd d) = rx at *
  obtain ⟨V0, hV⟩ : ∃ V0, V0 = (w2.alloc (.deferred (some []))).alloc rc := ⟨_, rfl⟩
  have hB3 : Below w2.heap.size w2 V0 := by rw [hV]; exact ((Below.refl _ _).alloc (Nat.le_refl _) _).alloc (by simp) _
  have hz3 : (w2.alloc (.deferred (some []))).heap.size = W.heap.size + 4 := by simp [hz]
  have A0 : Al W.heap.size l H.ptr V0 rc 0 := by
    refine ⟨(hB3.block _ (by omega)).trans bY, (hB3.block _ (by omega)).trans bA, (hB3.block _ (by omega)).trans bP, ?_, ?_⟩
    · rw [hV, Below.heap_alloc _ _ _ (by omega), ← hz]
      exact heap_alloc_new _ _
    · rw [hV, ← hz3]
      exact heap_alloc_new _ _
  have hW0 : Below W.heap.size W V0 := hB2.trans (hB3.mono (by omega))
  have J0 : J [] V0 := hA _ _ _ none h0 (grown_of hW0) (fun r e => by cases e)
  rw [← hV]
  clear hV hrc hrx
  refine (all1I n (W.heap.size + 4) (W.heap.size + 2) n₀ H (fun pre V => Al W.heap.size l H.ptr V rc pre.length ∧ J (lay 0 pre) V) (fun pre V => ∃ k, Al W.heap.size l H.ptr V rx k ∧ Jx (lay 0 pre) V) ?_ V0 A0.pt.cell (In.below (hW0.mono hn) hin) ⟨A0, J0⟩).mono ?_
  · rintro m pre x Va ⟨a1, a2⟩ hp hix
    exact hBody m pre x Va a1 a2 hp hix
  · rintro e V ⟨he, ⟨h1, h2⟩ | ⟨pre, hp, k, h1, h2⟩⟩
    · exact ⟨he, .inl ⟨_, h1, by rw [nds_lay]; exact h2⟩⟩
    · exact ⟨he, .inr ⟨_, k, by rw [nds_lay]; exact lay_pre hp, h1, h2⟩⟩
set_option maxRecDepth 100000 in
set_option maxHeartbeats 4000000 in
theorem alongI (n' l Bt n₀ : Nat) (h1 : 1 ≤ n') (H : HT) (t : ByteArray) (hT : IsTr t H.sh) (hs : t.size ≤ 65536) (W : World) (hbt : W.cell? ⟨Bt, 0, none⟩ = some (.pointer H.ptr)) (hin : In n₀ W H) (hn : n₀ ≤ W.heap.size)
    (J Jx : List Nd → World → Prop)
    (hA : ∀ pre Va Vb row, J pre Va → Va.grownBy Vb row → (∀ r, row = some r → W.heap.size ≤ r ∧ r < W.heap.size + 5) → J pre Vb)
    (hAx : ∀ pre Va Vb row, Jx pre Va → Va.grownBy Vb row → (∀ r, row = some r → W.heap.size ≤ r ∧ r < W.heap.size + 5) → Jx pre Vb)
    (hY : ∀ m pre x Va, J pre Va → pre ++ [x] <+: nds H.sh 0 → W.heap.size + 4 < Va.heap.size → YieldAt Fence.wide m Tryd.prog l #[encN x] Va fun e Vb => Kp W.heap.size n₀ Va Vb ∧ ((e = .returned (.bool true) ∧ J (pre ++ [x]) Vb) ∨ (e = .returned (.bool false) ∧ Jx (pre ++ [x]) Vb)))
    (h0 : J [] W) :
    CallsIn Fence.wide n' Tryd.prog 63 #[.func (.yield l) #[] #[], .pointer (some ⟨Bt, 0, none⟩)] W fun e V => (∃ v, e = .returned v) ∧ (J (nds H.sh 0) V ∨ (∃ pre, pre <+: nds H.sh 0 ∧ Jx pre V)) := by
  have CA := hide (fun w => (callsIn_wide (n := n' - 1)).2 (allI H.ptr w))
  refine callsIn_of_wp_marks Tryd.func63 rfl trivial ?_ rfl
  simp only [Tryd.ntmps63, List.size_toArray, List.length_cons, List.length_nil, Nat.reduceAdd, Nat.reduceSub, Array.replicate_succ, Array.replicate_zero, List.push_toArray, List.append_toArray, List.nil_append, List.cons_append]
  have hb1 : ∀ a b, ((W.alloc a).alloc b).cell? ⟨Bt, 0, none⟩ = some (.pointer H.ptr) := fun a b => cell_allocA (cell_allocA hbt a) b
  gi_wp2_with (refine ⟨trivial, ?_⟩; gi_at_call 52; refine ((unhide CA) _).mono ?_; clear CA; rintro e W1 ⟨rfl, rfl⟩)
  obtain ⟨w2, hw2⟩ : ∃ w2, w2 = ((W.alloc (.cells #[.func (.yield l) #[] #[]] 105)).alloc (.cells #[.int .i64 0] 2)).alloc (.cells #[.pointer H.ptr] 51) := ⟨_, rfl⟩
  have e1 : (W.alloc (.cells #[.func (.yield l) #[] #[]] 105)).heap.size = W.heap.size + 1 := by simp
  have e2 : ((W.alloc (.cells #[.func (.yield l) #[] #[]] 105)).alloc (.cells #[.int .i64 0] 2)).heap.size = W.heap.size + 2 := by simp
  have hz : w2.heap.size = W.heap.size + 3 := by rw [hw2]; simp
  have bY : Boxed w2 W.heap.size 105 (.func (.yield l) #[] #[]) := by rw [hw2]; exact ((Boxed.new W 105 _).alloc _).alloc _
  have bA : Boxed w2 (W.heap.size + 1) 2 (.int .i64 0) := by rw [hw2, ← e1]; exact (Boxed.new _ 2 _).alloc _
  have bP : Boxed w2 (W.heap.size + 2) 51 (.pointer H.ptr) := by rw [hw2, ← e2]; exact Boxed.new _ 51 _
  have hB2 : Below W.heap.size W w2 := by rw [hw2]; exact (((Below.refl W.heap.size W).alloc (Nat.le_refl _) _).alloc (by simp) _).alloc (by simp; omega) _
  rw [← hw2]
  try rw [e1]
  try rw [e2]
  clear hw2 e1 e2 hb1
  have HA := hide hA
  have HAx := hide hAx
  have HY := hide hY
  clear hA hAx hY
  refine range_walkR rfl h1 (gf := 65) (lb := #[.pointer (some ⟨W.heap.size + 2, 0, none⟩)]) rfl trivial (enters_of Tryd.func65 (by kernel_rfl) rfl) ?_
  intro fn hfn
  rw [hz]
  refine (along_walk (n' - 1) l n₀ H W w2 hin hn hz bY bA bP hB2 J Jx (unhide HA) h0 (d := W.heap.size + 3) ?body).mono ?done
  case body =>
    intro m pre x Va hal hJ hp hix
    refine yield_roundR trivial hal.bl rfl { tmps := #[.func (.yield l) #[] #[], .pointer (some ⟨Bt, 0, none⟩), .pointer (some ⟨W.heap.size, 0, none⟩), .pointer (some ⟨W.heap.size + 1, 0, none⟩), .pointer x.ptr, .pointer H.ptr, .func (.func 65) #[] #[.pointer (some ⟨W.heap.size + 1 + 1, 0, none⟩)], .pointer x.ptr, undef, undef, undef, undef, undef, undef, undef, undef], defers := [] } (fun K hK => ?ha) ?hb
    case ha =>
      gi_wp2
      exact hK
    case hb =>
      intro rc hrc
      rw [← hrc] at hal ⊢
      rw [← hrc]
      clear hrc
      have hal1 := hal.rcd (.loop (rc .busy none))
      have g1 := grownBy_putObj' Va (W.heap.size + 4) (.loop (rc .busy none))
      have hJ1 := (unhide HA) _ _ _ _ hJ g1 (fun r e => by injection e with e; omega)
      have b1 : Below n₀ Va (Va.putObj (W.heap.size + 4) (.loop (rc .busy none))) := (Below.refl n₀ Va).grown g1 (by have := hal.lt; omega) (fun k e => by injection e with e; omega)
      have hix1 := In.below b1 hix
      generalize Va.putObj (W.heap.size + 4) (.loop (rc .busy none)) = V1 at *
      clear g1 hal hJ hix
      have c1 := hal1.yl.cell
      have c2 := hal1.at'.cell
      have hmem : x ∈ H.pre := by
        obtain ⟨r, hr⟩ := hp
        rw [← hr]; simp
      obtain ⟨hxn, t', ht', hs'⟩ := pre_ok hT hs x hmem
      have hln : pre.length < H.pre.length := by
        obtain ⟨r, hr⟩ := hp
        rw [← hr]; simp
      have hcb := hT.count.1
      rw [pre_len] at hln
      have CN := hide (fun k V (h : In n₀ V x) => (callsIn_wide (n := k)).2 (nodeI (pre.length : Int) x n₀ V t' h ht' hs' hxn (by omega) (by omega)))
      have HP : Hid (lay 0 pre ++ [ndAt (pre.length : Int) x] <+: nds H.sh 0) := hide (by rw [← lay_snoc, nds_lay]; exact lay_pre hp)
      have HS : Hid (lay 0 (pre ++ [x]) = lay 0 pre ++ [ndAt (pre.length : Int) x]) := hide (lay_snoc pre x)
      have HAL := hide hal1
      have HJ1 := hide hJ1
      have HB1 := hide b1
      have HI1 := hide hix1
      have hlen : (pre.length : Int) ≤ 1000000 := by omega
      have hlen0 : (0 : Int) ≤ (pre.length : Int) := by omega
      have HYY := hide (fun V2 (hb : Below V1.heap.size V1 V2) => YieldAt.mono ((unhide HY) (m - 1) (lay 0 pre) (ndAt (pre.length : Int) x) V2 ((unhide HA) _ _ _ none (unhide HJ1) (grown_of hb) (fun r e => by cases e)) (unhide HP) (by have := (unhide HAL).lt; have := hb.size; omega)) (R' := fun e V3 => ∃ bb : Bool, e = .returned (.bool bb) ∧ Hid (Kp W.heap.size n₀ V2 V3) ∧ Hid (if bb then J (lay 0 pre ++ [ndAt (pre.length : Int) x]) V3 else Jx (lay 0 pre ++ [ndAt (pre.length : Int) x]) V3)) (fun e V3 h => h.2.elim (fun ⟨he, hj⟩ => ⟨true, he, hide h.1, hide hj⟩) (fun ⟨he, hj⟩ => ⟨false, he, hide h.1, hide hj⟩)))
      clear hmem hxn ht' hs' hp hcb hal1 hJ1 b1 hix1 hT hs hbt hin h0 bY bA bP hB2
      generalize ndAt (pre.length : Int) x = X at *
      generalize encN X = ex at *
      have hmx := mixed
      gi_wp2_with fail
      gi_region_with_o (first
        | (refine ⟨trivial, (fun h => (by cases h)), ?_⟩; gi_at_call 64; refine ((unhide CN) _ _ (In.below (bdrew (Below.refl _ _) 1) (unhide HI1))).mono ?_; rintro e V2 ⟨rfl, hb2⟩; have B2 := hide ((bdrew (Below.refl V1.heap.size V1) 1).trans hb2); clear hb2; obtain ⟨fn2, tm2, as2, bd2, hy2, hR2⟩ := (unhide HYY) V2 (unhide B2); have c1' := ((unhide HAL).below (unhide B2)).yl.cell; have c2' := ((unhide HAL).below (unhide B2)).at'.cell)
        | (refine ⟨(fun h => (by cases h)), ?_⟩; refine hR2.mono ?_; rintro e V3 ⟨bb, rfl, hk3, hj3⟩))
      all_goals
        have AL3 := hide (((unhide HAL).below (unhide B2)).same (unhide hk3).own)
        have hB3 : Hid (Below n₀ Va V3) := hide ((unhide HB1).trans (((unhide B2).mono (by have := (unhide HAL).lt; omega)).trans (unhide hk3).bel))
        clear hk3 HYY CN hy2 hR2 c1' c2' HI1
        cases bb with
        | false =>
          gi_wp2
          have hlt := (unhide AL3).lt
          exact ⟨(unhide AL3).bl, .inr ⟨rfl, _, (unhide AL3).rcd _, by rw [unhide HS]; exact (unhide HAx) _ _ _ _ (unhide hj3) (grownBy_putObj' V3 (W.heap.size + 4) _) (fun r e => by injection e with e; omega)⟩⟩
        | true =>
          have q2 := (unhide AL3).at'.cell
          have q2f := (unhide AL3).at'.frozen
          gi_wp2
          have AL4 := (unhide AL3).inc (pre.length + 1)
          have hlt := AL4.lt
          have e5 : ((pre.length + 1 : Nat) : Int) = (pre.length : Int) + 1 := by omega
          rw [e5] at AL4 hlt
          have g4 := grownBy_setCell' V3 (W.heap.size + 1) (.int .i64 ((pre.length : Int) + 1))
          have g5 := grownBy_putObj' (V3.setCell ⟨W.heap.size + 1, 0, none⟩ (.int .i64 ((pre.length : Int) + 1))) (W.heap.size + 4) (.loop (rc .ready none))
          refine ⟨AL4.bl, .inl ⟨rfl, ⟨AL4.rcd _, ?_⟩, ?_⟩⟩
          · rw [unhide HS]
            exact (unhide HA) _ _ _ _ ((unhide HA) _ _ _ _ (unhide hj3) g4 (fun r e => by injection e with e; omega)) g5 (fun r e => by injection e with e; omega)
          · have z3 := (unhide AL3).lt
            exact ((unhide hB3).grown g4 (by omega) (fun k e => by injection e with e; omega)).grown g5 (by omega) (fun k e => by injection e with e; omega)
  case done =>
    rintro e V ⟨he, h⟩
    refine ⟨he, ?_⟩
    rcases h with ⟨k, h, hj⟩ | ⟨pre, k, hp, h, hj⟩
    · refine .inl ⟨h.bl, fun o => ?_⟩
      have h2 := hide (h.rcd o)
      have j2 := hide ((unhide HA) _ _ _ _ hj (grownBy_putObj' V (W.heap.size + 4) o) (fun r e => by injection e with e; omega))
      generalize V.putObj (W.heap.size + 3 + 1) o = V1 at *
      clear h hj bY bA bP hB2
      gi_wp2
      have j3 := (unhide HA) _ _ _ _ (unhide j2) (grownBy_putObj' V1 (W.heap.size + 3) (.deferred none)) (fun r e => by injection e with e; omega)
      refine ⟨by simp, .inl ⟨_, _, rfl, run_takeDeferred (unhide h2).bd, ?_⟩⟩
      exact ⟨_, results_none rfl _ _ _, ⟨_, rfl⟩, .inl j3⟩
    · refine .inr ⟨_, h.bl, fun o => ?_⟩
      have h2 := hide (h.rcd o)
      have j2 := hide ((unhide HAx) _ _ _ _ hj (grownBy_putObj' V (W.heap.size + 4) o) (fun r e => by injection e with e; omega))
      generalize V.putObj (W.heap.size + 3 + 1) o = V1 at *
      clear h hj bY bA bP hB2
      gi_wp2
      have j3 := (unhide HAx) _ _ _ _ (unhide j2) (grownBy_putObj' V1 (W.heap.size + 3) (.deferred none)) (fun r e => by injection e with e; omega)
      refine ⟨by simp, .inl ⟨_, _, rfl, run_takeDeferred (unhide h2).bd, ?_⟩⟩
      exact ⟨_, results_none rfl _ _ _, ⟨_, rfl⟩, .inr ⟨_, hp, j3⟩⟩
end Go.Proofs.YtaipnmmlfbfcnaaDoor.Rop
