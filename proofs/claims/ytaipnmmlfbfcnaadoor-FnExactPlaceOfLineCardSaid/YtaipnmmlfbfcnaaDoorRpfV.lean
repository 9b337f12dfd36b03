/- The leaves of a tree, handed on one by one. -/
import Derived.Test.YtaipnmmlfbfcnaaDoorRopA
namespace Go.Proofs.YtaipnmmlfbfcnaaDoor.Rop
open Go.RowKit Go.Shelf
set_option linter.unusedVariables false
set_option linter.unusedSimpArgs false
attribute [local go_sem] Oper.semAt_some
def HT.isL : HT → Bool
  | .leaf _ _ => true
  | _ => false
/-- The texts of leaves among nodes. -/
def ltx : List HT → List ByteArray
  | [] => []
  | .leaf _ t :: L => t :: ltx L
  | _ :: L => ltx L
theorem ltx_app : ∀ L M : List HT, ltx (L ++ M) = ltx L ++ ltx M
  | [], M => rfl
  | .leaf _ t :: L, M => by show t :: ltx (L ++ M) = t :: (ltx L ++ ltx M); rw [ltx_app L M]
  | .nil :: L, M => by show ltx (L ++ M) = ltx L ++ ltx M; rw [ltx_app L M]
  | .node _ _ _ _ :: L, M => by show ltx (L ++ M) = ltx L ++ ltx M; rw [ltx_app L M]
theorem ltx_pre {P Q : List HT} (h : P <+: Q) : ltx P <+: ltx Q := by
  obtain ⟨r, rfl⟩ := h
  rw [ltx_app]
  exact ⟨_, rfl⟩
theorem leafX {n₀ : Nat} (x : HT) (hx : x ≠ .nil) (t' : ByteArray) (ht : IsTr t' x.sh) (W : World) (h : In n₀ W x) : Calls Tryd.prog 53 #[.pointer x.ptr] W fun e w' => e = .returned (.bool x.isL) ∧ w' = W := by
  cases x with
  | nil => exact absurd rfl hx
  | leaf b t => exact leafI b 1 t none none W h.2
  | node b t l r =>
    cases ht with
    | node h64 hl hr =>
      have hc := cut_bd h64
      have hz := size_cut h64
      obtain ⟨b', p, q, e1, _, _⟩ := In.head h.2.2.1 (tr_ne hl (by omega))
      have := leafI b _ _ l.ptr r.ptr W h.2.1
      rw [e1] at this
      exact this
/-- The value of a leaf. -/
def lfv (t : ByteArray) : Value := .agg #[.string t, .int .i64 (ends t : Int), .int .i64 1]
/-- What lies while leaves are handed on: from A on. -/
structure Lv (A l : Nat) (p : Option Addr) (V : World) (rc : Obj) : Prop where
  yl : Boxed V A 86 (.func (.yield l) #[] #[])
  pt : Boxed V (A + 1) 51 (.pointer p)
  bd : V.heap[A + 2]? = some (.deferred (some []))
  bl : V.heap[A + 3]? = some rc
theorem Lv.lt {A l : Nat} {p : Option Addr} {V : World} {rc : Obj} (h : Lv A l p V rc) : A + 3 < V.heap.size := (Array.getElem?_eq_some_iff.1 h.bl).1
/-- What a round of the one that asks keeps. -/
structure Kl (A n₀ : Nat) (Va Vb : World) : Prop where
  size : Va.heap.size ≤ Vb.heap.size
  own : ∀ k, A ≤ k → k < A + 4 → Vb.heap[k]? = Va.heap[k]?
  bel : Below n₀ Va Vb
theorem Lv.same {A l : Nat} {p : Option Addr} {V V' : World} {rc : Obj} (h : Lv A l p V rc) (hk : ∀ k, A ≤ k → k < A + 4 → V'.heap[k]? = V.heap[k]?) : Lv A l p V' rc :=
  ⟨(hk _ (by omega) (by omega)).trans h.yl, (hk _ (by omega) (by omega)).trans h.pt, (hk _ (by omega) (by omega)).trans h.bd, (hk _ (by omega) (by omega)).trans h.bl⟩
theorem Lv.below {A l : Nat} {p : Option Addr} {V V' : World} {rc : Obj} (h : Lv A l p V rc) (hb : Below V.heap.size V V') : Lv A l p V' rc := by
  have := h.lt
  exact h.same (fun k _ h2 => hb.block k (by omega))
theorem Lv.rcd {A l : Nat} {p : Option Addr} {V : World} {rc : Obj} (h : Lv A l p V rc) (rc' : Obj) : Lv A l p (V.putObj (A + 3) rc') rc' := by
  have hlt := h.lt
  have ho : ∀ k, k ≠ A + 3 → (V.putObj (A + 3) rc').heap[k]? = V.heap[k]? := fun k hk => World.putObj_heap_other hk
  exact ⟨(ho _ (by omega)).trans h.yl, (ho _ (by omega)).trans h.pt, (ho _ (by omega)).trans h.bd, World.putObj_heap_same (by omega)⟩
theorem leaves_walk (n l n₀ : Nat) (H : HT) (W w2 : World) (hin : In n₀ W H) (hn : n₀ ≤ W.heap.size) (hz : w2.heap.size = W.heap.size + 2) (bY : Boxed w2 W.heap.size 86 (.func (.yield l) #[] #[])) (bP : Boxed w2 (W.heap.size + 1) 51 (.pointer H.ptr)) (hB2 : Below W.heap.size W w2)
    (J Jx : List ByteArray → World → Prop)
    (hA : ∀ pre Va Vb row, J pre Va → Va.grownBy Vb row → (∀ r, row = some r → W.heap.size ≤ r ∧ r < W.heap.size + 4) → J pre Vb) (h0 : J [] W)
    {fn : FuncId} {tm : Array Value} {ps : Array Tmp} {asg bd : Code} {d : Nat}
    (hBody : ∀ m pre x Va, Lv W.heap.size l H.ptr Va (.loop (lrec .ready none fn tm ps asg bd d)) → J (ltx pre) Va → pre ++ [x] <+: H.pre → In n₀ Va x → YieldAt Fence.wide m Tryd.prog (W.heap.size + 3) #[.pointer x.ptr] Va fun e Vb =>
      (e = .returned (.bool true) ∧ (Lv W.heap.size l H.ptr Vb (.loop (lrec .ready none fn tm ps asg bd d)) ∧ J (ltx (pre ++ [x])) Vb) ∧ Below n₀ Va Vb) ∨ (e = .returned (.bool false) ∧ Lv W.heap.size l H.ptr Vb (.loop (lrec .done (some .ret) fn tm ps asg bd d)) ∧ Jx (ltx (pre ++ [x])) Vb)) :
    CallsIn Fence.wide n Tryd.prog 65 #[.func (.yield (W.heap.size + 3)) #[] #[], .pointer (some ⟨W.heap.size + 1, 0, none⟩)] ((w2.alloc (.deferred (some []))).alloc (.loop (lrec .ready none fn tm ps asg bd d))) fun e V => (∃ v, e = .returned v) ∧
      ((Lv W.heap.size l H.ptr V (.loop (lrec .ready none fn tm ps asg bd d)) ∧ J (ltx H.pre) V) ∨ (∃ pre, pre <+: ltx H.pre ∧ Lv W.heap.size l H.ptr V (.loop (lrec .done (some .ret) fn tm ps asg bd d)) ∧ Jx pre V)) := by
  generalize hrc : Obj.loop (lrec .ready none fn tm ps asg bd d) = rc at *
  generalize hrx : Obj.loop (lrec .done (some .ret) fn tm ps asg bd d) = rx at *
  obtain ⟨V0, hV⟩ : ∃ V0, V0 = (w2.alloc (.deferred (some []))).alloc rc := ⟨_, rfl⟩
  have hB3 : Below w2.heap.size w2 V0 := by rw [hV]; exact ((Below.refl _ _).alloc (Nat.le_refl _) _).alloc (by simp) _
  have hz3 : (w2.alloc (.deferred (some []))).heap.size = W.heap.size + 3 := by simp [hz]
  have A0 : Lv W.heap.size l H.ptr V0 rc := by
    refine ⟨(hB3.block _ (by omega)).trans bY, (hB3.block _ (by omega)).trans bP, ?_, ?_⟩
    · rw [hV, Below.heap_alloc _ _ _ (by omega), ← hz]
      exact heap_alloc_new _ _
    · rw [hV, ← hz3]
      exact heap_alloc_new _ _
  have hW0 : Below W.heap.size W V0 := hB2.trans (hB3.mono (by omega))
  have J0 : J [] V0 := hA _ _ _ none h0 (grown_of hW0) (fun r e => by cases e)
  rw [← hV]
  clear hV hrc hrx
  refine (all1I n (W.heap.size + 3) (W.heap.size + 1) n₀ H (fun pre V => Lv W.heap.size l H.ptr V rc ∧ J (ltx pre) V) (fun pre V => Lv W.heap.size l H.ptr V rx ∧ Jx (ltx pre) V) ?_ V0 A0.pt.cell (In.below (hW0.mono hn) hin) ⟨A0, J0⟩).mono ?_
  · rintro m pre x Va ⟨a1, a2⟩ hp hix
    exact hBody m pre x Va a1 a2 hp hix
  · rintro e V ⟨he, ⟨h1, h2⟩ | ⟨pre, hp, h1, h2⟩⟩
    · exact ⟨he, .inl ⟨h1, h2⟩⟩
    · exact ⟨he, .inr ⟨_, ltx_pre hp, h1, h2⟩⟩
theorem leavesF (p : Option Addr) (w : World) : Calls Tryd.prog 34 #[.pointer p] w fun e w' => e = .returned (.func (.func 51) #[] #[.pointer (some ⟨w.heap.size, 0, none⟩)]) ∧ w' = w.alloc (.cells #[.pointer p] 51) := by
  go_enter Tryd.func34, Tryd.ntmps34
  go_wp2
  go_ret
  exact ⟨rfl, rfl⟩
set_option maxRecDepth 100000 in
set_option maxHeartbeats 4000000 in
theorem leavesI (n' l Bt n₀ : Nat) (h1 : 1 ≤ n') (H : HT) (t : ByteArray) (hT : IsTr t H.sh) (hs : t.size ≤ 65536) (W : World) (hbt : W.cell? ⟨Bt, 0, none⟩ = some (.pointer H.ptr)) (hin : In n₀ W H) (hn : n₀ ≤ W.heap.size)
    (J Jx : List ByteArray → World → Prop)
    (hA : ∀ pre Va Vb row, J pre Va → Va.grownBy Vb row → (∀ r, row = some r → W.heap.size ≤ r ∧ r < W.heap.size + 4) → J pre Vb)
    (hAx : ∀ pre Va Vb row, Jx pre Va → Va.grownBy Vb row → (∀ r, row = some r → W.heap.size ≤ r ∧ r < W.heap.size + 4) → Jx pre Vb)
    (hY : ∀ m pre s Va, J pre Va → pre ++ [s] <+: ltx H.pre → W.heap.size + 3 < Va.heap.size → YieldAt Fence.wide m Tryd.prog l #[lfv s] Va fun e Vb => Kl W.heap.size n₀ Va Vb ∧ ((e = .returned (.bool true) ∧ J (pre ++ [s]) Vb) ∨ (e = .returned (.bool false) ∧ Jx (pre ++ [s]) Vb)))
    (h0 : J [] W) :
    CallsIn Fence.wide n' Tryd.prog 51 #[.func (.yield l) #[] #[], .pointer (some ⟨Bt, 0, none⟩)] W fun e V => (∃ v, e = .returned v) ∧ (J (ltx H.pre) V ∨ (∃ pre, pre <+: ltx H.pre ∧ Jx pre V)) := by
  have CA := hide (fun w => (callsIn_wide (n := n' - 1)).2 (allI H.ptr w))
  refine callsIn_of_wp_marks Tryd.func51 rfl trivial ?_ rfl
  simp only [Tryd.ntmps51, List.size_toArray, List.length_cons, List.length_nil, Nat.reduceAdd, Nat.reduceSub, Array.replicate_succ, Array.replicate_zero, List.push_toArray, List.append_toArray, List.nil_append, List.cons_append]
  have hb1 : ∀ a, (W.alloc a).cell? ⟨Bt, 0, none⟩ = some (.pointer H.ptr) := fun a => cell_allocA hbt a
  gi_wp2_with (refine ⟨trivial, ?_⟩; gi_at_call 52; refine ((unhide CA) _).mono ?_; clear CA; rintro e W1 ⟨rfl, rfl⟩)
  obtain ⟨w2, hw2⟩ : ∃ w2, w2 = (W.alloc (.cells #[.func (.yield l) #[] #[]] 86)).alloc (.cells #[.pointer H.ptr] 51) := ⟨_, rfl⟩
  have e1 : (W.alloc (.cells #[.func (.yield l) #[] #[]] 86)).heap.size = W.heap.size + 1 := by simp
  have hz : w2.heap.size = W.heap.size + 2 := by rw [hw2]; simp
  have bY : Boxed w2 W.heap.size 86 (.func (.yield l) #[] #[]) := by rw [hw2]; exact (Boxed.new W 86 _).alloc _
  have bP : Boxed w2 (W.heap.size + 1) 51 (.pointer H.ptr) := by rw [hw2, ← e1]; exact Boxed.new _ 51 _
  have hB2 : Below W.heap.size W w2 := by rw [hw2]; exact ((Below.refl W.heap.size W).alloc (Nat.le_refl _) _).alloc (by simp) _
  rw [← hw2]
  try rw [e1]
  clear hw2 e1 hb1
  have HA := hide hA
  have HAx := hide hAx
  have HY := hide hY
  clear hA hAx hY
  refine range_walkR rfl h1 (gf := 65) (lb := #[.pointer (some ⟨W.heap.size + 1, 0, none⟩)]) rfl trivial (enters_of Tryd.func65 (by kernel_rfl) rfl) ?_
  intro fn hfn
  rw [hz]
  refine (leaves_walk (n' - 1) l n₀ H W w2 hin hn hz bY bP hB2 J Jx (unhide HA) h0 (d := W.heap.size + 2) ?body).mono ?done
  case body =>
    intro m pre x Va hal hJ hp hix
    refine yield_roundR trivial hal.bl rfl { tmps := #[.func (.yield l) #[] #[], .pointer (some ⟨Bt, 0, none⟩), .pointer (some ⟨W.heap.size, 0, none⟩), .pointer x.ptr, .pointer H.ptr, .func (.func 65) #[] #[.pointer (some ⟨W.heap.size + 1, 0, none⟩)], .pointer x.ptr, undef, undef, undef, undef, undef, undef, undef, undef, undef, undef, undef], defers := [] } (fun K hK => ?ha) ?hb
    case ha =>
      gi_wp2
      exact hK
    case hb =>
      intro rc hrc
      rw [← hrc] at hal ⊢
      rw [← hrc]
      clear hrc
      have hal1 := hal.rcd (.loop (rc .busy none))
      have g1 := grownBy_putObj' Va (W.heap.size + 3) (.loop (rc .busy none))
      have hJ1 := (unhide HA) _ _ _ _ hJ g1 (fun r e => by injection e with e; omega)
      have b1 : Below n₀ Va (Va.putObj (W.heap.size + 3) (.loop (rc .busy none))) := (Below.refl n₀ Va).grown g1 (by have := hal.lt; omega) (fun k e => by injection e with e; omega)
      have hix1 := In.below b1 hix
      generalize Va.putObj (W.heap.size + 3) (.loop (rc .busy none)) = V1 at *
      clear g1 hal hJ hix
      have c1 := hal1.yl.cell
      have hmem : x ∈ H.pre := by
        obtain ⟨r, hr⟩ := hp
        rw [← hr]; simp
      obtain ⟨hxn, t', ht', hs'⟩ := pre_ok hT hs x hmem
      have CX := hide (fun k V (h : In n₀ V x) => (callsIn_wide (n := k)).2 (leafX x hxn t' ht' V h))
      have HAL := hide hal1
      have HJ1 := hide hJ1
      have HB1 := hide b1
      have HI1 := hide hix1
      have HP := hide hp
      have hmx := mixed
      cases x with
      | nil => exact absurd rfl hxn
      | leaf b s =>
        obtain ⟨hbn, hbk⟩ := hix1
        have HBK := hide hbk
        have HPS : Hid (ltx pre ++ [s] <+: ltx H.pre) := hide (by have := ltx_pre hp; rw [ltx_app] at this; exact this)
        have HLS : Hid (ltx (pre ++ [.leaf b s]) = ltx pre ++ [s]) := hide (by rw [ltx_app]; rfl)
        have HYY := hide (fun V2 (hb : Below V1.heap.size V1 V2) => YieldAt.mono ((unhide HY) (m - 1) (ltx pre) s V2 ((unhide HA) _ _ _ none (unhide HJ1) (grown_of hb) (fun r e => by cases e)) (unhide HPS) (by have := (unhide HAL).lt; have := hb.size; omega)) (R' := fun e V3 => ∃ bb : Bool, e = .returned (.bool bb) ∧ Hid (Kl W.heap.size n₀ V2 V3) ∧ Hid (if bb then J (ltx pre ++ [s]) V3 else Jx (ltx pre ++ [s]) V3)) (fun e V3 h => h.2.elim (fun ⟨he, hj⟩ => ⟨true, he, hide h.1, hide hj⟩) (fun ⟨he, hj⟩ => ⟨false, he, hide h.1, hide hj⟩)))
        have hb1 : b < V1.heap.size := (Array.getElem?_eq_some_iff.1 hbk).1
        have hpt : (HT.leaf b s).ptr = some ⟨b, 0, none⟩ := rfl
        have hlf : (HT.leaf b s).isL = true := rfl
        rw [hpt, hlf] at CX
        rw [hpt]
        generalize HT.leaf b s = X at *
        unfold lfv at HYY
        obtain ⟨d0, d1, d2, _, _⟩ := brn_cells hbk
        clear hmem hxn ht' hs' hp hal1 hJ1 b1 hT hs hbt hin h0 bY bP hB2 hpt hlf hbk
        gi_wp2_with fail
        gi_region_with_o (first
          | (refine ⟨trivial, (fun h => (by cases h)), ?_⟩; gi_at_call 53; refine ((unhide CX) _ _ (In.below (bdrew (Below.refl _ _) 1) (unhide HI1))).mono ?_; rintro e V2 ⟨rfl, hw⟩; have B2 : Hid (Below V1.heap.size V1 V2) := hide (by rw [hw]; exact bdrew (Below.refl V1.heap.size V1) 1); clear hw; obtain ⟨fn2, tm2, as2, bd2, hy2, hR2⟩ := (unhide HYY) V2 (unhide B2); have c1' := ((unhide HAL).below (unhide B2)).yl.cell; obtain ⟨g0, g1, g2, _, _⟩ := brn_cells (((unhide B2).block b hb1).trans (unhide HBK)))
          | (refine ⟨(fun h => (by cases h)), ?_⟩; refine hR2.mono ?_; rintro e V3 ⟨bb, rfl, hk3, hj3⟩))
        all_goals
          have AL3 := hide (((unhide HAL).below (unhide B2)).same (unhide hk3).own)
          have hB3 : Hid (Below n₀ Va V3) := hide ((unhide HB1).trans (((unhide B2).mono (by have := (unhide HAL).lt; omega)).trans (unhide hk3).bel))
          have hlt := (unhide AL3).lt
          clear hk3 HYY CX hy2 hR2 c1' HI1
          cases bb with
          | false =>
            gi_wp2
            exact ⟨(unhide AL3).bl, .inr ⟨rfl, (unhide AL3).rcd _, by rw [unhide HLS]; exact (unhide HAx) _ _ _ _ (unhide hj3) (grownBy_putObj' V3 (W.heap.size + 3) _) (fun r e => by injection e with e; omega)⟩⟩
          | true =>
            gi_wp2
            have g5 := grownBy_putObj' V3 (W.heap.size + 3) (.loop (rc .ready none))
            refine ⟨(unhide AL3).bl, .inl ⟨rfl, ⟨(unhide AL3).rcd _, ?_⟩, ?_⟩⟩
            · rw [unhide HLS]
              exact (unhide HA) _ _ _ _ (unhide hj3) g5 (fun r e => by injection e with e; omega)
            · exact (unhide hB3).grown g5 (by omega) (fun k e => by injection e with e; omega)
      | node b s lh rh =>
        have HLS : Hid (ltx (pre ++ [.node b s lh rh]) = ltx pre) := hide (by rw [ltx_app]; exact List.append_nil _)
        have hlf : (HT.node b s lh rh).isL = false := rfl
        have hpt : (HT.node b s lh rh).ptr = some ⟨b, 0, none⟩ := rfl
        rw [hpt, hlf] at CX
        rw [hpt]
        generalize HT.node b s lh rh = X at *
        clear hmem hxn ht' hs' hp hal1 hJ1 b1 hT hs hbt hin h0 bY bP hB2 hix1 hpt hlf
        gi_wp2_with fail
        gi_region_with_o (first | (refine ⟨trivial, (fun h => (by cases h)), ?_⟩; gi_at_call 53; refine ((unhide CX) _ _ (In.below (bdrew (Below.refl _ _) 1) (unhide HI1))).mono ?_; rintro e V2 ⟨rfl, hw⟩; have B2 : Hid (Below V1.heap.size V1 V2) := hide (by rw [hw]; exact bdrew (Below.refl V1.heap.size V1) 1); clear hw; have c1' := ((unhide HAL).below (unhide B2)).yl.cell) | (refine ⟨(fun _ h => (by cases h)), ?_⟩))
        all_goals
          have AL3 := hide ((unhide HAL).below (unhide B2))
          have J3 := hide ((unhide HA) _ _ _ none (unhide HJ1) (grown_of (unhide B2)) (fun r e => by cases e))
          have hB3 : Hid (Below n₀ Va V2) := hide ((unhide HB1).trans ((unhide B2).mono (by have := (unhide HAL).lt; omega)))
          have hlt := (unhide AL3).lt
          clear CX c1' HI1
          gi_wp2
          have g5 := grownBy_putObj' V2 (W.heap.size + 3) (.loop (rc .ready none))
          refine ⟨(unhide AL3).bl, .inl ⟨rfl, ⟨(unhide AL3).rcd _, ?_⟩, ?_⟩⟩
          · rw [unhide HLS]
            exact (unhide HA) _ _ _ _ (unhide J3) g5 (fun r e => by injection e with e; omega)
          · exact (unhide hB3).grown g5 (by omega) (fun k e => by injection e with e; omega)
  case done =>
    rintro e V ⟨he, h⟩
    refine ⟨he, ?_⟩
    rcases h with ⟨h, hj⟩ | ⟨pre, hp, h, hj⟩
    · refine .inl ⟨h.bl, fun o => ?_⟩
      have h2 := hide (h.rcd o)
      have j2 := hide ((unhide HA) _ _ _ _ hj (grownBy_putObj' V (W.heap.size + 3) o) (fun r e => by injection e with e; omega))
      generalize V.putObj (W.heap.size + 2 + 1) o = V1 at *
      clear h hj bY bP hB2
      gi_wp2
      have j3 := (unhide HA) _ _ _ _ (unhide j2) (grownBy_putObj' V1 (W.heap.size + 2) (.deferred none)) (fun r e => by injection e with e; omega)
      refine ⟨by simp, .inl ⟨_, _, rfl, run_takeDeferred (unhide h2).bd, ?_⟩⟩
      exact ⟨_, results_none rfl _ _ _, ⟨_, rfl⟩, .inl j3⟩
    · refine .inr ⟨_, h.bl, fun o => ?_⟩
      have h2 := hide (h.rcd o)
      have j2 := hide ((unhide HAx) _ _ _ _ hj (grownBy_putObj' V (W.heap.size + 3) o) (fun r e => by injection e with e; omega))
      generalize V.putObj (W.heap.size + 2 + 1) o = V1 at *
      clear h hj bY bP hB2
      gi_wp2
      have j3 := (unhide HAx) _ _ _ _ (unhide j2) (grownBy_putObj' V1 (W.heap.size + 2) (.deferred none)) (fun r e => by injection e with e; omega)
      refine ⟨by simp, .inl ⟨_, _, rfl, run_takeDeferred (unhide h2).bd, ?_⟩⟩
      exact ⟨_, results_none rfl _ _ _, ⟨_, rfl⟩, .inr ⟨_, hp, j3⟩⟩
end Go.Proofs.YtaipnmmlfbfcnaaDoor.Rop
