/- The nodes of a rope's list, collected by the library. -/
import Derived.Test.YtaipnmmlfbfcnaaDoorRopO
import Derived.Test.YtaipnmmlfbfcnaaDoorRpfE
namespace Go.Proofs.YtaipnmmlfbfcnaaDoor.Rop
open Go.RowKit Go.Shelf
set_option linter.unusedVariables false
set_option linter.unusedSimpArgs false
attribute [local go_sem] Oper.semAt_some
/-- While they are collected: A the place of the first box. -/
structure Wc (A : Nat) (w V : World) (rc : Obj) (pre : List Nd) (v : Value) : Prop where
  bc : Boxed V A 28 v
  bd : V.heap[A + 1]? = some (.deferred (some []))
  bl : V.heap[A + 2]? = some rc
  row : Ny (A + 8) V v pre
  bel : Below A w V
theorem Wc.lt {A : Nat} {w V : World} {rc : Obj} {pre : List Nd} {v : Value} (h : Wc A w V rc pre v) : A + 2 < V.heap.size := (Array.getElem?_eq_some_iff.1 h.bl).1
theorem Wc.grown {A : Nat} {w V V' : World} {rc : Obj} {pre : List Nd} {v : Value} {row : Option Nat} (h : Wc A w V rc pre v) (hg : V.grownBy V' row) (hr : ∀ r, row = some r → A + 3 ≤ r ∧ r < A + 8) : Wc A w V' rc pre v := by
  have hne : ∀ k, k < A + 3 → some k ≠ row := fun k h1 e => by have := hr k e.symm; omega
  have hlt := h.lt
  exact ⟨h.bc.kept hg (hne _ (by omega)), (hg.block _ (by omega) (hne _ (by omega))).trans h.bd, (hg.block _ (by omega) (hne _ (by omega))).trans h.bl, keep_own h.row hg (fun r e => (hr r e).2), h.bel.grown hg (by omega) (fun k e => by have := hr k e; omega)⟩
theorem Wc.rcd {A : Nat} {w V : World} {rc : Obj} {pre : List Nd} {v : Value} (h : Wc A w V rc pre v) (rc' : Obj) : Wc A w (V.putObj (A + 2) rc') rc' pre v := by
  have hg := grownBy_putObj' V (A + 2) rc'
  have hlt := h.lt
  have hne : ∀ k, k ≠ A + 2 → some k ≠ some (A + 2) := fun k h1 e => by injection e with e; omega
  exact ⟨h.bc.kept hg (hne _ (by omega)), (hg.block _ (by omega) (hne _ (by omega))).trans h.bd, World.putObj_heap_same (by omega), keep_own h.row hg (fun r e => by injection e with e; omega), h.bel.grown hg (by omega) (fun k e => by injection e with e; omega)⟩
theorem Wc.app {A : Nat} {w V w3 : World} {rc : Obj} {pre : List Nd} {v v' : Value} {x : Nd} {tmp : Obj} (h : Wc A w V rc pre v) (h9 : A + 8 ≤ V.heap.size) (ho : w3.ownsRow (A + 8) 45 5 v' (pre.length + 1) (flat pre ++ cl5 x)) (hg : (V.alloc tmp).grownBy w3 v.ownBlock) :
    Boxed w3 A 28 v ∧ Wc A w (w3.setCell ⟨A, 0, none⟩ v') rc (pre ++ [x]) v' ∧ (∀ k, k < A + 8 → k ≠ A → (w3.setCell ⟨A, 0, none⟩ v').heap[k]? = V.heap[k]?) ∧ V.heap.size ≤ (w3.setCell ⟨A, 0, none⟩ v').heap.size ∧ Below A V (w3.setCell ⟨A, 0, none⟩ v') := by
  have hne : ∀ k, k < A + 8 → some k ≠ v.ownBlock := fun k hk e => by have := (World.ownsRow.lt h.row k e.symm).1; omega
  have hk : ∀ k, k < A + 8 → w3.heap[k]? = V.heap[k]? := fun k hk => (hg.block k (by simp; omega) (hne k hk)).trans (Below.heap_alloc V tmp k (by omega))
  have hs := grownBy_setCell' w3 A v'
  have hz : V.heap.size + 1 ≤ w3.heap.size := by have := hg.size; simpa using this
  have hk2 : ∀ k, k < A + 8 → k ≠ A → (w3.setCell ⟨A, 0, none⟩ v').heap[k]? = V.heap[k]? := fun k hk1 hk2 => (hs.block k (by omega) (fun e => by injection e with e; omega)).trans (hk k hk1)
  have hb3 : Boxed w3 A 28 v := (hk _ (by omega)).trans h.bc
  refine ⟨hb3, ⟨hb3.set _, (hk2 _ (by omega) (by omega)).trans h.bd, (hk2 _ (by omega) (by omega)).trans h.bl, ?_, ?_⟩, hk2, by have := hs.size; omega, ((((Below.refl A V).alloc (by omega) tmp).grown hg (by simp; omega) (fun j hj => by have := (World.ownsRow.lt h.row j hj).1; omega)).setCell (p := ⟨A, 0, none⟩) (Nat.le_refl _) _)⟩
  · have := keep_own ho hs (fun r e => by injection e with e; omega)
    unfold Ny
    rw [flat_snoc, List.length_append]
    exact this
  · exact (((h.bel.alloc (by omega) tmp).grown hg (by simp; omega) (fun j hj => by have := (World.ownsRow.lt h.row j hj).1; omega)).setCell (p := ⟨A, 0, none⟩) (Nat.le_refl _) _)
theorem collect_walk (n Bt n₀ : Nat) (h1 : 1 ≤ n) (H : HT) (t : ByteArray) (hT : IsTr t H.sh) (hs : t.size ≤ 65536) (w w2 : World) (hin : In n₀ w H) (hn : n₀ ≤ w.heap.size) (hz : w2.heap.size = w.heap.size + 1) (bC : Boxed w2 w.heap.size 28 (.slice none 0 0)) (bP : w.cell? ⟨Bt, 0, none⟩ = some (.pointer H.ptr)) (hBt : Bt < w.heap.size) (hB2 : Below w.heap.size w w2)
    {fn : FuncId} {tm : Array Value} {ps : Array Tmp} {asg bd : Code} {d : Nat}
    (hBody : ∀ m pre x v Va, Wc w.heap.size w Va (.loop (lrec .ready none fn tm ps asg bd d)) pre v → pre ++ [x] <+: nds H.sh 0 → w.heap.size + 7 < Va.heap.size → YieldAt Fence.wide m Tryd.prog (w.heap.size + 2) #[encN x] Va fun e Vb =>
      Kp (w.heap.size + 3) w.heap.size Va Vb ∧ e = .returned (.bool true) ∧ ∃ v', Wc w.heap.size w Vb (.loop (lrec .ready none fn tm ps asg bd d)) (pre ++ [x]) v') :
    CallsIn Fence.wide n Tryd.prog 63 #[.func (.yield (w.heap.size + 2)) #[] #[], .pointer (some ⟨Bt, 0, none⟩)] ((w2.alloc (.deferred (some []))).alloc (.loop (lrec .ready none fn tm ps asg bd d))) fun e V => (∃ v, e = .returned v) ∧
      ∃ v, Wc w.heap.size w V (.loop (lrec .ready none fn tm ps asg bd d)) (nds H.sh 0) v := by
  generalize hrc : Obj.loop (lrec .ready none fn tm ps asg bd d) = rc at *
  obtain ⟨V0, hV⟩ : ∃ V0, V0 = (w2.alloc (.deferred (some []))).alloc rc := ⟨_, rfl⟩
  have hB3 : Below w2.heap.size w2 V0 := by rw [hV]; exact ((Below.refl _ _).alloc (Nat.le_refl _) _).alloc (by simp) _
  have hz3 : (w2.alloc (.deferred (some []))).heap.size = w.heap.size + 2 := by simp [hz]
  have hVz : V0.heap.size = w.heap.size + 3 := by rw [hV]; simp [hz]
  have hW0 : Below w.heap.size w V0 := hB2.trans (hB3.mono (by omega))
  have W0 : Wc w.heap.size w V0 rc [] (.slice none 0 0) := by
    refine ⟨(hB3.block _ (by omega)).trans bC, ?_, ?_, World.ownsRow_nil _ _ _ _, hW0⟩
    · rw [hV, Below.heap_alloc _ _ _ (by omega), ← hz]
      exact heap_alloc_new _ _
    · rw [hV, ← hz3]
      exact heap_alloc_new _ _
  have bT3 : V0.cell? ⟨Bt, 0, none⟩ = some (.pointer H.ptr) := (hW0.cell (p := ⟨Bt, 0, none⟩) hBt).trans bP
  rw [← hV]
  clear hV hrc hB3 hB2 bC bP
  refine (alongI n (w.heap.size + 2) Bt n₀ h1 H t hT hs V0 bT3 (In.below (hW0.mono hn) hin) (by omega) (fun pre V => ∃ v, Wc w.heap.size w V rc pre v) (fun _ _ => False) ?_ ?_ ?_ ⟨_, W0⟩).mono ?_
  · rintro pre Va Vb row ⟨v, h⟩ hg hr
    exact ⟨v, h.grown hg (fun r e => by have := hr r e; omega)⟩
  · intro pre Va Vb row h _ _
    exact h
  · rintro m pre x Va ⟨v, h⟩ hp hsz
    rw [hVz] at hsz ⊢
    refine YieldAt.mono (hBody m pre x v Va h hp (by omega)) (fun e Vb hh => ⟨⟨hh.1.size, hh.1.own, hh.1.bel.mono hn⟩, .inl ⟨hh.2.1, hh.2.2⟩⟩)
  · rintro e V ⟨he, h | ⟨pre, _, h⟩⟩
    · exact ⟨he, h⟩
    · exact h.elim
theorem roundC {A g : Nat} {w Va V3 w3 : World} {rc : LoopState → Option Code → Loop} {pre : List Nd} {v' : Value} {x : Nd} (h1 : Wc A w w3 (.loop (rc .busy none)) (pre ++ [x]) v') (h2 : ∀ k, k < A + 8 → k ≠ A → w3.heap[k]? = V3.heap[k]?) (h3 : V3.heap.size ≤ w3.heap.size) (h4 : Below A V3 w3)
    (ho : ∀ k, A + 3 ≤ k → k < A + 8 → V3.heap[k]? = Va.heap[k]?) (hb : Below A Va V3) (hz : Va.heap.size ≤ V3.heap.size) :
    w3.heap[A + 2]? = some (.loop (rc .busy none)) ∧ (Kp (A + 3) A Va (w3.putObj (A + 2) (.loop (rc .ready none))) ∧ Ending.returned (.bool true) = Ending.returned (.bool true) ∧ ∃ v', Wc A w (w3.putObj (A + 2) (.loop (rc .ready none))) (.loop (rc .ready none)) (pre ++ [x]) v') := by
  have hlt := h1.lt
  have g := grownBy_putObj' w3 (A + 2) (.loop (rc .ready none))
  have gz := g.size
  refine ⟨h1.bl, ⟨by omega, fun k a b => ?_, (hb.trans h4).grown g (by omega) (fun k e => by injection e with e; omega)⟩, rfl, v', h1.rcd _⟩
  exact ((World.putObj_heap_other (by omega)).trans (h2 k (by omega) (by omega))).trans (ho k (by omega) (by omega))
set_option maxRecDepth 100000 in
set_option maxHeartbeats 4000000 in
theorem appendSeqI (Bt n₀ : Nat) (H : HT) (t : ByteArray) (hT : IsTr t H.sh) (hs : t.size ≤ 65536) (w : World) (hin : In n₀ w H) (hn : n₀ ≤ w.heap.size) (bP : w.cell? ⟨Bt, 0, none⟩ = some (.pointer H.ptr)) (hBt : Bt < w.heap.size) :
    CallsIn Fence.wide 6 Tryd.prog 62 #[.slice none 0 0, .func (.func 63) #[] #[.pointer (some ⟨Bt, 0, none⟩)]] w fun e w' => ∃ v, e = .returned v ∧ Ny w.heap.size w' v (nds H.sh 0) ∧ Below w.heap.size w w' := by
  have h1 : 1 ≤ 6 := by omega
  obtain ⟨i0, hi0, hz0, hz1, hz2⟩ := info_parts infoN
  have HL : Hid ((nds H.sh 0).length ≤ 131073) := hide (by rw [nds_len]; have := hT.count.1; omega)
  refine callsIn_of_wp_marks Tryd.func62 rfl trivial ?_ rfl
  simp only [Tryd.ntmps62, List.size_toArray, List.length_cons, List.length_nil, Nat.reduceAdd, Nat.reduceSub, Array.replicate_succ, Array.replicate_zero, List.push_toArray, List.append_toArray, List.nil_append, List.cons_append]
  gi_wp2_with fail
  obtain ⟨w2, hw2⟩ : ∃ w2, w2 = w.alloc (.cells #[.slice none 0 0] 28) := ⟨_, rfl⟩
  have hz : w2.heap.size = w.heap.size + 1 := by rw [hw2]; simp
  have bC : Boxed w2 w.heap.size 28 (.slice none 0 0) := by rw [hw2]; exact Boxed.new w 28 _
  have hB2 : Below w.heap.size w w2 := by rw [hw2]; exact (Below.refl _ _).alloc (Nat.le_refl _) _
  rw [← hw2]
  clear hw2
  refine range_walkR rfl h1 (gf := 63) (lb := #[.pointer (some ⟨Bt, 0, none⟩)]) rfl trivial (enters_of Tryd.func63 (by kernel_rfl) rfl) ?_
  intro fn hfn
  rw [hz]
  refine (collect_walk 5 Bt n₀ (by omega) H t hT hs w w2 hin hn hz bC bP hBt hB2 (d := w.heap.size + 1) ?body).mono ?done
  case body =>
    intro m pre x v Va h hp hsz
    have hln : pre.length < 131073 := by
      have := unhide HL
      obtain ⟨r, hr⟩ := hp
      rw [← hr] at this
      simp at this
      omega
    obtain ⟨W1, hW1⟩ : ∃ W1, W1 = Va.alloc (.cells #[.string x.text, .int .i64 x.left, .int .i64 x.right, .int .i64 x.size, .int .i64 x.lines] 45) := ⟨_, rfl⟩
    have g1 : Va.grownBy W1 none := by rw [hW1]; exact World.grownBy_alloc Va _ none
    have hw1 := h.grown g1 (fun r e => by cases e)
    have n1 : W1.heap[Va.heap.size]? = some (.cells #[.string x.text, .int .i64 x.left, .int .i64 x.right, .int .i64 x.size, .int .i64 x.lines] 45 (0, 0)) := by rw [hW1]; exact heap_alloc_new _ _
    refine yield_roundG trivial h.bl rfl { tmps := #[.slice none 0 0, .func (.func 63) #[] #[.pointer (some ⟨Bt, 0, none⟩)], .pointer (some ⟨w.heap.size, 0, none⟩), undef, .slice none 0 0, .pointer (some ⟨Va.heap.size, 0, none⟩), .func (.func 63) #[] #[.pointer (some ⟨Bt, 0, none⟩)], encN x, undef, undef, undef, undef, undef], defers := [] } W1 hw1.bl (fun K hK => ?ha) ?hb
    case ha =>
      unfold encN at *
      rw [hW1] at hK
      gi_wp2
      exact hK
    case hb =>
      intro rc hrc
      rw [← hrc] at h hw1 ⊢
      clear hrc
      have hA0 := h.lt
      have z1 : W1.heap.size = Va.heap.size + 1 := by rw [hW1]; simp
      have h2 := hw1.rcd (.loop (rc .busy none))
      have ko : ∀ k, k ≠ w.heap.size + 2 → (W1.putObj (w.heap.size + 2) (.loop (rc .busy none))).heap[k]? = W1.heap[k]? := fun k hk => World.putObj_heap_other hk
      have z2 : (W1.putObj (w.heap.size + 2) (.loop (rc .busy none))).heap.size = Va.heap.size + 1 := by rw [← z1]; simp
      have n2 := (ko Va.heap.size (by omega)).trans n1
      have k2 : ∀ k, w.heap.size + 3 ≤ k → k < w.heap.size + 8 → (W1.putObj (w.heap.size + 2) (.loop (rc .busy none))).heap[k]? = Va.heap[k]? := fun k ha hb => (ko k (by omega)).trans (g1.block k (by omega) (fun e => by cases e))
      have bb2 : Below w.heap.size Va (W1.putObj (w.heap.size + 2) (.loop (rc .busy none))) := ((Below.refl w.heap.size Va).grown g1 (by omega) (fun k e => by cases e)).grown (grownBy_putObj' W1 (w.heap.size + 2) _) (by omega) (fun k e => by injection e with e; omega)
      generalize W1.putObj (w.heap.size + 2) (.loop (rc .busy none)) = V1 at *
      obtain ⟨c0, c1, c2, c3, c4, f0, f1, f2, f3, f4⟩ := cells5 n2
      have H2 := hide h2
      have K2 := hide k2
      have BB2 := hide bb2
      have hV8 : w.heap.size + 8 ≤ V1.heap.size := by omega
      have hVz : Va.heap.size ≤ V1.heap.size := by omega
      obtain ⟨a0, cap0, rfl⟩ := own_formN h2.row
      have qc := h2.bc.cell
      have qf := h2.bc.frozen
      clear h hw1 h2 n1 n2 k2 bb2 ko hW1 g1 z1 hsz hA0 bC hB2 hp hT hs hin z2 bP
      gi_wp2_with (gi_at_builtin; refine wpListIn_append_own _ rfl _ _ 28 rfl (w.heap.size + 8) 45 i0 (.agg #[.string ⟨#[]⟩, .int .i64 0, .int .i64 0, .int .i64 0, .int .i64 0]) 5 48 Tryd.underlying28 hi0 hz0 hz1 hz2 rfl (by decide) _ _ _ rfl ((unhide H2).row.alloc _) ⟨V1.heap.size, 0, none⟩ 1 1 (cl5 x) rfl rfl (cells_new5 V1 _ _ _ _ _ _) (by simp [cl5, Value.oneCell']) ?c3 ?c4 ?c5 ?_)
      case c3 => unfold maxLen; omega
      case c4 => omega
      case c5 => simp; omega
      intro v' w3 hown' hgrow _
      obtain ⟨P0, P1, P2, P3, P4⟩ := (unhide H2).app hV8 hown' hgrow
      obtain ⟨g', cap', rfl⟩ := ownsRow_succ hown'
      have q0' := P0.cell
      have q0f := P0.frozen
      have HP1 := hide P1
      have HP2 := hide P2
      have HP3 := hide P3
      have HP4 := hide P4
      clear P0 P1 P2 P3 P4 hown' hgrow qc qf c0 c1 c2 c3 c4 f0 f1 f2 f3 f4
      gi_wp2
      exact roundC (g := 0) (unhide HP1) (unhide HP2) (unhide HP3) (unhide HP4) (unhide K2) (unhide BB2) hVz
  case done =>
    rintro e V ⟨he, v, h⟩
    refine ⟨he, .inl ⟨h.bl, fun o => ?_⟩⟩
    have h2 := hide (h.rcd o)
    generalize V.putObj (w.heap.size + 1 + 1) o = V1 at *
    have c0 := (unhide h2).bc.cell
    obtain ⟨a0, cap0, rfl⟩ := own_formN (unhide h2).row
    clear h bC hB2
    gi_wp2
    refine ⟨by simp, .inl ⟨_, _, rfl, run_takeDeferred (unhide h2).bd, ?_⟩⟩
    have g3 := grownBy_putObj' V1 (w.heap.size + 1) (.deferred none)
    have hlt := (unhide h2).lt
    refine ⟨.slice a0 (nds H.sh 0).length cap0, by simp [results, Tryd.results62, go_sem], _, rfl, ?_, (unhide h2).bel.grown g3 (by omega) (fun k e => by injection e with e; omega)⟩
    exact own_base (keep_own (B := w.heap.size + 8) (unhide h2).row g3 (fun r e => by injection e with e; omega)) (by omega)
end Go.Proofs.YtaipnmmlfbfcnaaDoor.Rop
