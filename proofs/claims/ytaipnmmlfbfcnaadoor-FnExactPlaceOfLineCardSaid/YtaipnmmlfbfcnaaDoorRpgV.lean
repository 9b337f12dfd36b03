/- The nodes and the leaves of a tree, handed on while a round may write what it likes but the tree's own blocks. -/
import Derived.Test.YtaipnmmlfbfcnaaDoorRpfV
namespace Go.Proofs.YtaipnmmlfbfcnaaDoor.Rop
open Go.RowKit Go.Shelf
set_option linter.unusedVariables false
set_option linter.unusedSimpArgs false
attribute [local go_sem] Oper.semAt_some
/-- A tree all of whose blocks are among S. -/
def InS (S : Nat → Prop) (W : World) : HT → Prop
  | .nil => True
  | .leaf b t => S b ∧ W.heap[b]? = some (brn t 1 none none)
  | .node b t l r => S b ∧ W.heap[b]? = some (brn t (l.sh.count + r.sh.count + 1) l.ptr r.ptr) ∧ InS S W l ∧ InS S W r
/-- The blocks of S are as they were. -/
def Tk (S : Nat → Prop) (W W' : World) : Prop := ∀ k, S k → W'.heap[k]? = W.heap[k]?
theorem Tk.refl (S : Nat → Prop) (W : World) : Tk S W W := fun _ _ => rfl
theorem Tk.trans {S : Nat → Prop} {a b c : World} (h : Tk S a b) (g : Tk S b c) : Tk S a c := fun k hk => (g k hk).trans (h k hk)
theorem Tk.cell {S : Nat → Prop} {W W' : World} (h : Tk S W W') {b : Nat} (hb : S b) (j : Nat) : W'.cell? ⟨b, j, none⟩ = W.cell? ⟨b, j, none⟩ := World.cell?_of_block (a := ⟨b, j, none⟩) (h b hb)
theorem InS.keep {S : Nat → Prop} {W W' : World} (h : Tk S W W') : ∀ {H : HT}, InS S W H → InS S W' H
  | .nil, _ => trivial
  | .leaf b t, g => ⟨g.1, (h b g.1).trans g.2⟩
  | .node b t l r, g => ⟨g.1, (h b g.1).trans g.2.1, InS.keep h g.2.2.1, InS.keep h g.2.2.2⟩
theorem InS.drew {S : Nat → Prop} {W : World} {H : HT} (h : InS S W H) : InS S W.drew H := InS.keep (W := W) (W' := W.drew) (fun _ _ => rfl) h
/-- The tree's own blocks. -/
def HT.bks : HT → List Nat
  | .nil => []
  | .leaf b _ => [b]
  | .node b _ l r => b :: (l.bks ++ r.bks)
theorem InS.wide {S S' : Nat → Prop} {W : World} (hS : ∀ k, S k → S' k) : ∀ {H : HT}, InS S W H → InS S' W H
  | .nil, _ => trivial
  | .leaf b t, g => ⟨hS _ g.1, g.2⟩
  | .node b t l r, g => ⟨hS _ g.1, g.2.1, InS.wide hS g.2.2.1, InS.wide hS g.2.2.2⟩
theorem InS.of {n₀ : Nat} {W : World} : ∀ {H : HT}, In n₀ W H → InS (fun k => k ∈ H.bks) W H
  | .nil, _ => trivial
  | .leaf b t, g => ⟨by simp [HT.bks], g.2⟩
  | .node b t l r, g => ⟨by simp [HT.bks], g.2.1, InS.wide (fun k hk => by simp [HT.bks, hk]) (InS.of g.2.2.1), InS.wide (fun k hk => by simp [HT.bks, hk]) (InS.of g.2.2.2)⟩
theorem In.blk {n₀ : Nat} {W : World} : ∀ {H : HT}, In n₀ W H → ∀ k, k ∈ H.bks → k < n₀ ∧ ∃ t n p q, W.heap[k]? = some (brn t n p q)
  | .nil, _, k, hk => by simp [HT.bks] at hk
  | .leaf b t, g, k, hk => by
    have e : k = b := by simpa [HT.bks] using hk
    subst e
    exact ⟨g.1, _, _, _, _, g.2⟩
  | .node b t l r, g, k, hk => by
    rcases List.mem_cons.1 hk with e | hk
    · subst e
      exact ⟨g.1, _, _, _, _, g.2.1⟩
    · rcases List.mem_append.1 hk with hk | hk
      · exact In.blk g.2.2.1 k hk
      · exact In.blk g.2.2.2 k hk
theorem InS.head {S : Nat → Prop} {W : World} {H : HT} (h : InS S W H) (hn : H.sh ≠ .nil) : ∃ b p q, H.ptr = some ⟨b, 0, none⟩ ∧ S b ∧ W.heap[b]? = some (brn H.sh.text H.sh.count p q) := by
  cases H with
  | nil => exact absurd rfl hn
  | leaf b t => exact ⟨b, _, _, rfl, h.1, h.2⟩
  | node b t l r => exact ⟨b, _, _, rfl, h.1, h.2.1⟩
theorem leafXT {S : Nat → Prop} (x : HT) (hx : x ≠ .nil) (t' : ByteArray) (ht : IsTr t' x.sh) (W : World) (h : InS S W x) : Calls Tryd.prog 53 #[.pointer x.ptr] W fun e w' => e = .returned (.bool x.isL) ∧ w' = W := by
  cases x with
  | nil => exact absurd rfl hx
  | leaf b t => exact leafI b 1 t none none W h.2
  | node b t l r =>
    cases ht with
    | node h64 hl hr =>
      have hc := cut_bd h64
      have hz := size_cut h64
      obtain ⟨b', p, q, e1, _, _⟩ := InS.head h.2.2.1 (tr_ne hl (by omega))
      have := leafI b _ _ l.ptr r.ptr W h.2.1
      rw [e1] at this
      exact this
/-- What a round of the one that asks keeps. -/
structure Kt (A : Nat) (S : Nat → Prop) (Va Vb : World) : Prop where
  size : Va.heap.size ≤ Vb.heap.size
  own : ∀ k, A ≤ k → k < A + 4 → Vb.heap[k]? = Va.heap[k]?
  bel : Tk S Va Vb
theorem Tk.grown {S : Nat → Prop} {W V V' : World} {row : Option Nat} (h : Tk S W V) (hg : V.grownBy V' row) (hs : ∀ k, S k → k < V.heap.size) (hr : ∀ k, S k → some k ≠ row) : Tk S W V' := fun k hk => (hg.block k (hs k hk) (hr k hk)).trans (h k hk)
theorem Tk.of {S : Nat → Prop} {n : Nat} {V V' : World} (h : Below n V V') (hs : ∀ k, S k → k < n) : Tk S V V' := fun k hk => h.block k (hs k hk)
set_option maxRecDepth 100000 in
set_option maxHeartbeats 2000000 in
theorem handT (l : Nat) (S : Nat → Prop) (Q : List HT) (J Jx : List HT → World → Prop)
    (hY : ∀ m pre x W, J pre W → pre ++ [x] <+: Q → InS S W x → YieldAt Fence.wide m Tryd.prog l #[.pointer x.ptr] W fun e W' =>
      (e = .returned (.bool true) ∧ J (pre ++ [x]) W' ∧ Tk S W W') ∨ (e = .returned (.bool false) ∧ Jx (pre ++ [x]) W')) (H : HT) :
    ∀ (n : Nat) (pre : List HT) (W : World), InS S W H → J pre W → pre ++ H.pre <+: Q →
      CallsIn Fence.wide n Tryd.prog 66 #[.pointer H.ptr, .func (.yield l) #[] #[]] W fun e W' =>
        (e = .returned (.bool true) ∧ J (pre ++ H.pre) W' ∧ Tk S W W') ∨ (e = .returned (.bool false) ∧ ∃ q, q <+: H.pre ∧ Jx (pre ++ q) W') := by
  induction H with
  | nil =>
    intro n pre W hi hJ hp
    refine (hand0 l n W).mono ?_
    rintro e W' ⟨rfl, rfl⟩
    exact .inl ⟨rfl, by simpa [HT.pre] using hJ, Tk.refl _ _⟩
  | leaf b t =>
    intro n pre W hi hJ hp
    obtain ⟨c0, c1, c2, c3, c4⟩ := brn_cells hi.2
    have hb := hi.1
    obtain ⟨fn, tmps, assign, body, hyy, hR'⟩ := hY (n - 1) pre (.leaf b t) W hJ hp hi
    have hR := RoundIn.mono hR' (R' := fun e W1 => (e = .returned (.bool true) ∧ J (pre ++ [.leaf b t]) W1 ∧ Hid (Tk S W W1) ∧ W1.cell? ⟨b, 3, none⟩ = some (.pointer none) ∧ W1.cell? ⟨b, 4, none⟩ = some (.pointer none)) ∨ (e = .returned (.bool false) ∧ Jx (pre ++ [.leaf b t]) W1))
      (fun e W1 h => h.elim (fun ⟨he, hj, hb1⟩ => .inl ⟨he, hj, hide hb1, (Tk.cell hb1 hb 3).trans c3, (Tk.cell hb1 hb 4).trans c4⟩) .inr)
    clear hR' c0 c1 c2 c3 c4 hY
    have e0 : (HT.leaf b t).ptr = some ⟨b, 0, none⟩ := rfl
    rw [e0] at hyy ⊢
    clear e0
    have TOK : True := trivial
    refine callsIn_of_wp Tryd.func66 rfl trivial ?_ rfl
    simp only [Tryd.ntmps66, List.size_toArray, List.length_cons, List.length_nil, Nat.reduceAdd, Nat.reduceSub, Array.replicate_succ, Array.replicate_zero, List.push_toArray, List.append_toArray, List.nil_append, List.cons_append]
    gi_wp2_with (first
      | ((try refine ⟨(fun h => (by cases h)), ?_⟩); refine hR.mono ?_; clear hR; rintro e W1 (⟨rfl, hJ1, hb1, c3', c4'⟩ | ⟨rfl, hx1⟩))
      | (refine ⟨trivial, (fun h => (by cases h)), ?_⟩; gi_at_call 66; refine (hand0 l _ _).mono ?_; rintro e W2 ⟨rfl, hw⟩; obtain rfl := hw.symm; clear hw))
    · go_ret
      exact .inl ⟨rfl, hJ1, unhide hb1⟩
    · have JX := hide hx1
      clear hx1
      refine ⟨trivial, ?_⟩
      gi_wp2_with (refine ⟨trivial, ?_⟩)
      go_ret
      exact .inr ⟨rfl, [.leaf b t], List.prefix_refl _, unhide JX⟩
  | node b t lh rh ihl ihr =>
    intro n pre W hi hJ hp
    obtain ⟨hb, hh, hil, hir⟩ := hi
    obtain ⟨c0, c1, c2, c3, c4⟩ := brn_cells hh
    have hp1 : pre ++ [.node b t lh rh] <+: Q := handL hp
    have hp2 : (pre ++ [.node b t lh rh]) ++ lh.pre <+: Q := by
      obtain ⟨r, hr⟩ := hp
      exact ⟨rh.pre ++ r, by rw [← hr]; simp [HT.pre]⟩
    have hp3 : ((pre ++ [.node b t lh rh]) ++ lh.pre) ++ rh.pre <+: Q := by
      obtain ⟨r, hr⟩ := hp
      exact ⟨r, by rw [← hr]; simp [HT.pre]⟩
    obtain ⟨fn, tmps, assign, body, hyy, hR'⟩ := hY (n - 1) pre (.node b t lh rh) W hJ hp1 ⟨hb, hh, hil, hir⟩
    have hR := RoundIn.mono hR' (R' := fun e W1 => (e = .returned (.bool true) ∧ Hid (J (pre ++ [.node b t lh rh]) W1) ∧ Hid (Tk S W W1) ∧ W1.cell? ⟨b, 3, none⟩ = some (.pointer lh.ptr)) ∨ (e = .returned (.bool false) ∧ Hid (Jx (pre ++ [.node b t lh rh]) W1)))
      (fun e W1 h => h.elim (fun ⟨he, hj, hb1⟩ => .inl ⟨he, hide hj, hide hb1, (Tk.cell hb1 hb 3).trans c3⟩) (fun ⟨he, hx⟩ => .inr ⟨he, hide hx⟩))
    have IL := hide (fun W1 (hj : J (pre ++ [.node b t lh rh]) W1) (hb1 : Tk S W W1) => (ihl (n - 1) _ W1 (InS.keep hb1 hil) hj hp2).mono (R' := fun e W2 => (e = .returned (.bool true) ∧ Hid (J ((pre ++ [.node b t lh rh]) ++ lh.pre) W2) ∧ Hid (Tk S W W2) ∧ W2.cell? ⟨b, 4, none⟩ = some (.pointer rh.ptr)) ∨ (e = .returned (.bool false) ∧ ∃ q, Hid (q <+: lh.pre ∧ Jx ((pre ++ [.node b t lh rh]) ++ q) W2)))
      (fun e W2 h => h.elim (fun ⟨he, hj2, hb2⟩ => .inl ⟨he, hide hj2, hide (hb1.trans hb2), (Tk.cell (hb1.trans hb2) hb 4).trans c4⟩) (fun ⟨he, q, hq⟩ => .inr ⟨he, q, hide hq⟩)))
    have IR := hide (fun W2 (hj : J ((pre ++ [.node b t lh rh]) ++ lh.pre) W2) (hb2 : Tk S W W2) => (ihr (n - 1) _ W2 (InS.keep hb2 hir) hj hp3).mono (R' := fun e W3 => (e = .returned (.bool true) ∧ Hid (J (((pre ++ [.node b t lh rh]) ++ lh.pre) ++ rh.pre) W3) ∧ Hid (Tk S W W3)) ∨ (e = .returned (.bool false) ∧ ∃ q, Hid (q <+: rh.pre ∧ Jx (((pre ++ [.node b t lh rh]) ++ lh.pre) ++ q) W3)))
      (fun e W3 h => h.elim (fun ⟨he, hj2, hb3⟩ => .inl ⟨he, hide hj2, hide (hb2.trans hb3)⟩) (fun ⟨he, q, hq⟩ => .inr ⟨he, q, hide hq⟩)))
    clear hR' c0 c1 c2 c3 c4 hY ihl ihr hh hil hir hp1 hp2 hp3 hp hJ
    have e0 : (HT.node b t lh rh).ptr = some ⟨b, 0, none⟩ := rfl
    rw [e0] at hyy ⊢
    clear e0
    have HE : Hid (pre ++ (HT.node b t lh rh).pre = ((pre ++ [.node b t lh rh]) ++ lh.pre) ++ rh.pre) := hide (by simp [HT.pre])
    have HP : Hid (∀ q, (q <+: lh.pre → .node b t lh rh :: q <+: (HT.node b t lh rh).pre) ∧ (q <+: rh.pre → .node b t lh rh :: (lh.pre ++ q) <+: (HT.node b t lh rh).pre)) := hide (fun q => ⟨fun ⟨r, hr⟩ => ⟨r ++ rh.pre, by simp [HT.pre, ← hr]⟩, fun ⟨r, hr⟩ => ⟨r, by simp [HT.pre, ← hr]⟩⟩)
    have HP0 : Hid ([.node b t lh rh] <+: (HT.node b t lh rh).pre) := hide ⟨lh.pre ++ rh.pre, rfl⟩
    generalize HT.node b t lh rh = X at *
    generalize lh.ptr = pl at *
    generalize rh.ptr = pr at *
    refine callsIn_of_wp Tryd.func66 rfl trivial ?_ rfl
    simp only [Tryd.ntmps66, List.size_toArray, List.length_cons, List.length_nil, Nat.reduceAdd, Nat.reduceSub, Array.replicate_succ, Array.replicate_zero, List.push_toArray, List.append_toArray, List.nil_append, List.cons_append]
    gi_wp2_with (first
      | ((try refine ⟨(fun h => (by cases h)), ?_⟩); refine hR.mono ?_; clear hR; rintro e W1 (⟨rfl, hJ1, hb1, c3'⟩ | ⟨rfl, hx1⟩))
      | (refine ⟨trivial, (fun h => (by cases h)), ?_⟩; gi_at_call 66; refine ((unhide IL) _ (unhide hJ1) (unhide hb1)).mono ?_; clear IL; rintro e W2 (⟨rfl, hJ2, hb2, c4'⟩ | ⟨rfl, q, hq⟩))
      | (refine ⟨trivial, (fun h => (by cases h)), ?_⟩; gi_at_call 66; refine ((unhide IR) _ (unhide hJ2) (unhide hb2)).mono ?_; clear IR; rintro e W3 (⟨rfl, hJ3, hb3⟩ | ⟨rfl, q, hq⟩)))
    · go_ret
      exact .inl ⟨rfl, by rw [unhide HE]; exact unhide hJ3, unhide hb3⟩
    · go_ret
      exact .inr ⟨rfl, X :: (lh.pre ++ q), ((unhide HP) q).2 (unhide hq).1, by have := (unhide hq).2; simpa using this⟩
    · refine ⟨trivial, ?_⟩
      gi_wp2
      go_ret
      exact .inr ⟨rfl, X :: q, ((unhide HP) q).1 (unhide hq).1, by have := (unhide hq).2; simpa using this⟩
    · refine ⟨trivial, ?_⟩
      gi_wp2_with (refine ⟨trivial, ?_⟩)
      go_ret
      exact .inr ⟨rfl, [X], unhide HP0, unhide hx1⟩
set_option maxHeartbeats 1000000 in
theorem all1T (n l Bt : Nat) (S : Nat → Prop) (H : HT) (J Jx : List HT → World → Prop)
    (hY : ∀ m pre x W, J pre W → pre ++ [x] <+: H.pre → InS S W x → YieldAt Fence.wide m Tryd.prog l #[.pointer x.ptr] W fun e W' =>
      (e = .returned (.bool true) ∧ J (pre ++ [x]) W' ∧ Tk S W W') ∨ (e = .returned (.bool false) ∧ Jx (pre ++ [x]) W'))
    (W : World) (hBt : W.cell? ⟨Bt, 0, none⟩ = some (.pointer H.ptr)) (hin : InS S W H) (h0 : J [] W) :
    CallsIn Fence.wide n Tryd.prog 65 #[.func (.yield l) #[] #[], .pointer (some ⟨Bt, 0, none⟩)] W fun e W' => (∃ v, e = .returned v) ∧ (J H.pre W' ∨ (∃ pre, pre <+: H.pre ∧ Jx pre W')) := by
  have hp := hide (handT l S H.pre J Jx hY H (n - 1) [] W hin h0 (by simp))
  clear hY
  generalize H.ptr = p0 at *
  refine callsIn_of_wp Tryd.func65 rfl trivial ?_ rfl
  simp only [Tryd.ntmps65, List.size_toArray, List.length_cons, List.length_nil, Nat.reduceAdd, Nat.reduceSub, Array.replicate_succ, Array.replicate_zero, List.push_toArray, List.append_toArray, List.nil_append, List.cons_append]
  gi_wp2_with (refine ⟨trivial, (fun h => (by cases h)), ?_⟩; gi_at_call 66; refine (unhide hp).mono ?_; clear hp; rintro e W1 (⟨rfl, hJ1, _⟩ | ⟨rfl, q, hq, hx⟩))
  · go_end0
    exact ⟨⟨_, rfl⟩, .inl (by simpa using hJ1)⟩
  · go_end0
    exact ⟨⟨_, rfl⟩, .inr ⟨q, hq, by simpa using hx⟩⟩
theorem leavesT_walk (n l : Nat) (S : Nat → Prop) (H : HT) (W w2 : World) (hin : InS S W H) (hn : ∀ k, S k → k < W.heap.size) (hz : w2.heap.size = W.heap.size + 2) (bY : Boxed w2 W.heap.size 86 (.func (.yield l) #[] #[])) (bP : Boxed w2 (W.heap.size + 1) 51 (.pointer H.ptr)) (hB2 : Below W.heap.size W w2)
    (J Jx : List ByteArray → World → Prop)
    (hA : ∀ pre Va Vb row, J pre Va → Va.grownBy Vb row → (∀ r, row = some r → W.heap.size ≤ r ∧ r < W.heap.size + 4) → J pre Vb) (h0 : J [] W)
    {fn : FuncId} {tm : Array Value} {ps : Array Tmp} {asg bd : Code} {d : Nat}
    (hBody : ∀ m pre x Va, Lv W.heap.size l H.ptr Va (.loop (lrec .ready none fn tm ps asg bd d)) → J (ltx pre) Va → pre ++ [x] <+: H.pre → InS S Va x → YieldAt Fence.wide m Tryd.prog (W.heap.size + 3) #[.pointer x.ptr] Va fun e Vb =>
      (e = .returned (.bool true) ∧ (Lv W.heap.size l H.ptr Vb (.loop (lrec .ready none fn tm ps asg bd d)) ∧ J (ltx (pre ++ [x])) Vb) ∧ Tk S Va Vb) ∨ (e = .returned (.bool false) ∧ Lv W.heap.size l H.ptr Vb (.loop (lrec .done (some .ret) fn tm ps asg bd d)) ∧ Jx (ltx (pre ++ [x])) Vb)) :
    CallsIn Fence.wide n Tryd.prog 65 #[.func (.yield (W.heap.size + 3)) #[] #[], .pointer (some ⟨W.heap.size + 1, 0, none⟩)] ((w2.alloc (.deferred (some []))).alloc (.loop (lrec .ready none fn tm ps asg bd d))) fun e V => (∃ v, e = .returned v) ∧
      ((Lv W.heap.size l H.ptr V (.loop (lrec .ready none fn tm ps asg bd d)) ∧ J (ltx H.pre) V) ∨ (∃ pre, pre <+: ltx H.pre ∧ Lv W.heap.size l H.ptr V (.loop (lrec .done (some .ret) fn tm ps asg bd d)) ∧ Jx pre V)) := by
  generalize hrc : Obj.loop (lrec .ready none fn tm ps asg bd d) = rc at *
  generalize hrx : Obj.loop (lrec .done (some .ret) fn tm ps asg bd d) = rx at *
  obtain ⟨V0, hV⟩ : ∃ V0, V0 = (w2.alloc (.deferred (some []))).alloc rc := ⟨_, rfl⟩
  have hB3 : Below w2.heap.size w2 V0 := by rw [hV]; exact ((Below.refl _ _).alloc (Nat.le_refl _) _).alloc (by simp) _
  have hz3 : (w2.alloc (.deferred (some []))).heap.size = W.heap.size + 3 := by simp [hz]
  have A0 : Lv W.heap.size l H.ptr V0 rc := by
    refine ⟨(hB3.block _ (by omega)).trans bY, (hB3.block _ (by omega)).trans bP, ?_, ?_⟩
    · rw [hV, Below.heap_alloc _ _ _ (by omega), ← hz]
      exact heap_alloc_new _ _
    · rw [hV, ← hz3]
      exact heap_alloc_new _ _
  have hW0 : Below W.heap.size W V0 := hB2.trans (hB3.mono (by omega))
  have J0 : J [] V0 := hA _ _ _ none h0 (grown_of hW0) (fun r e => by cases e)
  rw [← hV]
  clear hV hrc hrx
  refine (all1T n (W.heap.size + 3) (W.heap.size + 1) S H (fun pre V => Lv W.heap.size l H.ptr V rc ∧ J (ltx pre) V) (fun pre V => Lv W.heap.size l H.ptr V rx ∧ Jx (ltx pre) V) ?_ V0 A0.pt.cell (InS.keep (Tk.of hW0 hn) hin) ⟨A0, J0⟩).mono ?_
  · rintro m pre x Va ⟨a1, a2⟩ hp hix
    exact hBody m pre x Va a1 a2 hp hix
  · rintro e V ⟨he, ⟨h1, h2⟩ | ⟨pre, hp, h1, h2⟩⟩
    · exact ⟨he, .inl ⟨h1, h2⟩⟩
    · exact ⟨he, .inr ⟨_, ltx_pre hp, h1, h2⟩⟩
set_option maxRecDepth 100000 in
set_option maxHeartbeats 4000000 in
theorem leavesT (n' l Bt : Nat) (S : Nat → Prop) (h1 : 1 ≤ n') (H : HT) (t : ByteArray) (hT : IsTr t H.sh) (hs : t.size ≤ 65536) (W : World) (hbt : W.cell? ⟨Bt, 0, none⟩ = some (.pointer H.ptr)) (hin : InS S W H) (hn : ∀ k, S k → k < W.heap.size)
    (J Jx : List ByteArray → World → Prop)
    (hA : ∀ pre Va Vb row, J pre Va → Va.grownBy Vb row → (∀ r, row = some r → W.heap.size ≤ r ∧ r < W.heap.size + 4) → J pre Vb)
    (hAx : ∀ pre Va Vb row, Jx pre Va → Va.grownBy Vb row → (∀ r, row = some r → W.heap.size ≤ r ∧ r < W.heap.size + 4) → Jx pre Vb)
    (hY : ∀ m pre s Va, J pre Va → pre ++ [s] <+: ltx H.pre → W.heap.size + 3 < Va.heap.size → YieldAt Fence.wide m Tryd.prog l #[lfv s] Va fun e Vb => Kt W.heap.size S Va Vb ∧ ((e = .returned (.bool true) ∧ J (pre ++ [s]) Vb) ∨ (e = .returned (.bool false) ∧ Jx (pre ++ [s]) Vb)))
    (h0 : J [] W) :
    CallsIn Fence.wide n' Tryd.prog 51 #[.func (.yield l) #[] #[], .pointer (some ⟨Bt, 0, none⟩)] W fun e V => (∃ v, e = .returned v) ∧ (J (ltx H.pre) V ∨ (∃ pre, pre <+: ltx H.pre ∧ Jx pre V)) := by
  have CA := hide (fun w => (callsIn_wide (n := n' - 1)).2 (allI H.ptr w))
  refine callsIn_of_wp_marks Tryd.func51 rfl trivial ?_ rfl
  simp only [Tryd.ntmps51, List.size_toArray, List.length_cons, List.length_nil, Nat.reduceAdd, Nat.reduceSub, Array.replicate_succ, Array.replicate_zero, List.push_toArray, List.append_toArray, List.nil_append, List.cons_append]
  have hb1 : ∀ a, (W.alloc a).cell? ⟨Bt, 0, none⟩ = some (.pointer H.ptr) := fun a => cell_allocA hbt a
  gi_wp2_with (refine ⟨trivial, ?_⟩; gi_at_call 52; refine ((unhide CA) _).mono ?_; clear CA; rintro e W1 ⟨rfl, rfl⟩)
  obtain ⟨w2, hw2⟩ : ∃ w2, w2 = (W.alloc (.cells #[.func (.yield l) #[] #[]] 86)).alloc (.cells #[.pointer H.ptr] 51) := ⟨_, rfl⟩
  have e1 : (W.alloc (.cells #[.func (.yield l) #[] #[]] 86)).heap.size = W.heap.size + 1 := by simp
  have hz : w2.heap.size = W.heap.size + 2 := by rw [hw2]; simp
  have bY : Boxed w2 W.heap.size 86 (.func (.yield l) #[] #[]) := by rw [hw2]; exact (Boxed.new W 86 _).alloc _
  have bP : Boxed w2 (W.heap.size + 1) 51 (.pointer H.ptr) := by rw [hw2, ← e1]; exact Boxed.new _ 51 _
  have hB2 : Below W.heap.size W w2 := by rw [hw2]; exact ((Below.refl W.heap.size W).alloc (Nat.le_refl _) _).alloc (by simp) _
  rw [← hw2]
  try rw [e1]
  clear hw2 e1 hb1
  have HA := hide hA
  have HAx := hide hAx
  have HY := hide hY
  clear hA hAx hY
  refine range_walkR rfl h1 (gf := 65) (lb := #[.pointer (some ⟨W.heap.size + 1, 0, none⟩)]) rfl trivial (enters_of Tryd.func65 (by kernel_rfl) rfl) ?_
  intro fn hfn
  rw [hz]
  refine (leavesT_walk (n' - 1) l S H W w2 hin hn hz bY bP hB2 J Jx (unhide HA) h0 (d := W.heap.size + 2) ?body).mono ?done
  case body =>
    intro m pre x Va hal hJ hp hix
    refine yield_roundR trivial hal.bl rfl { tmps := #[.func (.yield l) #[] #[], .pointer (some ⟨Bt, 0, none⟩), .pointer (some ⟨W.heap.size, 0, none⟩), .pointer x.ptr, .pointer H.ptr, .func (.func 65) #[] #[.pointer (some ⟨W.heap.size + 1, 0, none⟩)], .pointer x.ptr, undef, undef, undef, undef, undef, undef, undef, undef, undef, undef, undef], defers := [] } (fun K hK => ?ha) ?hb
    case ha =>
      gi_wp2
      exact hK
    case hb =>
      intro rc hrc
      rw [← hrc] at hal ⊢
      rw [← hrc]
      clear hrc
      have hal1 := hal.rcd (.loop (rc .busy none))
      have g1 := grownBy_putObj' Va (W.heap.size + 3) (.loop (rc .busy none))
      have hJ1 := (unhide HA) _ _ _ _ hJ g1 (fun r e => by injection e with e; omega)
      have b1 : Tk S Va (Va.putObj (W.heap.size + 3) (.loop (rc .busy none))) := Tk.grown (Tk.refl S Va) g1 (fun k hk => by have := hn k hk; have := hal.lt; omega) (fun k hk e => by injection e with e; have := hn k hk; omega)
      have hix1 := InS.keep b1 hix
      generalize Va.putObj (W.heap.size + 3) (.loop (rc .busy none)) = V1 at *
      clear g1 hal hJ hix
      have c1 := hal1.yl.cell
      have hmem : x ∈ H.pre := by
        obtain ⟨r, hr⟩ := hp
        rw [← hr]; simp
      obtain ⟨hxn, t', ht', hs'⟩ := pre_ok hT hs x hmem
      have CX := hide (fun k V (h : InS S V x) => (callsIn_wide (n := k)).2 (leafXT x hxn t' ht' V h))
      have HAL := hide hal1
      have HJ1 := hide hJ1
      have HB1 := hide b1
      have HI1 := hide hix1
      have HP := hide hp
      have hmx := mixed
      cases x with
      | nil => exact absurd rfl hxn
      | leaf b s =>
        obtain ⟨hbn, hbk⟩ := hix1
        have HBK := hide hbk
        have HPS : Hid (ltx pre ++ [s] <+: ltx H.pre) := hide (by have := ltx_pre hp; rw [ltx_app] at this; exact this)
        have HLS : Hid (ltx (pre ++ [.leaf b s]) = ltx pre ++ [s]) := hide (by rw [ltx_app]; rfl)
        have HYY := hide (fun V2 (hb : Below V1.heap.size V1 V2) => YieldAt.mono ((unhide HY) (m - 1) (ltx pre) s V2 ((unhide HA) _ _ _ none (unhide HJ1) (grown_of hb) (fun r e => by cases e)) (unhide HPS) (by have := (unhide HAL).lt; have := hb.size; omega)) (R' := fun e V3 => ∃ bb : Bool, e = .returned (.bool bb) ∧ Hid (Kt W.heap.size S V2 V3) ∧ Hid (if bb then J (ltx pre ++ [s]) V3 else Jx (ltx pre ++ [s]) V3)) (fun e V3 h => h.2.elim (fun ⟨he, hj⟩ => ⟨true, he, hide h.1, hide hj⟩) (fun ⟨he, hj⟩ => ⟨false, he, hide h.1, hide hj⟩)))
        have hb1 : b < V1.heap.size := (Array.getElem?_eq_some_iff.1 hbk).1
        have hpt : (HT.leaf b s).ptr = some ⟨b, 0, none⟩ := rfl
        have hlf : (HT.leaf b s).isL = true := rfl
        rw [hpt, hlf] at CX
        rw [hpt]
        generalize HT.leaf b s = X at *
        unfold lfv at HYY
        obtain ⟨d0, d1, d2, _, _⟩ := brn_cells hbk
        clear hmem hxn ht' hs' hp hal1 hJ1 b1 hT hs hbt hin h0 bY bP hB2 hpt hlf hbk
        gi_wp2_with fail
        gi_region_with_o (first
          | (refine ⟨trivial, (fun h => (by cases h)), ?_⟩; gi_at_call 53; refine ((unhide CX) _ _ (InS.drew (unhide HI1))).mono ?_; rintro e V2 ⟨rfl, hw⟩; have B2 : Hid (Below V1.heap.size V1 V2) := hide (by rw [hw]; exact bdrew (Below.refl V1.heap.size V1) 1); clear hw; obtain ⟨fn2, tm2, as2, bd2, hy2, hR2⟩ := (unhide HYY) V2 (unhide B2); have c1' := ((unhide HAL).below (unhide B2)).yl.cell; obtain ⟨g0, g1, g2, _, _⟩ := brn_cells (((unhide B2).block b hb1).trans (unhide HBK)))
          | (refine ⟨(fun h => (by cases h)), ?_⟩; refine hR2.mono ?_; rintro e V3 ⟨bb, rfl, hk3, hj3⟩))
        all_goals
          have AL3 := hide (((unhide HAL).below (unhide B2)).same (unhide hk3).own)
          have hB3 : Hid (Tk S Va V3) := hide ((unhide HB1).trans ((Tk.of (unhide B2) (fun k hk => by have := hn k hk; have := (unhide HAL).lt; omega)).trans (unhide hk3).bel))
          have hlt := (unhide AL3).lt
          clear hk3 HYY CX hy2 hR2 c1' HI1
          cases bb with
          | false =>
            gi_wp2
            exact ⟨(unhide AL3).bl, .inr ⟨rfl, (unhide AL3).rcd _, by rw [unhide HLS]; exact (unhide HAx) _ _ _ _ (unhide hj3) (grownBy_putObj' V3 (W.heap.size + 3) _) (fun r e => by injection e with e; omega)⟩⟩
          | true =>
            gi_wp2
            have g5 := grownBy_putObj' V3 (W.heap.size + 3) (.loop (rc .ready none))
            refine ⟨(unhide AL3).bl, .inl ⟨rfl, ⟨(unhide AL3).rcd _, ?_⟩, ?_⟩⟩
            · rw [unhide HLS]
              exact (unhide HA) _ _ _ _ (unhide hj3) g5 (fun r e => by injection e with e; omega)
            · exact Tk.grown (unhide hB3) g5 (fun k hk => by have := hn k hk; omega) (fun k hk e => by injection e with e; have := hn k hk; omega)
      | node b s lh rh =>
        have HLS : Hid (ltx (pre ++ [.node b s lh rh]) = ltx pre) := hide (by rw [ltx_app]; exact List.append_nil _)
        have hlf : (HT.node b s lh rh).isL = false := rfl
        have hpt : (HT.node b s lh rh).ptr = some ⟨b, 0, none⟩ := rfl
        rw [hpt, hlf] at CX
        rw [hpt]
        generalize HT.node b s lh rh = X at *
        clear hmem hxn ht' hs' hp hal1 hJ1 b1 hT hs hbt hin h0 bY bP hB2 hix1 hpt hlf
        gi_wp2_with fail
        gi_region_with_o (first | (refine ⟨trivial, (fun h => (by cases h)), ?_⟩; gi_at_call 53; refine ((unhide CX) _ _ (InS.drew (unhide HI1))).mono ?_; rintro e V2 ⟨rfl, hw⟩; have B2 : Hid (Below V1.heap.size V1 V2) := hide (by rw [hw]; exact bdrew (Below.refl V1.heap.size V1) 1); clear hw; have c1' := ((unhide HAL).below (unhide B2)).yl.cell) | (refine ⟨(fun _ h => (by cases h)), ?_⟩))
        all_goals
          have AL3 := hide ((unhide HAL).below (unhide B2))
          have J3 := hide ((unhide HA) _ _ _ none (unhide HJ1) (grown_of (unhide B2)) (fun r e => by cases e))
          have hB3 : Hid (Tk S Va V2) := hide ((unhide HB1).trans (Tk.of (unhide B2) (fun k hk => by have := hn k hk; have := (unhide HAL).lt; omega)))
          have hlt := (unhide AL3).lt
          clear CX c1' HI1
          gi_wp2
          have g5 := grownBy_putObj' V2 (W.heap.size + 3) (.loop (rc .ready none))
          refine ⟨(unhide AL3).bl, .inl ⟨rfl, ⟨(unhide AL3).rcd _, ?_⟩, ?_⟩⟩
          · rw [unhide HLS]
            exact (unhide HA) _ _ _ _ (unhide J3) g5 (fun r e => by injection e with e; omega)
          · exact Tk.grown (unhide hB3) g5 (fun k hk => by have := hn k hk; omega) (fun k hk e => by injection e with e; have := hn k hk; omega)
  case done =>
    rintro e V ⟨he, h⟩
    refine ⟨he, ?_⟩
    rcases h with ⟨h, hj⟩ | ⟨pre, hp, h, hj⟩
    · refine .inl ⟨h.bl, fun o => ?_⟩
      have h2 := hide (h.rcd o)
      have j2 := hide ((unhide HA) _ _ _ _ hj (grownBy_putObj' V (W.heap.size + 3) o) (fun r e => by injection e with e; omega))
      generalize V.putObj (W.heap.size + 2 + 1) o = V1 at *
      clear h hj bY bP hB2
      gi_wp2
      have j3 := (unhide HA) _ _ _ _ (unhide j2) (grownBy_putObj' V1 (W.heap.size + 2) (.deferred none)) (fun r e => by injection e with e; omega)
      refine ⟨by simp, .inl ⟨_, _, rfl, run_takeDeferred (unhide h2).bd, ?_⟩⟩
      exact ⟨_, results_none rfl _ _ _, ⟨_, rfl⟩, .inl j3⟩
    · refine .inr ⟨_, h.bl, fun o => ?_⟩
      have h2 := hide (h.rcd o)
      have j2 := hide ((unhide HAx) _ _ _ _ hj (grownBy_putObj' V (W.heap.size + 3) o) (fun r e => by injection e with e; omega))
      generalize V.putObj (W.heap.size + 2 + 1) o = V1 at *
      clear h hj bY bP hB2
      gi_wp2
      have j3 := (unhide HAx) _ _ _ _ (unhide j2) (grownBy_putObj' V1 (W.heap.size + 2) (.deferred none)) (fun r e => by injection e with e; omega)
      refine ⟨by simp, .inl ⟨_, _, rfl, run_takeDeferred (unhide h2).bd, ?_⟩⟩
      exact ⟨_, results_none rfl _ _ _, ⟨_, rfl⟩, .inr ⟨_, hp, j3⟩⟩
end Go.Proofs.YtaipnmmlfbfcnaaDoor.Rop
