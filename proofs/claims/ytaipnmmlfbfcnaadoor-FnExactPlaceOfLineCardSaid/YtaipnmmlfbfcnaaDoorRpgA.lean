/- LineAt of a rope that is right, at a place within. -/
import Derived.Test.YtaipnmmlfbfcnaaDoorRgnI
import Derived.Deep.RegionHeld3
namespace Go.Proofs.YtaipnmmlfbfcnaaDoor.Rop
open Go.RowKit Go.Shelf Rwc
set_option linter.unusedVariables false
set_option linter.unusedSimpArgs false
attribute [local go_sem] Oper.semAt_some
/-- What a round writes: its own boxes. -/
def Oth (g q : Nat) (Va V : World) : Prop := Va.heap.size ≤ V.heap.size ∧ ∀ j, j < Va.heap.size → j ≠ g + 1 → j ≠ g + 2 → j ≠ q → j ≠ q + 3 → V.heap[j]? = Va.heap[j]?
theorem Oth.refl (g q : Nat) (V : World) : Oth g q V V := ⟨Nat.le_refl _, fun _ _ _ _ _ _ => rfl⟩
theorem Oth.grown {g q : Nat} {Va V V' : World} {row : Option Nat} (h : Oth g q Va V) (hg : V.grownBy V' row) (hr : ∀ r, row = some r → r = g + 1 ∨ r = g + 2 ∨ r = q ∨ r = q + 3) : Oth g q Va V' :=
  ⟨Nat.le_trans h.1 hg.size, fun j a b c d e => (hg.block j (Nat.lt_of_lt_of_le a h.1) (fun e' => by rcases hr j e'.symm with h | h | h | h <;> omega)).trans (h.2 j a b c d e)⟩
theorem Oth.kt {g q : Nat} {S : Nat → Prop} {Va V : World} (h : Oth g q Va V) (hS : ∀ b, S b → b ≠ g + 1 ∧ b ≠ g + 2 ∧ b < q) (hgq : g + 3 ≤ q) (hz : q + 7 < Va.heap.size) : Kt (q + 4) S Va V :=
  ⟨h.1, fun k a b => h.2 k (by omega) (by omega) (by omega) (by omega) (by omega), fun k hk => by have := hS k hk; exact h.2 k (by omega) (by omega) (by omega) (by omega) (by omega)⟩
theorem cells3 {W : World} {g : Nat} {a b c : Value} {T : TypeId} (h : W.heap[g]? = some (.cells #[a, b, c] T (0, 0))) : W.cell? ⟨g, 0, none⟩ = some a ∧ W.cell? ⟨g, 1, none⟩ = some b ∧ W.cell? ⟨g, 2, none⟩ = some c := by
  refine ⟨?_, ?_, ?_⟩ <;> simp [World.cell?, h]
theorem in_drew {n : Nat} {W : World} {H : HT} (h : In n W H) : In n W.drew H := In.below (bdrew (Below.refl n W) 1) h
theorem rgt_size {L N : List Nd} {M : List Mk} (h : rgt L N M = true) : (cat L).size ≤ 65536 := by
  rw [rgt_split] at h
  by_cases c : (cat L).size ≤ 65536
  · exact c
  · rw [decide_eq_false c] at h
    exact absurd h (by simp)
theorem wrapI (x : Int) (h0 : -9223372036854775808 ≤ x) (h1 : x ≤ 9223372036854775807) : IntKind.i64.wrap x = x := by
  simp [IntKind.wrap, IntKind.bits, IntKind.signed]
  omega
theorem Li.setQ {g q : Nat} {w V : World} {rc : Obj} {a l : Int} (h : Li g q w V rc a l) (hgq : g + 3 ≤ q) (l' : Int) : Li g q w (V.setCell ⟨q, 0, none⟩ (.int .i64 l')) rc a l' := by
  have hlt := h.lt
  have g1 := grownBy_setCell' V q (.int .i64 l')
  have n1 : ∀ k, k ≠ q → some k ≠ some q := fun k h1 e => by injection e with e; omega
  exact ⟨h.ba.kept g1 (n1 _ (by omega)), h.br.kept g1 (n1 _ (by omega)), h.bq.set _, (g1.block _ (by omega) (n1 _ (by omega))).trans h.bd, (g1.block _ (by omega) (n1 _ (by omega))).trans h.bl, h.bel.grown g1 (by omega) (fun k e => by injection e with e; omega)⟩
theorem Li.setA {g q : Nat} {w V : World} {rc : Obj} {a l : Int} (h : Li g q w V rc a l) (hgq : g + 3 ≤ q) (a' : Int) : Li g q w (V.setCell ⟨g + 1, 0, none⟩ (.int .i64 a')) rc a' l := by
  have hlt := h.lt
  have g1 := grownBy_setCell' V (g + 1) (.int .i64 a')
  have n1 : ∀ k, k ≠ g + 1 → some k ≠ some (g + 1) := fun k h1 e => by injection e with e; omega
  exact ⟨h.ba.set _, h.br.kept g1 (n1 _ (by omega)), h.bq.kept g1 (n1 _ (by omega)), (g1.block _ (by omega) (n1 _ (by omega))).trans h.bd, (g1.block _ (by omega) (n1 _ (by omega))).trans h.bl, h.bel.grown g1 (by omega) (fun k e => by injection e with e; omega)⟩
theorem Oth.setC {g q x : Nat} {Va V : World} {v : Value} (h : Oth g q Va V) (hx : x = g + 1 ∨ x = g + 2 ∨ x = q ∨ x = q + 3) : Oth g q Va (V.setCell ⟨x, 0, none⟩ v) := h.grown (grownBy_setCell' V x v) (fun r e => by injection e with e; omega)
theorem blk_setC {W : World} {b x : Nat} {o : Obj} {v : Value} (h : W.heap[b]? = some o) (hx : b ≠ x) : (W.setCell ⟨x, 0, none⟩ v).heap[b]? = some o :=
  ((grownBy_setCell' W x v).block b (Array.getElem?_eq_some_iff.1 h).1 (fun e => by injection e with e; omega)).trans h
theorem Lx.fin {g q : Nat} {w V : World} {rc : Obj} {r : Int} (h : Lx g q w V rc r) (hgq : g + 3 ≤ q) : V.heap[q + 2]? = some (.deferred (some [])) ∧ (V.putObj (q + 2) (.deferred none)).cell? ⟨g + 1 + 1, 0, none⟩ = some (.int .i64 r) ∧ Below g w (V.putObj (q + 2) (.deferred none)) := by
  have hlt := h.lt
  have g1 := grownBy_putObj' V (q + 2) (.deferred none)
  exact ⟨h.bd, (h.br.kept g1 (fun e => by injection e with e; omega)).cell, h.bel.grown g1 (by omega) (fun k e => by injection e with e; omega)⟩
structure SameW (a b : World) : Prop where
  eq : a = b
theorem brn_box {W : World} {b : Nat} {v : Value} {t : ByteArray} {n : Nat} {p q : Option Addr} (h : Boxed W b 2 v) (g : W.heap[b]? = some (brn t n p q)) : False := by
  unfold Boxed at h
  rw [h] at g
  unfold brn at g
  injection g with g
  injection g with g1 g2 g3
  exact absurd g2 (by decide)
set_option maxRecDepth 100000 in
set_option maxHeartbeats 4000000 in
theorem lineYes_in (v1 v2 : Value) (L : List Nd) (M : List Mk) (T : RT) (B : Nat) (w : World) (h1 : nd_At B w v1 L) (h2 : mk_At B w v2 M) (hT : IsTr (cat L) T) (hS : Sm L M) (hTab : TabD w) (hr : rgt L (nds T 0) M = true) (k : Nat) (hk : k ≤ (cat L).size) :
    CallsIn Fence.wide 8 Tryd.prog 18 #[.agg #[v1, v2], .int .i64 (k : Int)] w fun e w' => e = .returned (.int .i64 (ends ((cat L).extract 0 k) : Int)) ∧ Below w.heap.size w w' := by
  have h8 : 1 ≤ 8 := by omega
  have hs := rgt_size hr
  have CT := hide (fun W (x : nd_At B W v1 L) (y : mk_At B W v2 M) (z : TabD W) => (callsIn_wide (n := 7)).2 (treeAny v1 v2 L M T B W x y hT z hS))
  rw [hr] at CT
  have CX := hide (fun W p (x : Ans T true W p) => textAny T (cat L) hT true W p x)
  have hK : k ≤ (cat L).size := hk
  have CW := hide (fun W => within_any (k : Int) 0 ((cat L).size : Int) W)
  have e0 : txt true (cat L) = cat L := rfl
  rw [e0] at CX
  have e1 : (decide (0 ≤ (k : Int)) && decide ((k : Int) ≤ ((cat L).size : Int))) = true := by simp; omega
  try rw [e1] at CW
  have CF := hide (fun p W => (callsIn_wide (n := 7)).2 (leavesF p W))
  have H1 := hide h1
  have H2 := hide h2
  have HTAB := hide hTab
  obtain ⟨a1, c1, rfl⟩ := nd_form h1
  obtain ⟨a2, c2, rfl⟩ := mk_form h2
  clear h1 h2 hTab hS e0 e1 hr
  generalize cat L = C at *
  have hmx := mixed
  refine callsIn_of_wp_marks Tryd.func18 rfl trivial ?_ rfl
  simp only [Tryd.ntmps18, List.size_toArray, List.length_cons, List.length_nil, Nat.reduceAdd, Nat.reduceSub, Array.replicate_succ, Array.replicate_zero, List.push_toArray, List.append_toArray, List.nil_append, List.cons_append]
  gi_wp2_with fail
  refine ⟨trivial, ?_⟩
  gi_at_call 28
  obtain ⟨w0, hw0⟩ : ∃ w0, w0 = ((w.alloc (.cells #[.slice a1 L.length c1, .slice a2 M.length c2] 31)).alloc (.cells #[.int .i64 (k : Int)] 2)).alloc (.cells #[.int .i64 0] 2) := ⟨_, rfl⟩
  have hB0 : Below w.heap.size w w0 := by rw [hw0]; exact (((Below.refl _ _).alloc (Nat.le_refl _) _).alloc (by simp) _).alloc (by simp; omega) _
  have z0 : w0.heap.size = w.heap.size + 3 := by rw [hw0]; simp
  have f1 : (w.alloc (.cells #[.slice a1 L.length c1, .slice a2 M.length c2] 31)).heap.size = w.heap.size + 1 := by simp
  have f2 : ((w.alloc (.cells #[.slice a1 L.length c1, .slice a2 M.length c2] 31)).alloc (.cells #[.int .i64 (k : Int)] 2)).heap.size = w.heap.size + 2 := by simp
  have bA0 : Boxed w0 (w.heap.size + 1) 2 (.int .i64 (k : Int)) := by rw [hw0, ← f1]; exact (Boxed.new _ 2 _).alloc _
  have bR0 : Boxed w0 (w.heap.size + 2) 2 (.int .i64 0) := by rw [hw0, ← f2]; exact Boxed.new _ 2 _
  rw [← hw0]
  clear hw0 f1 f2
  refine ((unhide CT) w0 (nd_below (unhide H1) hB0) (mk_below (unhide H2) hB0) ((unhide HTAB).below hB0)).mono ?_
  clear CT H1 H2 HTAB
  rintro e w1 ⟨p, rfl, ha, hb1⟩
  rcases ha with ⟨hf, _⟩ | ⟨_, H, rfl, hsH, hin⟩
  · cases hf
  subst hsH
  have hB1 : Below w.heap.size w w1 := hB0.trans (hb1.mono (by omega))
  have bA1 : Boxed w1 (w.heap.size + 1) 2 (.int .i64 (k : Int)) := (hb1.block _ (by omega)).trans bA0
  have bR1 : Boxed w1 (w.heap.size + 2) 2 (.int .i64 0) := (hb1.block _ (by omega)).trans bR0
  have z1 : w.heap.size + 3 ≤ w1.heap.size := by have := hb1.size; omega
  have AD : Hid (Ans H.sh true w1.drew H.ptr) := hide (.inr ⟨rfl, H, rfl, rfl, in_drew hin⟩)
  have cA := bA1.cell
  have cD : w1.drew.cell? ⟨w.heap.size + 1, 0, none⟩ = some (.int .i64 (k : Int)) := cA
  have HB1 := hide hB1
  have HA1 := hide bA1
  have HR1 := hide bR1
  have HIN := hide hin
  clear hB0 z0 bA0 bR0 hb1 hB1 bA1 bR1 hin
  gi_wp2_with fail
  refine wpIn_wide.2 ?_
  refine wp_region_noPanic ?_
  refine wp_region_held_drew (S := fun w' : World => w'.cell? ⟨w.heap.size + 1, 0, none⟩ = some (.int .i64 (k : Int))) (by kernel_rfl) (by first | go_keep | exact cA) (fun hHeld => ?_)
  refine tkM (i := 0) (d := some 15) (v := ?_) rfl rfl (by kernel_rfl) (by kernel_rfl) (by kernel_rfl) (fun _ _ _ h => h) (Or.inl ⟨by rfl, ?_⟩) (by assumption) ?_
  rotate_left
  · intro w hSw; (try dsimp only at hSw); go_simp; try with_reducible rfl
  try simp only [Act.put, List.setIfInBounds_toArray, List.set_cons_zero, List.set_cons_succ]
  refine tkM (i := 1) (d := some 16) (v := ?_) rfl rfl (by kernel_rfl) (by kernel_rfl) (by kernel_rfl) (fun _ _ _ h => h) (Or.inl ⟨by rfl, ?_⟩) (by assumption) ?_
  rotate_left
  · intro w hSw; (try dsimp only at hSw); go_simp; try with_reducible rfl
  try simp only [Act.put, List.setIfInBounds_toArray, List.set_cons_zero, List.set_cons_succ]
  refine tkM (i := 2) (d := some 17) (v := ?_) rfl rfl (by kernel_rfl) (by kernel_rfl) (by kernel_rfl) (fun _ _ _ h => h) (Or.inl ⟨by rfl, ?_⟩) (by assumption) ?_
  rotate_left
  · intro w hSw; (try dsimp only at hSw); go_simp; try with_reducible rfl
  try simp only [Act.put, List.setIfInBounds_toArray, List.set_cons_zero, List.set_cons_succ]
  refine tkM (i := 3) (d := some 18) (v := ?_) rfl rfl (by kernel_rfl) (by kernel_rfl) (by kernel_rfl) (fun _ _ _ h => h) (Or.inl ⟨by rfl, ?_⟩) (by assumption) ?_
  rotate_left
  · intro w hSw; (try dsimp only at hSw); go_simp; try with_reducible rfl
  try simp only [Act.put, List.setIfInBounds_toArray, List.set_cons_zero, List.set_cons_succ]
  refine tkM (i := 4) (d := some 19) (v := ?_) rfl rfl (by kernel_rfl) (by kernel_rfl) (by kernel_rfl) (fun _ _ _ h => h) (Or.inl ⟨by rfl, ?_⟩) (by assumption) ?_
  rotate_left
  · intro w hSw; (try dsimp only at hSw); go_simp; try with_reducible rfl
  try simp only [Act.put, List.setIfInBounds_toArray, List.set_cons_zero, List.set_cons_succ]
  refine wpAnyH_ready (rs := [5]) (by kernel_rfl) (by simp) (AllReadyH.cons rfl (fun Kq hK => ?_) AllReadyH.nil)
  go_simp
  go_at_call 31
  refine ((unhide CX) _ _ (unhide AD)).mono ?_
  rintro e W2 ⟨rfl, hw⟩
  obtain rfl := hw.symm
  clear hw
  try go_wp2_with fail
  refine hK.out _ _ cD (fun hHeld5 => ?_)
  clear hK Kq
  try simp only [Act.put, List.setIfInBounds_toArray, List.set_cons_zero, List.set_cons_succ]
  refine tkM (i := 6) (d := some 21) (v := ?_) rfl rfl (by kernel_rfl) (by kernel_rfl) (by kernel_rfl) (fun _ _ _ h => h) (Or.inl ⟨by rfl, ?_⟩) (by assumption) ?_
  rotate_left
  · intro w hSw; (try dsimp only at hSw); go_simp; try with_reducible rfl
  try simp only [Act.put, List.setIfInBounds_toArray, List.set_cons_zero, List.set_cons_succ]
  refine wpAnyH_ready (rs := [7]) (by kernel_rfl) (by simp) (AllReadyH.cons rfl (fun Kq hK => ?_) AllReadyH.nil)
  go_simp
  go_at_call 32
  refine ((unhide CW) _).mono ?_
  rintro e W2 ⟨rfl, hw⟩
  obtain rfl := hw.symm
  clear hw
  try go_wp2_with fail
  refine hK.out _ _ cD (fun hHeld7 => ?_)
  clear hK Kq
  try simp only [Act.put, List.setIfInBounds_toArray, List.set_cons_zero, List.set_cons_succ]
  refine tkM (i := 8) (d := some 23) (v := ?_) rfl rfl (by kernel_rfl) (by kernel_rfl) (by kernel_rfl) (fun _ _ _ h => h) (Or.inl ⟨by rfl, ?_⟩) (by assumption) ?_
  rotate_left
  · intro w hSw; (try dsimp only at hSw); go_simp; try with_reducible rfl
  try simp only [Act.put, List.setIfInBounds_toArray, List.set_cons_zero, List.set_cons_succ]
  refine tkM (i := 9) (d := some 24) (v := ?_) rfl rfl (by kernel_rfl) (by kernel_rfl) (by kernel_rfl) (fun _ _ _ h => h) (Or.inl ⟨by rfl, ?_⟩) (by assumption) ?_
  rotate_left
  · intro w hSw; (try dsimp only at hSw); go_simp; try with_reducible rfl
  try simp only [Act.put, List.setIfInBounds_toArray, List.set_cons_zero, List.set_cons_succ]
  refine wpAnyH_done (by kernel_rfl) ?_ _
  refine NoPanic.normal ?_
  clear CX CW AD
  gi_wp2_with fail
  refine ⟨trivial, ?_⟩
  gi_at_call 34
  refine ((unhide CF) _ _).mono ?_
  clear CF
  rintro e W2 ⟨rfl, rfl⟩
  gi_wp2_with fail
  obtain ⟨w2, hw2⟩ : ∃ w2, w2 = ((w1.alloc (.cells #[.int .i64 0] 2)).alloc (.cells #[.pointer H.ptr] 51)).drew := ⟨_, rfl⟩
  have f1 : (w1.alloc (.cells #[.int .i64 0] 2)).heap.size = w1.heap.size + 1 := by simp
  have z2 : w2.heap.size = w1.heap.size + 2 := by rw [hw2]; show ((w1.alloc _).alloc _).heap.size = _; simp
  have hBw : Below w1.heap.size w1 w2 := by rw [hw2]; exact bdrew (((Below.refl _ _).alloc (Nat.le_refl _) _).alloc (by simp) _) 1
  have bQ : Boxed w2 w1.heap.size 2 (.int .i64 0) := by rw [hw2]; exact (Boxed.new w1 2 (.int .i64 0)).alloc (.cells #[.pointer H.ptr] 51)
  have bP : Boxed w2 (w1.heap.size + 1) 51 (.pointer H.ptr) := by rw [hw2, ← f1]; exact Boxed.new (w1.alloc (.cells #[.int .i64 0] 2)) 51 (.pointer H.ptr)
  rw [← hw2]
  clear hw2 f1 cA cD
  have hin := unhide HIN
  have hIn : InS (fun b => b ∈ H.bks) w2 H := InS.keep (Tk.of hBw (fun b hb => (In.blk hin b hb).1)) (InS.of hin)
  have hS : ∀ b, b ∈ H.bks → b ≠ w.heap.size + 1 ∧ b ≠ w.heap.size + 2 ∧ b < w1.heap.size := by
    intro b hb
    obtain ⟨hlt, t, n, p, q, hh⟩ := In.blk hin b hb
    refine ⟨fun e => ?_, fun e => ?_, hlt⟩
    · subst e
      exact brn_box (unhide HA1) hh
    · subst e
      exact brn_box (unhide HR1) hh
  have bA2 : Boxed w2 (w.heap.size + 1) 2 (.int .i64 (k : Int)) := (hBw.block _ (by omega)).trans (unhide HA1)
  have bR2 : Boxed w2 (w.heap.size + 2) 2 (.int .i64 0) := (hBw.block _ (by omega)).trans (unhide HR1)
  have hB2 : Below w.heap.size w w2 := (unhide HB1).trans (hBw.mono (by omega))
  have HS := hide hS
  clear HIN HA1 HR1 HB1 hin
  refine range_walkR rfl h8 (gf := 51) (lb := #[.pointer (some ⟨w1.heap.size + 1, 0, none⟩)]) rfl trivial (enters_of Tryd.func51 (by kernel_rfl) rfl) ?_
  intro fn hfn
  rw [z2]
  have hgq := z1
  refine (line_walk 7 w.heap.size w1.heap.size (fun b => b ∈ H.bks) (by omega) H C hT hs k w w2 hIn hS hgq z2 bA2 bR2 bQ bP hB2 (d := w1.heap.size + 2) ?body).mono ?done
  case body =>
    intro m pre s Va h hl hp hsz
    have hj := jn_leaves hT
    obtain ⟨rest, hrest⟩ := hp
    have hC : C = jn pre ++ (s ++ jn rest) := by
      rw [← hj, ← hrest, List.append_assoc, jn_app]
      rfl
    have hCs : C.size = (jn pre).size + (s.size + (jn rest).size) := by rw [hC, ByteArray.size_append, ByteArray.size_append]
    have g1 : (jn (pre ++ [s])).size = (jn pre).size + s.size := by rw [jn_snoc, ByteArray.size_append]
    have g2 : ends (jn (pre ++ [s])) = ends (jn pre) + ends s := by rw [jn_snoc, ends_app]
    have g3 := ends_le (jn pre)
    have g4 := ends_le s
    have g5 := ends_le (s.extract 0 (k - (jn pre).size))
    have g6 : k - (jn pre).size < s.size → ends (jn pre) + ends (s.extract 0 (k - (jn pre).size)) = ends (C.extract 0 k) := by
      intro c
      rw [hC]
      exact (line_in hl (by omega)).symm
    have g7 : (s.extract 0 (k - (jn pre).size)).size ≤ s.size := by rw [ByteArray.size_extract]; omega
    rw [g1, g2]
    have e1 : (k : Int) - ((jn pre).size : Int) = ((k - (jn pre).size : Nat) : Int) := by omega
    have e2 : (k : Int) - (((jn pre).size + s.size : Nat) : Int) = ((k - (jn pre).size : Nat) : Int) - (s.size : Int) := by omega
    have e3 : ((jn pre).size + s.size ≤ k) ↔ ¬ k - (jn pre).size < s.size := by omega
    have e4 : ((ends (jn pre) + ends s : Nat) : Int) = (ends (jn pre) : Int) + (ends s : Int) := by omega
    rw [e1] at h
    rw [e2, e4, e3]
    clear e1 e2 e3 e4 hj hrest hC hT hIn g1 g2 bA2 bR2 bQ bP hB2 hBw hfn
    have hjs : (jn pre).size ≤ 65536 := by omega
    have hss : s.size ≤ 65536 := by omega
    have hks : k - (jn pre).size ≤ 65536 := by omega
    clear hCs hl
    generalize k - (jn pre).size = j at *
    generalize (jn pre).size = u at *
    generalize ends (jn pre) = l at *
    have hlf : lfv s = .agg #[.string s, .int .i64 (ends s : Int), .int .i64 1] := rfl
    generalize ends s = es at *
    have CL := hide (fun n W => (callsIn_wide (n := n)).2 (linesI (s.extract 0 j) W))
    generalize ends (s.extract 0 j) = ex at *
    generalize ends (C.extract 0 k) = fin at *
    obtain ⟨W1, hW1⟩ : ∃ W1, W1 = Va.alloc (.cells #[.string s, .int .i64 (es : Int), .int .i64 1] 63) := ⟨_, rfl⟩
    have gw : Va.grownBy W1 none := by rw [hW1]; exact World.grownBy_alloc Va _ none
    have hw1 := h.grown hgq gw (fun r e => by cases e)
    have n1 : W1.heap[Va.heap.size]? = some (.cells #[.string s, .int .i64 (es : Int), .int .i64 1] 63 (0, 0)) := by rw [hW1]; exact heap_alloc_new _ _
    refine yield_roundG trivial h.bl rfl { tmps := #[.agg #[.slice a1 L.length c1, .slice a2 M.length c2], .int .i64 (k : Int), .pointer (some ⟨w.heap.size, 0, none⟩), .pointer (some ⟨w.heap.size + 1, 0, none⟩), .pointer (some ⟨w.heap.size + 1 + 1, 0, none⟩), .pointer H.ptr, .bool true, .pointer (some ⟨w1.heap.size, 0, none⟩), .pointer (some ⟨Va.heap.size, 0, none⟩), undef, .tuple #[.pointer H.ptr, .bool true], .agg #[.slice a1 L.length c1, .slice a2 M.length c2], .tuple #[.pointer H.ptr, .bool true], .pointer H.ptr, .bool true, .bool true, .bool false, .bool false, .int .i64 (k : Int), .pointer H.ptr, .string C, .int .i64 (C.size : Int), .bool true, .bool false, .bool false, .pointer H.ptr, .func (.func 51) #[] #[.pointer (some ⟨w1.heap.size + 1, 0, none⟩)], lfv s, undef, undef, undef, undef, undef, undef, undef, undef, undef, undef, undef, undef, undef, undef, undef, undef, undef, undef, undef, undef, undef], defers := [] } W1 hw1.bl (fun K hK => ?ha) ?hb
    case ha =>
      rw [hlf] at hK ⊢
      rw [hW1] at hK
      clear hlf
      gi_wp2
      exact hK
    case hb =>
      intro rc hrc
      rw [← hrc] at h hw1 ⊢
      rw [← hrc]
      clear hrc
      have o1 : Oth w.heap.size w1.heap.size Va (W1.putObj (w1.heap.size + 3) (.loop (rc .busy none))) := ((Oth.refl _ _ Va).grown gw (fun r e => by cases e)).grown (grownBy_putObj' W1 (w1.heap.size + 3) _) (fun r e => by injection e with e; omega)
      have l1 := hw1.rcd hgq (.loop (rc .busy none))
      have n2 : (W1.putObj (w1.heap.size + 3) (.loop (rc .busy none))).heap[Va.heap.size]? = some (.cells #[.string s, .int .i64 (es : Int), .int .i64 1] 63 (0, 0)) := (World.putObj_heap_other (by omega)).trans n1
      generalize W1.putObj (w1.heap.size + 3) (.loop (rc .busy none)) = V1 at *
      clear h hw1 n1 gw hW1 hlf
      obtain ⟨d0, d1, d2⟩ := cells3 n2
      have L1 := hide l1
      have O1 := hide o1
      have N1 := hide n2
      have qa := l1.ba.cell
      have qaf := l1.ba.frozen
      have qr : V1.cell? ⟨w.heap.size + 1 + 1, 0, none⟩ = some (.int .i64 0) := l1.br.cell
      have qrf : V1.frozen? ⟨w.heap.size + 1 + 1, 0, none⟩ = false := l1.br.frozen
      have qq := l1.bq.cell
      have qqf := l1.bq.frozen
      have hZ := hide hgq
      have HSZ := hide hsz
      clear l1 o1 n2 hgq hsz z1 z2 hS
      by_cases cc : j < s.size
      · have cI : (j : Int) < (s.size : Int) := by omega
        have jI : (0 : Int) ≤ (j : Int) := by omega
        have jS : j ≤ s.size := by omega
        have hF := g6 cc
        have wr1 : IntKind.i64.wrap ((l : Int) + (ex : Int)) = (fin : Int) := by rw [wrapI _ (by omega) (by omega)]; omega
        clear hF
        have lI : (l : Int) ≤ 65536 := by omega
        have lI0 : (0 : Int) ≤ (l : Int) := by omega
        have xI : (ex : Int) ≤ 65536 := by omega
        have xI0 : (0 : Int) ≤ (ex : Int) := by omega
        clear g6
        gi_wp2_with fail
        refine region_inv hmx (fun lf ac w' => ∃ (b0 b1 b2 b3 b4 b5 b6 b7 : Bool), lf = #[b0, b1, b2, b3, b4, b5, b6, b7] ∧ ac = { tmps := #[.agg #[.slice a1 L.length c1, .slice a2 M.length c2], .int .i64 (k : Int), .pointer (some ⟨w.heap.size, 0, none⟩), .pointer (some ⟨w.heap.size + 1, 0, none⟩), .pointer (some ⟨w.heap.size + 1 + 1, 0, none⟩), .pointer H.ptr, .bool true, .pointer (some ⟨w1.heap.size, 0, none⟩), .pointer (some ⟨Va.heap.size, 0, none⟩), .int .i64 (s.size : Int), .tuple #[.pointer H.ptr, .bool true], .agg #[.slice a1 L.length c1, .slice a2 M.length c2], .tuple #[.pointer H.ptr, .bool true], .pointer H.ptr, .bool true, .bool true, .bool false, .bool false, .int .i64 (k : Int), .pointer H.ptr, .string C, .int .i64 (C.size : Int), .bool true, .bool false, .bool false, .pointer H.ptr, .func (.func 51) #[] #[.pointer (some ⟨w1.heap.size + 1, 0, none⟩)], lfv s, .pointer (some ⟨Va.heap.size, 0, none⟩), .string s, .int .i64 (s.size : Int), .int .i64 (j : Int), .int .i64 (s.size : Int), .bool true, (bif b0 then .int .i64 (l : Int) else undef), (bif b1 then .pointer (some ⟨Va.heap.size, 0, none⟩) else undef), (bif b2 then .string s else undef), (bif b3 then .int .i64 (j : Int) else undef), (bif b4 then .string (s.extract 0 j) else undef), (bif b5 then .int .i64 (ex : Int) else undef), (bif b6 then .int .i64 (fin : Int) else undef), undef, undef, undef, undef, undef, undef, undef, undef], defers := [] } ∧ SameW w' (bif b7 then V1.drew.setCell ⟨w.heap.size + 1 + 1, 0, none⟩ (.int .i64 (fin : Int)) else V1.drew) ∧ (b7 = true → b0 = true ∧ b2 = true ∧ b3 = true)) (by kernel_rfl) ?size ?first ?step ?last
        case size =>
          rintro lf ac w' ⟨b0, b1, b2, b3, b4, b5, b6, b7, rfl, _⟩
          rfl
        case first => exact ⟨false, false, false, false, false, false, false, false, rfl, rfl, ⟨rfl⟩, fun h => by cases h⟩
        case step =>
          rintro ii lf ac w' ⟨b0, b1, b2, b3, b4, b5, b6, b7, rfl, rfl, hw', h7⟩ hr
          have hr := mem_ready.1 hr
          rcases ii with _ | _ | _ | _ | _ | _ | _ | _ | ii
          · simp [Region.binds] at hr
            repeat (rcases hr with ⟨hq, hr⟩)
            subst_vars
            obtain rfl : b7 = false := by cases b7 <;> simp_all
            have hw2 := hw'.eq
            simp only [cond_false] at hw2
            subst hw2
            refine wpOpIn_step rfl (fun K hK => ?_)
            go_simp
            refine hK _ _ ⟨true, _, _, _, _, _, _, _, rfl, rfl, hw', fun h => by cases h⟩
          · simp [Region.binds] at hr
            repeat (rcases hr with ⟨hq, hr⟩)
            subst_vars
            refine wpOpIn_step rfl (fun K hK => ?_)
            go_simp
            refine hK _ _ ⟨_, true, _, _, _, _, _, _, rfl, rfl, hw', h7⟩
          · simp [Region.binds] at hr
            repeat (rcases hr with ⟨hq, hr⟩)
            subst_vars
            obtain rfl : b7 = false := by cases b7 <;> simp_all
            have hw2 := hw'.eq
            simp only [cond_false] at hw2
            subst hw2
            refine wpOpIn_step rfl (fun K hK => ?_)
            go_simp
            refine hK _ _ ⟨_, _, true, _, _, _, _, _, rfl, rfl, hw', fun h => by cases h⟩
          · simp [Region.binds] at hr
            repeat (rcases hr with ⟨hq, hr⟩)
            subst_vars
            obtain rfl : b7 = false := by cases b7 <;> simp_all
            have hw2 := hw'.eq
            simp only [cond_false] at hw2
            subst hw2
            refine wpOpIn_step rfl (fun K hK => ?_)
            go_simp
            refine hK _ _ ⟨_, _, _, true, _, _, _, _, rfl, rfl, hw', fun h => by cases h⟩
          · simp [Region.binds] at hr
            repeat (rcases hr with ⟨hq, hr⟩)
            subst_vars
            refine wpOpIn_step rfl (fun K hK => ?_)
            go_simp
            refine hK _ _ ⟨_, _, _, _, true, _, _, _, rfl, rfl, hw', h7⟩
          · simp [Region.binds] at hr
            repeat (rcases hr with ⟨hq, hr⟩)
            subst_vars
            refine wpOpIn_step rfl (fun K hK => ?_)
            go_simp
            refine ⟨trivial, (fun h => (by cases h)), ?_⟩
            gi_at_call 35
            refine ((unhide CL) _ _).mono ?_
            rintro e W5 ⟨rfl, hw5⟩
            obtain rfl := hw5.symm
            clear hw5
            refine hK _ _ ⟨_, _, _, _, _, true, _, _, rfl, rfl, hw', h7⟩
          · simp [Region.binds] at hr
            repeat (rcases hr with ⟨hq, hr⟩)
            subst_vars
            refine wpOpIn_step rfl (fun K hK => ?_)
            go_simp
            refine hK _ _ ⟨_, _, _, _, _, _, true, _, rfl, rfl, hw', h7⟩
          · simp [Region.binds] at hr
            repeat (rcases hr with ⟨hq, hr⟩)
            subst_vars
            have hw2 := hw'.eq
            simp only [cond_false] at hw2
            subst hw2
            refine wpOpIn_step rfl (fun K hK => ?_)
            go_simp
            refine hK _ _ ⟨_, _, _, _, _, _, _, true, rfl, rfl, ⟨rfl⟩, fun _ => ⟨rfl, rfl, rfl⟩⟩
          · simp at hr
        case last =>
          rintro ac W4 ⟨f0, f1, f2, f3, f4, f5, f6, f7, hlf, rfl, hw', h7⟩
          have hlf := congrArg Array.toList hlf
          simp at hlf
          repeat (rcases hlf with ⟨hq, hlf⟩)
          subst_vars
          have hw2 := hw'.eq
          simp only [cond_true] at hw2
          have gd := grown_of (bdrew (Below.refl V1.heap.size V1) 1)
          have L4 : Hid (Lx w.heap.size w1.heap.size w W4 (.loop (rc .busy none)) (fin : Int)) := hide (by rw [hw2]; exact ((unhide L1).grown (unhide hZ) gd (fun r e => by cases e)).told (unhide hZ) (fin : Int))
          have O4 : Hid (Oth w.heap.size w1.heap.size Va W4) := hide (by rw [hw2]; exact ((unhide O1).grown gd (fun r e => by cases e)).setC (x := w.heap.size + 1 + 1) (by omega))
          clear hw2 hw' gd
          gi_wp2
          have o5 := (unhide O4).grown (grownBy_putObj' W4 (w1.heap.size + 3) (.loop (rc .done (some .ret)))) (fun r e => by injection e with e; omega)
          exact ⟨(unhide L4).bl, o5.kt (unhide HS) (unhide hZ) (unhide HSZ), rfl, (unhide L4).rcd (unhide hZ) _⟩
      · have cI : ¬ (j : Int) < (s.size : Int) := by omega
        have lI : (l : Int) + (es : Int) ≤ 131072 := by omega
        have lI0 : (0 : Int) ≤ (l : Int) := by omega
        have xI0 : (0 : Int) ≤ (es : Int) := by omega
        have dI : (0 : Int) ≤ (j : Int) - (s.size : Int) := by omega
        have dI2 : (j : Int) - (s.size : Int) ≤ 65536 := by omega
        have wr1 : IntKind.i64.wrap ((l : Int) + (es : Int)) = (l : Int) + (es : Int) := wrapI _ (by omega) (by omega)
        have wr2 : IntKind.i64.wrap ((j : Int) - (s.size : Int)) = (j : Int) - (s.size : Int) := wrapI _ (by omega) (by omega)
        have ne1 : w1.heap.size ≠ w.heap.size + 1 := by have := unhide hZ; omega
        have ne2 : w.heap.size + 1 ≠ w1.heap.size := by have := unhide hZ; omega
        clear g6
        gi_wp2_with fail
        refine region_inv hmx (fun lf ac w' => ∃ (b0 b1 b2 b3 b4 b5 b6 b7 b8 : Bool), lf = #[b0, b1, b2, b3, b4, b5, b6, b7, b8] ∧ ac = { tmps := #[.agg #[.slice a1 L.length c1, .slice a2 M.length c2], .int .i64 (k : Int), .pointer (some ⟨w.heap.size, 0, none⟩), .pointer (some ⟨w.heap.size + 1, 0, none⟩), .pointer (some ⟨w.heap.size + 1 + 1, 0, none⟩), .pointer H.ptr, .bool true, .pointer (some ⟨w1.heap.size, 0, none⟩), .pointer (some ⟨Va.heap.size, 0, none⟩), .int .i64 (s.size : Int), .tuple #[.pointer H.ptr, .bool true], .agg #[.slice a1 L.length c1, .slice a2 M.length c2], .tuple #[.pointer H.ptr, .bool true], .pointer H.ptr, .bool true, .bool true, .bool false, .bool false, .int .i64 (k : Int), .pointer H.ptr, .string C, .int .i64 (C.size : Int), .bool true, .bool false, .bool false, .pointer H.ptr, .func (.func 51) #[] #[.pointer (some ⟨w1.heap.size + 1, 0, none⟩)], lfv s, .pointer (some ⟨Va.heap.size, 0, none⟩), .string s, .int .i64 (s.size : Int), .int .i64 (j : Int), .int .i64 (s.size : Int), .bool false, undef, undef, undef, undef, undef, undef, undef, (bif b0 then .int .i64 (l : Int) else undef), (bif b1 then .pointer (some ⟨Va.heap.size, 1, none⟩) else undef), (bif b2 then .int .i64 (es : Int) else undef), (bif b3 then .int .i64 ((l : Int) + (es : Int)) else undef), (bif b4 then .int .i64 (j : Int) else undef), (bif b5 then .int .i64 (s.size : Int) else undef), (bif b6 then .int .i64 ((j : Int) - (s.size : Int)) else undef), undef], defers := [] } ∧ Hid (Li w.heap.size w1.heap.size w w' (.loop (rc .busy none)) (bif b8 then (j : Int) - (s.size : Int) else (j : Int)) (bif b7 then (l : Int) + (es : Int) else (l : Int))) ∧ Hid (Oth w.heap.size w1.heap.size Va w') ∧ Hid (w'.heap[Va.heap.size]? = some (.cells #[.string s, .int .i64 (es : Int), .int .i64 1] 63 (0, 0))) ∧ (b7 = true → b0 = true) ∧ (b8 = true → b4 = true ∧ b7 = true)) (by kernel_rfl) ?size ?first ?step ?last
        case size =>
          rintro lf ac w' ⟨b0, b1, b2, b3, b4, b5, b6, b7, b8, rfl, _⟩
          rfl
        case first => exact ⟨false, false, false, false, false, false, false, false, false, rfl, rfl, hide ((unhide L1).grown (unhide hZ) (grown_of (bdrew (Below.refl V1.heap.size V1) 1)) (fun r e => by cases e)), hide ((unhide O1).grown (grown_of (bdrew (Below.refl V1.heap.size V1) 1)) (fun r e => by cases e)), N1, (fun h => by cases h), (fun h => by cases h)⟩
        case step =>
          rintro ii lf ac w' ⟨b0, b1, b2, b3, b4, b5, b6, b7, b8, rfl, rfl, hL, hO, hN, h7, h8⟩ hr
          have hr := mem_ready.1 hr
          rcases ii with _ | _ | _ | _ | _ | _ | _ | _ | _ | ii
          · simp [Region.binds] at hr
            repeat (rcases hr with ⟨hq, hr⟩)
            subst_vars
            obtain rfl : b7 = false := by cases b7 <;> simp_all
            have kq := (unhide hL).bq.cell
            simp only [cond_false] at kq
            refine wpOpIn_step rfl (fun K hK => ?_)
            go_simp
            refine hK _ _ ⟨true, _, _, _, _, _, _, _, _, rfl, rfl, hL, hO, hN, (fun h => by cases h), h8⟩
          · simp [Region.binds] at hr
            repeat (rcases hr with ⟨hq, hr⟩)
            subst_vars
            refine wpOpIn_step rfl (fun K hK => ?_)
            go_simp
            refine hK _ _ ⟨_, true, _, _, _, _, _, _, _, rfl, rfl, hL, hO, hN, h7, h8⟩
          · simp [Region.binds] at hr
            repeat (rcases hr with ⟨hq, hr⟩)
            subst_vars
            obtain ⟨k0, k1, k2⟩ := cells3 (unhide hN)
            refine wpOpIn_step rfl (fun K hK => ?_)
            go_simp
            refine hK _ _ ⟨_, _, true, _, _, _, _, _, _, rfl, rfl, hL, hO, hN, h7, h8⟩
          · simp [Region.binds] at hr
            repeat (rcases hr with ⟨hq, hr⟩)
            subst_vars
            refine wpOpIn_step rfl (fun K hK => ?_)
            go_simp
            refine hK _ _ ⟨_, _, _, true, _, _, _, _, _, rfl, rfl, hL, hO, hN, h7, h8⟩
          · simp [Region.binds] at hr
            repeat (rcases hr with ⟨hq, hr⟩)
            subst_vars
            obtain rfl : b8 = false := by cases b8 <;> simp_all
            have ka := (unhide hL).ba.cell
            simp only [cond_false] at ka
            refine wpOpIn_step rfl (fun K hK => ?_)
            go_simp
            refine hK _ _ ⟨_, _, _, _, true, _, _, _, _, rfl, rfl, hL, hO, hN, h7, (fun h => by cases h)⟩
          · simp [Region.binds] at hr
            repeat (rcases hr with ⟨hq, hr⟩)
            subst_vars
            refine wpOpIn_step rfl (fun K hK => ?_)
            go_simp
            refine hK _ _ ⟨_, _, _, _, _, true, _, _, _, rfl, rfl, hL, hO, hN, h7, h8⟩
          · simp [Region.binds] at hr
            repeat (rcases hr with ⟨hq, hr⟩)
            subst_vars
            refine wpOpIn_step rfl (fun K hK => ?_)
            go_simp
            refine hK _ _ ⟨_, _, _, _, _, _, true, _, _, rfl, rfl, hL, hO, hN, h7, h8⟩
          · simp [Region.binds] at hr
            repeat (rcases hr with ⟨hq, hr⟩)
            subst_vars
            have kq := (unhide hL).bq.cell
            have kf := (unhide hL).bq.frozen
            have L2 := hide ((unhide hL).setQ (unhide hZ) ((l : Int) + (es : Int)))
            have O2 := hide ((unhide hO).setC (x := w1.heap.size) (v := .int .i64 ((l : Int) + (es : Int))) (by omega))
            have N2 := hide (blk_setC (x := w1.heap.size) (v := .int .i64 ((l : Int) + (es : Int))) (unhide hN) (by have := unhide HSZ; omega))
            refine wpOpIn_step rfl (fun K hK => ?_)
            go_simp
            refine hK _ _ ⟨_, _, _, _, _, _, _, true, _, rfl, rfl, L2, O2, N2, (fun _ => rfl), (fun h => by cases (h8 h).2)⟩
          · simp [Region.binds] at hr
            repeat (rcases hr with ⟨hq, hr⟩)
            subst_vars
            have ka := (unhide hL).ba.cell
            have kf := (unhide hL).ba.frozen
            have L2 := hide ((unhide hL).setA (unhide hZ) ((j : Int) - (s.size : Int)))
            have O2 := hide ((unhide hO).setC (x := w.heap.size + 1) (v := .int .i64 ((j : Int) - (s.size : Int))) (by omega))
            have N2 := hide (blk_setC (x := w.heap.size + 1) (v := .int .i64 ((j : Int) - (s.size : Int))) (unhide hN) (by have := unhide HSZ; have := unhide hZ; omega))
            refine wpOpIn_step rfl (fun K hK => ?_)
            go_simp
            refine hK _ _ ⟨_, _, _, _, _, _, _, _, true, rfl, rfl, L2, O2, N2, h7, (fun _ => ⟨rfl, rfl⟩)⟩
          · simp at hr
        case last =>
          rintro ac W4 ⟨f0, f1, f2, f3, f4, f5, f6, f7, f8, hlf, rfl, hL, hO, hN, h7, h8⟩
          have hlf := congrArg Array.toList hlf
          simp at hlf
          repeat (rcases hlf with ⟨hq, hlf⟩)
          subst_vars
          simp only [cond_true] at hL
          gi_wp2
          have o5 := (unhide hO).grown (grownBy_putObj' W4 (w1.heap.size + 3) (.loop (rc .ready none))) (fun r e => by injection e with e; omega)
          exact ⟨(unhide hL).bl, o5.kt (unhide HS) (unhide hZ) (unhide HSZ), .inl ⟨rfl, (unhide hL).rcd (unhide hZ) _⟩⟩
  case done =>
    rintro e V ⟨he, h⟩
    refine ⟨he, ?_⟩
    rcases h with ⟨h, hl⟩ | h
    · refine .inl ⟨h.bl, fun o => ?_⟩
      have h2 : Li w.heap.size w1.heap.size w (V.putObj (w1.heap.size + 2 + 1) o) o ((k : Int) - (C.size : Int)) (ends C : Int) := h.rcd hgq o
      generalize V.putObj (w1.heap.size + 2 + 1) o = V1 at *
      have qq := h2.bq.cell
      have qr : V1.cell? ⟨w.heap.size + 1 + 1, 0, none⟩ = some (.int .i64 0) := h2.br.cell
      have qrf : V1.frozen? ⟨w.heap.size + 1 + 1, 0, none⟩ = false := h2.br.frozen
      have hkk : k = C.size := by omega
      have hv : Hid (ends (C.extract 0 k) = ends C) := hide (by rw [hkk]; exact line_all)
      have HZ := hide hgq
      have X2 : Hid (Lx w.heap.size w1.heap.size w (V1.setCell ⟨w.heap.size + 1 + 1, 0, none⟩ (.int .i64 (ends C : Int))) o (ends C : Int)) := hide (h2.told hgq (ends C : Int))
      clear h h2 hl hgq z1 z2 hS bA2 bR2 bQ bP hB2 hBw hIn HS hkk
      gi_wp2
      obtain ⟨y1, y2, y3⟩ := (unhide X2).fin (unhide HZ)
      refine ⟨by simp, .inl ⟨_, _, rfl, run_takeDeferred y1, ?_⟩⟩
      refine ⟨.int .i64 (ends C : Int), ?_, by rw [unhide hv], y3⟩
      simp [results, Tryd.results18, go_sem, y2]
    · refine .inr ⟨_, h.bl, fun o => ?_⟩
      have h2 : Lx w.heap.size w1.heap.size w (V.putObj (w1.heap.size + 2 + 1) o) o (ends (C.extract 0 k) : Int) := h.rcd hgq o
      generalize V.putObj (w1.heap.size + 2 + 1) o = V1 at *
      have HZ := hide hgq
      have X2 := hide h2
      clear h h2 hgq z1 z2 hS bA2 bR2 bQ bP hB2 hBw hIn HS
      gi_wp2
      obtain ⟨y1, y2, y3⟩ := (unhide X2).fin (unhide HZ)
      refine ⟨by simp, .inl ⟨_, _, rfl, run_takeDeferred y1, ?_⟩⟩
      refine ⟨.int .i64 (ends (C.extract 0 k) : Int), ?_, rfl, y3⟩
      simp [results, Tryd.results18, go_sem, y2]
end Go.Proofs.YtaipnmmlfbfcnaaDoor.Rop
