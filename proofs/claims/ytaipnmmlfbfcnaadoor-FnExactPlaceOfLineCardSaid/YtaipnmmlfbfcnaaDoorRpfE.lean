/- Two nodes held against each other as wholes; slices.Equal of nodes. -/
import Derived.Test.YtaipnmmlfbfcnaaDoorRpfM
import Derived.Test.YtaipnmmlfbfcnaaDoorRpfJ
import Derived.Test.YtaipnmmlfbfcnaaDoorRopO
import Derived.Laws.StructEq
namespace Go.Proofs.YtaipnmmlfbfcnaaDoor.Rop
open Go.RowKit Rwc
set_option linter.unusedVariables false
theorem node_under : Tryd.prog.underlying 45 = some (.struct (Tryd.prog.fieldsOf 45)) := by kernel_rfl
theorem node_held : Tryd.prog.stoodInHeld 45 = false := by kernel_rfl
theorem node_guard : Tryd.prog.eqGuardType Tryd.prog.depth 45 = false := by kernel_rfl
theorem node_fields : (Tryd.prog.fieldsOf 45).toList.map (fun f => (f.name, f.type, f.offset)) = [("Text", 9, 0), ("Left", 2, 1), ("Right", 2, 2), ("Size", 2, 3), ("Lines", 2, 4)] := by kernel_rfl
theorem part_9 (xs : Array Value) (o : Nat) (v : Value) (W : World) (h : xs[o]? = some v) : (part 9 xs o).run Tryd.prog W = .ok v W := by
  simp [part, Tryd.isAgg9, h, Result.andThen]
theorem part_2 (xs : Array Value) (o : Nat) (v : Value) (W : World) (h : xs[o]? = some v) : (part 2 xs o).run Tryd.prog W = .ok v W := by
  simp [part, Tryd.isAgg2, h, Result.andThen]
theorem eq_step (d : Nat) (xs ys : Array Value) (f : Field) (fs : List Field) (a b : Value) (r : Bool) (W : World) (hn : f.name ≠ "_") (ha : (part f.type xs f.offset).run Tryd.prog W = .ok a W) (hb : (part f.type ys f.offset).run Tryd.prog W = .ok b W)
    (hr : (Op.equalIn d f.type a b).run Tryd.prog W = .ok r W) : (Op.eqFields d xs ys (f :: fs)).run Tryd.prog W = if r then (Op.eqFields d xs ys fs).run Tryd.prog W else .ok false W := by
  cases r <;> simp [Op.eqFields, hn, Sem.run_bind, ha, hb, hr, Result.andThen, Sem.run_pure]
theorem node_neq (x y : Nd) (W : World) : (binOp .neq 45 (nd_v x) (nd_v y)).run Tryd.prog W = .ok (.bool (neB x y)) W := by
  unfold nd_v
  rw [run_neq_struct, run_equalIn_agg W 9999 45 _ _ node_under node_held]
  have h := node_fields
  generalize (Tryd.prog.fieldsOf 45).toList = F at h
  have hl : F.length = 5 := by have := congrArg List.length h; simpa using this
  match F, hl, h with
  | [f0, f1, f2, f3, f4], _, h =>
    simp only [List.map_cons, List.map_nil, List.cons.injEq, Prod.mk.injEq, and_true] at h
    obtain ⟨⟨n0, t0, o0⟩, ⟨n1, t1, o1⟩, ⟨n2, t2, o2⟩, ⟨n3, t3, o3⟩, ⟨n4, t4, o4⟩⟩ := h
    rw [eq_step 9999 _ _ f0 _ (.string x.text) (.string y.text) (x.text.toList == y.text.toList) W (by rw [n0]; decide) (by rw [t0, o0]; exact part_9 _ _ _ _ rfl) (by rw [t0, o0]; exact part_9 _ _ _ _ rfl) (by rw [t0]; exact run_equalIn_string W 9998 9 _ _ Tryd.underlying9)]
    rw [eq_step 9999 _ _ f1 _ (.int .i64 x.left) (.int .i64 y.left) (x.left == y.left) W (by rw [n1]; decide) (by rw [t1, o1]; exact part_2 _ _ _ _ rfl) (by rw [t1, o1]; exact part_2 _ _ _ _ rfl) (by rw [t1]; exact run_equalIn_int W 9998 2 _ _ _ _ Tryd.underlying2)]
    rw [eq_step 9999 _ _ f2 _ (.int .i64 x.right) (.int .i64 y.right) (x.right == y.right) W (by rw [n2]; decide) (by rw [t2, o2]; exact part_2 _ _ _ _ rfl) (by rw [t2, o2]; exact part_2 _ _ _ _ rfl) (by rw [t2]; exact run_equalIn_int W 9998 2 _ _ _ _ Tryd.underlying2)]
    rw [eq_step 9999 _ _ f3 _ (.int .i64 x.size) (.int .i64 y.size) (x.size == y.size) W (by rw [n3]; decide) (by rw [t3, o3]; exact part_2 _ _ _ _ rfl) (by rw [t3, o3]; exact part_2 _ _ _ _ rfl) (by rw [t3]; exact run_equalIn_int W 9998 2 _ _ _ _ Tryd.underlying2)]
    rw [eq_step 9999 _ _ f4 _ (.int .i64 x.lines) (.int .i64 y.lines) (x.lines == y.lines) W (by rw [n4]; decide) (by rw [t4, o4]; exact part_2 _ _ _ _ rfl) (by rw [t4, o4]; exact part_2 _ _ _ _ rfl) (by rw [t4]; exact run_equalIn_int W 9998 2 _ _ _ _ Tryd.underlying2)]
    unfold neB
    generalize (x.text.toList == y.text.toList) = b0
    generalize (x.left == y.left) = b1
    generalize (x.right == y.right) = b2
    generalize (x.size == y.size) = b3
    generalize (x.lines == y.lines) = b4
    cases b0 <;> cases b1 <;> cases b2 <;> cases b3 <;> cases b4 <;> simp [Op.eqFields, Result.andThen, Sem.run_pure]
theorem ny_cells5 {B : Nat} {w : World} {g cap : Nat} {L : List Nd} (h : Ny B w (.slice (some ⟨g, 0, none⟩) L.length cap) L) (k : Nat) (hk : k < L.length) : nd_C w g (0 + k * 5) (nd_g L k) := by
  have e : ∀ j, j < 5 → w.cell? ⟨g, k * 5 + j, none⟩ = (cl5 (nd_g L k))[j]? := fun j hj => by
    have := World.ownsRow.cellAt h (k * 5 + j) (by omega)
    rw [this]
    clear this h
    induction L generalizing k with
    | nil => simp at hk
    | cons x L ih =>
      cases k with
      | zero =>
        show (cl5 x ++ flat L)[0 * 5 + j]? = (cl5 x)[j]?
        rw [Nat.zero_mul, Nat.zero_add, List.getElem?_append_left (by show j < 5; exact hj)]
      | succ k =>
        show (cl5 x ++ flat L)[(k + 1) * 5 + j]? = _
        rw [List.getElem?_append_right (by show 5 ≤ (k + 1) * 5 + j; omega)]
        have := ih k (by simpa using hk)
        rw [show (k + 1) * 5 + j - (cl5 x).length = k * 5 + j by show (k + 1) * 5 + j - 5 = _; omega, this]
        rfl
  rw [Nat.zero_add]
  exact ⟨e 0 (by omega), e 1 (by omega), e 2 (by omega), e 3 (by omega), e 4 (by omega)⟩
theorem ny_at {B : Nat} {w : World} {v : Value} {L : List Nd} (h : Ny B w v L) : nd_At B w v L := by
  rcases h.2 with ⟨rfl, h0⟩ | ⟨g, cap, cur, rfl, hB, hg, _⟩
  · obtain rfl := List.length_eq_zero_iff.1 h0
    exact ⟨none, 0, rfl, .inl rfl⟩
  · exact ⟨_, cap, rfl, .inr ⟨g, 0, rfl, hB, (Array.getElem?_eq_some_iff.1 hg).1, fun i hi => ny_cells5 h i hi⟩⟩
set_option maxRecDepth 100000 in
set_option maxHeartbeats 4000000 in
theorem equalI (v1 v2 : Value) (N L : List Nd) (B1 B2 : Nat) (w : World) (h1 : nd_At B1 w v1 N) (h2 : nd_At B2 w v2 L) (hN : N.length ≤ 1048576) (hL : L.length ≤ 1048576) :
    Calls Tryd.prog 46 #[v1, v2] w fun e w' => e = .returned (.bool (N.length == L.length && sameR L N 0)) ∧ Below w.heap.size w w' := by
  have H1 := hide h1
  have H2 := hide h2
  obtain ⟨a1, c1, rfl⟩ := nd_form h1
  obtain ⟨a2, c2, rfl⟩ := nd_form h2
  clear h1 h2
  by_cases hne : N.length = L.length
  · have hb : ((N.length : Int) != (L.length : Int)) = false := by rw [hne]; simp
    have hb2 : (N.length == L.length) = true := by simpa using hne
    rw [hb2, Bool.true_and]
    have HR0 : Hid (sameR L N 0 = sameR L N 0) := hide rfl
    generalize hR : sameR L N 0 = R at HR0 ⊢
    have HRR := hide hR
    clear hR HR0 hb2
    have HNE := hide hne
    clear hne
    go_enter Tryd.func46, Tryd.ntmps46
    go_wp2
    go_loopw [5, 13] (fun v5 iv wr => ∃ i : Nat, i ≤ N.length ∧ iv = .int .i64 (i : Int) ∧ Hid (sameR L N i = R) ∧ Hid (Below w.heap.size w wr)) (fun _ iv _ => (N.length - intOf iv).toNat)
    case atStart => exact ⟨0, by omega, rfl, HRR, hide (Below.refl _ _)⟩
    case round =>
      obtain ⟨i, hi2, rfl, HR, HB⟩ := hrel
      by_cases hlt : i < N.length
      · have hlt2 : i < L.length := by have := unhide HNE; omega
        obtain ⟨b, off, cp, he, hbw, hcs⟩ := nd_rd (unhide H1) (unhide HB) hlt
        injection he with he1 _ he2
        subst he1 he2
        obtain ⟨b', off', cp', he', hbw', hcs'⟩ := nd_rd (unhide H2) (unhide HB) hlt2
        injection he' with he1 _ he2
        subst he1 he2
        have hlt' : (i : Int) < (N.length : Int) := by omega
        have hlt'' : (i : Int) < (L.length : Int) := by omega
        have h0i : (0 : Int) ≤ (i : Int) := by omega
        obtain ⟨d0, d1, d2, d3, d4⟩ := hcs i hlt
        obtain ⟨e0, e1, e2, e3, e4⟩ := hcs' i hlt2
        have hng := node_guard
        have HQ := hide (fun W => node_neq (nd_g N i) (nd_g L i) W)
        have HY := hide (sameR_yes L N i hlt2)
        have HX := hide (sameR_no L N i hlt2)
        clear hcs hcs'
        generalize nd_g N i = x at *
        generalize nd_g L i = y at *
        unfold nd_v at HQ
        cases hq : neB x y
        · have HR2 : Hid (sameR L N (i + 1) = R) := hide (by rw [← unhide HR, (unhide HY) hq])
          have hnq := fun W => (unhide HQ) W
          rw [hq] at hnq
          clear hq HY HX HQ
          obtain ⟨xa, xb, xc, xd, xe⟩ := x
          obtain ⟨ya, yb, yc, yd, ye⟩ := y
          simp only at d0 d1 d2 d3 d4 e0 e1 e2 e3 e4 hnq
          go_wp2_with fail
          go_quiet (fail)
          go_wp2
          go_roundw
          case rel => exact ⟨i + 1, by omega, by go_num, HR2, hide (bdrew (unhide HB) _)⟩
          case measure => simp [intOf]; omega
        · have HR2 : Hid (R = false) := hide (by rw [← unhide HR, (unhide HX) hq])
          have hnq := fun W => (unhide HQ) W
          rw [hq] at hnq
          clear hq HY HX HQ
          obtain ⟨xa, xb, xc, xd, xe⟩ := x
          obtain ⟨ya, yb, yc, yd, ye⟩ := y
          simp only at d0 d1 d2 d3 d4 e0 e1 e2 e3 e4 hnq
          go_wp2_with fail
          go_quiet (fail)
          go_wp2
          go_ret
          exact ⟨by rw [unhide HR2]; rfl, bdrew (unhide HB) _⟩
      · have HR2 : Hid (R = true) := hide (by rw [← unhide HR, sameR_end L N i (by have := unhide HNE; omega)])
        obtain rfl : i = N.length := by omega
        go_wp2
        go_ret
        exact ⟨by rw [unhide HR2]; rfl, unhide HB⟩
  · have hb : ((N.length : Int) != (L.length : Int)) = true := by simp; omega
    have hb2 : (N.length == L.length) = false := by simpa using hne
    rw [hb2, Bool.false_and]
    clear hne hb2
    go_enter Tryd.func46, Tryd.ntmps46
    go_wp2
    go_ret
    exact ⟨rfl, Below.refl _ _⟩
end Go.Proofs.YtaipnmmlfbfcnaaDoor.Rop
