/- Spans that are drawn, some of them not right. -/
import Derived.Test.YtfcabmpklcmbgaaTdS
namespace Go.Proofs.Ytfcabmpklcmbgaa.Dr
open Go.RowKit
set_option linter.unusedVariables false
/-- The values of spans are small. -/
def Vb (L : List Sp) : Prop := ∀ r ∈ L, -1000000000000 ≤ r.2.2 ∧ r.2.2 ≤ 1000000000000
theorem Vb.of {L : List Sp} (h : Bd L) : Vb L := fun r hr => (h r hr).2.2
theorem Vb.snoc {L : List Sp} (h : Vb L) {r : Sp} (hr : -1000000000000 ≤ r.2.2 ∧ r.2.2 ≤ 1000000000000) : Vb (L ++ [r]) := fun q hq => by
  rcases List.mem_append.1 hq with e | e
  · exact h q e
  · rw [List.mem_singleton.1 e]; exact hr
theorem Vb.put {L : List Sp} (h : Vb L) {k : Nat} {r : Sp} (hr : -1000000000000 ≤ r.2.2 ∧ r.2.2 ≤ 1000000000000) : Vb (L.set k r) := fun q hq => by
  rcases List.mem_or_eq_of_mem_set hq with e | e
  · exact h q e
  · rw [e]; exact hr
theorem Vb.at {L : List Sp} (h : Vb L) {k : Nat} (hk : k < L.length) : -1000000000000 ≤ (gx L k).2.2 ∧ (gx L k).2.2 ≤ 1000000000000 := by
  have : gx L k ∈ L := by
    unfold gx
    rw [List.getD_eq_getElem?_getD, List.getElem?_eq_getElem hk]
    exact List.getElem_mem hk
  exact h _ this
theorem cells_put0 : ∀ (L : List Sp) (k : Nat) (x : Int), k < L.length → (cells L).set (k * 3) (.int .i64 x) = cells (L.set k (x, (gx L k).2.1, (gx L k).2.2))
  | [], k, x, h => by simp at h
  | a :: t, 0, x, _ => rfl
  | a :: t, k + 1, x, h => by
    have e := cells_put0 t k x (by simpa using h)
    rw [show (k + 1) * 3 = k * 3 + 1 + 1 + 1 by omega, List.set_cons_succ, cells_cons, cells_cons]
    show _ :: _ :: _ :: (cells t).set (k * 3) _ = _
    rw [e]
    rfl
theorem cells_put1 : ∀ (L : List Sp) (k : Nat) (x : Int), k < L.length → (cells L).set (k * 3 + 1) (.int .i64 x) = cells (L.set k ((gx L k).1, x, (gx L k).2.2))
  | [], k, x, h => by simp at h
  | a :: t, 0, x, _ => rfl
  | a :: t, k + 1, x, h => by
    have e := cells_put1 t k x (by simpa using h)
    rw [show (k + 1) * 3 + 1 = k * 3 + 1 + 1 + 1 + 1 by omega, List.set_cons_succ, cells_cons, cells_cons]
    show _ :: _ :: _ :: (cells t).set (k * 3 + 1) _ = _
    rw [e]
    rfl
theorem St.put {w wr : World} {src : Nat} {a : Option Addr} {len cap : Nat} {size : Int} {g c : Nat} {L : List Sp} (h : St w wr src a len cap size (.slice (some ⟨g, 0, none⟩) L.length c) L) (hsrc : src < w.heap.size) (j : Nat) (u : Value) (L' : List Sp) (hl : L'.length = L.length) (hc : (cells L).set j u = cells L') :
    St w (wr.setCell ⟨g, j, none⟩ u) src a len cap size (.slice (some ⟨g, 0, none⟩) L.length c) L' := by
  have hgw := (h.o.lt g rfl).1
  obtain ⟨h1, h2⟩ := World.ownsRow.stored h.o j u
  rw [hc] at h1
  have hG : w.grownBy (wr.setCell ⟨g, j, none⟩ u) (some src) := ⟨h2.os.trans h.g.os, h2.tape.trans h.g.tape, h2.output.trans h.g.output, Nat.le_trans h.g.size h2.size, fun k hkw hr => (h2.block k (Nat.lt_of_lt_of_le hkw h.g.size) (fun e => by injection e with e; omega)).trans (h.g.block k hkw hr)⟩
  refine ⟨h.c, ?_, hG, ?_⟩
  · obtain ⟨_, p, mix, hp, hwf, hh⟩ := h.s
    exact ⟨code_grown h.c hG, p, mix, hp, hwf, (h2.block src (Nat.lt_of_lt_of_le hsrc h.g.size) (fun e => by injection e with e; omega)).trans hh⟩
  · unfold SpRow
    rw [hl]
    exact h1
def lenV : Value → Nat
  | .slice _ n _ => n
  | _ => 0
set_option maxHeartbeats 8000000 in
set_option maxRecDepth 100000 in
theorem anySpans_any (w : World) (src : Nat) (a : Option Addr) (len cap : Nat) (size : Int) (hl : len ≤ 1048576) (hz0 : 0 ≤ size) (hz1 : size ≤ 12) (h : SrcAt w src a len cap size) :
    Calls Try.prog 18 #[.pointer (some ⟨src, 0, none⟩)] w fun e w' => ∃ (v : Value) (L : List Sp), e = .returned v ∧ L.length ≤ 1001 ∧ Vb L ∧ St w w' src a len cap size v L := by
  obtain ⟨i0, hi, hy0, hy1, hy2⟩ := info_parts infoSp
  have hsrc := src_lt h
  have CS := hide (spans_any w src a len cap size hl hz0 hz1 h)
  have NN := hide (fun (most : Int) W (h1 : 0 < most) (h2 : most ≤ 1000000) (q : SrcAt W src a len cap size) => n_nat W src a len cap size most h1 h2 hl q)
  have ON := hide (fun W (q : SrcAt W src a len cap size) => one_any W src a len cap size 5 (by omega) (by omega) hl q)
  clear h
  go_enter Try.func18, Try.ntmps18
  go_wp2_with fail
  refine (unhide CS).mono ?_
  rintro e w1 ⟨v, L, rfl, hL, hB, hS⟩
  have HB := hide (Vb.of hB)
  have HS := hide hS
  obtain ⟨va, vc, rfl, hg⟩ := hS.o.form
  clear CS hB hS
  by_cases h0 : L.length = 0
  · have hU : undef = Value.tuple #[] := rfl
    have H0 := hide h0
    have h0' : ¬ (0 : Int) < (L.length : Int) := by omega
    clear h0
    go_wp2
    go_ret
    exact ⟨_, L, rfl, by omega, unhide HB, unhide HS⟩
  · obtain ⟨g, rfl, hgw, hgl⟩ := hg (by omega)
    have h0' : (0 : Int) < (L.length : Int) := by omega
    go_wp2_with fail
    refine ((unhide ON) _ (unhide HS).s).mono ?_
    rintro e w2 ⟨b, rfl, hs1, hg1⟩
    have HS := hide ((unhide HS).n hsrc hs1 hg1)
    clear hs1 hg1
    cases b with
    | false =>
      go_wp2
      go_ret
      exact ⟨_, L, rfl, by omega, unhide HB, unhide HS⟩
    | true =>
      go_wp2_with fail
      refine ((unhide NN) _ _ (by omega) (by omega) (unhide HS).s).mono ?_
      rintro e w3 ⟨k, rfl, hk, hs1, hg1⟩
      have HS := hide ((unhide HS).n hsrc hs1 hg1)
      clear hs1 hg1
      go_wp2_with fail
      refine ((unhide NN) _ _ (by omega) (by omega) (unhide HS).s).mono ?_
      rintro e w4 ⟨r, rfl, hr, hs1, hg1⟩
      have HS := hide ((unhide HS).n hsrc hs1 hg1)
      clear hs1 hg1
      have hk2 : k < L.length := by omega
      obtain ⟨c0, c1, c2⟩ := (unhide HS).o.read k hk2
      have f0 := World.ownsRow.frozenAt (unhide HS).o (k * 3)
      have f1 := World.ownsRow.frozenAt (unhide HS).o (k * 3 + 1)
      have HV := hide ((unhide HB).at hk2)
      have hr5 : r = 0 ∨ r = 1 ∨ r = 2 ∨ r = 3 ∨ r = 4 := by omega
      rcases hr5 with rfl | rfl | rfl | rfl | rfl
      · have S5 := hide ((unhide HS).put hsrc (k * 3) (.int .i64 (-1)) _ (by simp) (cells_put0 L k (-1) hk2))
        have B5 := hide ((unhide HB).put (k := k) (r := (-1, (gx L k).2.1, (gx L k).2.2)) (unhide HV))
        go_wp2
        go_ret
        exact ⟨_, _, rfl, by simp; omega, unhide B5, unhide S5⟩
      · have S5 := hide ((unhide HS).put hsrc (k * 3 + 1) (.int .i64 32768) _ (by simp) (cells_put1 L k 32768 hk2))
        have B5 := hide ((unhide HB).put (k := k) (r := ((gx L k).1, 32768, (gx L k).2.2)) (unhide HV))
        go_wp2
        go_ret
        exact ⟨_, _, rfl, by simp; omega, unhide B5, unhide S5⟩
      · obtain ⟨z, hz⟩ : ∃ z, wrap64 ((gx L k).2.1 + 1) = z := ⟨_, rfl⟩
        have S5 := hide ((unhide HS).put hsrc (k * 3) (.int .i64 z) _ (by simp) (cells_put0 L k z hk2))
        have B5 := hide ((unhide HB).put (k := k) (r := (z, (gx L k).2.1, (gx L k).2.2)) (unhide HV))
        go_wp2
        go_ret
        exact ⟨_, _, rfl, by simp; omega, unhide B5, unhide S5⟩
      · generalize hgx : gx L k = q at *
        obtain ⟨q0, q1, q2⟩ := q
        clear hgx
        have B5 := hide ((unhide HB).snoc (r := (q0, q1, q2)) (unhide HV))
        go_wp2_with (at_builtin; refine wpList_append_own _ rfl _ _ 23 rfl w.heap.size 38 i0 (.agg #[.int .i64 0, .int .i64 0, .int .i64 0]) 3 24 Try.underlying23 hi hy0 hy1 hy2 rfl (by decide) _ _ _ rfl (World.ownsRow.alloc (unhide HS).o _) ⟨w4.heap.size, 0, none⟩ 1 1 [.int .i64 q0, .int .i64 q1, .int .i64 q2] rfl rfl ?c1 ?c2 ?c3 ?c4 ?c5 ?_)
        case c1 => exact three_new _ _ _ _ _
        case c2 => exact three_one _ _ _
        case c3 => unfold maxLen; omega
        case c4 => first | omega | (simp; omega)
        case c5 => simp; have := (unhide HS).g.size; omega
        intro v' w13 hown' hgrow _
        have HS2 := hide ((unhide HS).app hsrc hown' hgrow)
        clear hown' hgrow
        go_wp2
        go_ret
        exact ⟨_, _, rfl, by simp; omega, unhide B5, unhide HS2⟩
      · clear c0 c1 c2 f0 f1 HV
        go_wp2
        go_loopw [3] (fun sv wr => ∃ M : List Sp, M.length ≤ 1001 ∧ lenV sv = M.length ∧ Hid (Vb M) ∧ Hid (St w wr src a len cap size sv M)) (fun sv _ => 1001 - lenV sv)
        case atStart => exact ⟨L, by omega, rfl, HB, HS⟩
        case round =>
          obtain ⟨M, hM, hlm, HB2, HS2⟩ := hrel
          obtain ⟨ma, mc, hmv, _⟩ := (unhide HS2).o.form
          subst hmv
          clear hlm
          by_cases hm : M.length < 1001
          · have hm' : (M.length : Int) < 1001 := by omega
            have B5 := hide ((unhide HB2).snoc (r := (30000 + (M.length : Int), 30000 + (M.length : Int), 0)) (by constructor <;> simp))
            have ST2 := hide (fun w3 v' ho hg => (unhide HS2).app (w3 := w3) (v' := v') (x := 30000 + (M.length : Int)) (y := 30000 + (M.length : Int)) (z := 0) (o := .cells #[.int .i64 (30000 + (M.length : Int)), .int .i64 (30000 + (M.length : Int)), .int .i64 0] 38) hsrc ho hg)
            have hg6 := (unhide HS2).g.size
            have HO := hide (unhide HS2).o
            have HN : Hid ((M ++ [(30000 + (M.length : Int), 30000 + (M.length : Int), (0 : Int))]).length = M.length + 1) := hide (by simp)
            obtain ⟨n, hn⟩ : ∃ n, M.length = n := ⟨_, rfl⟩
            rw [hn] at hm hm' B5 ST2 HN ⊢
            unfold SpRow at HO
            rw [hn] at HO
            clear hn
            go_wp2_with (at_builtin; refine wpList_append_own _ rfl _ _ 23 rfl w.heap.size 38 i0 (.agg #[.int .i64 0, .int .i64 0, .int .i64 0]) 3 24 Try.underlying23 hi hy0 hy1 hy2 rfl (by decide) _ _ _ rfl (World.ownsRow.alloc (unhide HO) _) ⟨wr.heap.size, 0, none⟩ 1 1 [.int .i64 (30000 + (n : Int)), .int .i64 (30000 + (n : Int)), .int .i64 0] rfl rfl ?d1 ?d2 ?d3 ?d4 ?d5 ?_)
            case d1 => exact three_new _ _ _ _ _
            case d2 => exact three_one _ _ _
            case d3 => unfold maxLen; omega
            case d4 => first | omega | (simp; omega)
            case d5 => simp; omega
            intro v' w13 hown' hgrow _
            have HS3 := hide ((unhide ST2) w13 v' hown' hgrow)
            clear hown' hgrow
            obtain ⟨na, nc, hnv, _⟩ := (unhide HS3).o.form
            rw [unhide HN] at hnv
            subst hnv
            go_wp2
            go_roundw
            case rel => exact ⟨_, by rw [unhide HN]; omega, by rw [unhide HN]; rfl, B5, HS3⟩
            case measure => simp [lenV]; omega
          · have hm' : ¬ (M.length : Int) < 1001 := by omega
            go_wp2
            go_ret
            exact ⟨_, rfl, M, by omega, unhide HB2, unhide HS2⟩
end Go.Proofs.Ytfcabmpklcmbgaa.Dr
