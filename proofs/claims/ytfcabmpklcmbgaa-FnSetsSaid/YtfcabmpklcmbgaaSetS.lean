/- Sets joined, met, taken away: the specification. -/
import Derived.Test.YtfcabmpklcmbgaaVlsL
import Derived.Test.YtfcabmpklcmbgaaAppG
import Derived.Test.YtfcabmpklcmbgaaSpnF
namespace Go.Proofs.Ytfcabmpklcmbgaa
open Go.RowKit
theorem own_drewS {w : World} {B : Nat} {e : TypeId} {s : Nat} {v : Value} {n : Nat} {xs : List Value} (h : w.ownsRow B e s v n xs) (o : Obj) : (w.alloc o).drew.ownsRow B e s v n xs := World.ownsRow.alloc h o
theorem grown_dr {a b : World} {o : Obj} {r : Option Nat} (h : (a.alloc o).drew.grownBy b r) : (a.alloc o).grownBy b r := ⟨h.os, h.tape, h.output, h.size, h.block⟩
theorem three_new' (w : World) (x y z : Value) (t : TypeId) : ∀ j u, [x, y, z][j]? = some u → (w.alloc (.cells #[x, y, z] t)).drew.cell? ((⟨w.heap.size, 0, none⟩ : Addr).add j) = some u := three_new w x y z t
theorem ones_take (L : List Sp) (k : Nat) (h : k < L.length) : ones (L.take (k + 1)) = ones (L.take k) ++ [((gx L k).1, (gx L k).2.1, 1)] := by
  rw [List.take_succ_eq_append_getElem h]
  have : gx L k = L[k] := by simp [gx, List.getD, h]
  rw [this]
  unfold ones
  rw [List.map_append]
  rfl
set_option maxHeartbeats 4000000 in
set_option maxRecDepth 100000 in
theorem l04Ones_any (v : Value) (L : List Sp) (B : Nat) (w : World) (h : SpRow w B v L) (hl : L.length ≤ 1048576) :
    Calls Try.prog 32 #[v] w fun e w' => ∃ sv, e = .returned sv ∧ SpRow w' w.heap.size sv (ones L) ∧ Below w.heap.size w w' := by
  obtain ⟨i0, hi, hz0, hz1, hz2⟩ := info_parts infoSp
  obtain ⟨a, c, rfl, hg⟩ := h.form
  have H := hide h
  have G := hide hg
  clear h hg
  have O0 : Hid (SpRow (w.alloc (.cells #[] 38)) w.heap.size (.slice (some ⟨w.heap.size, 0, none⟩) 0 0) (ones (L.take 0))) := hide (World.ownsRow_lit w #[] 0 (Nat.le_refl _) (by unfold maxLen; omega) rfl)
  have B0 : Hid (Below w.heap.size w (w.alloc (.cells #[] 38))) := hide ((Below.refl _ _).alloc (Nat.le_refl _) _)
  go_enter Try.func32, Try.ntmps32
  go_wp2
  go_loopw [3, 4] (fun sv iv wr => ∃ k : Nat, k ≤ L.length ∧ iv = .int .i64 k ∧ Hid (SpRow wr w.heap.size sv (ones (L.take k))) ∧ Hid (Below w.heap.size w wr)) (fun _ i _ => L.length - (intOf i).toNat)
  case atStart => exact ⟨0, Nat.zero_le _, rfl, O0, B0⟩
  case round =>
    obtain ⟨k, hk, rfl, HO, HB⟩ := hrel
    clear O0 B0
    by_cases hlt : k < L.length
    · obtain ⟨g1, rfl, _, _⟩ := (unhide G) (by omega)
      obtain ⟨x0, x1, x2⟩ := ((unhide H).below (unhide HB)).read k hlt
      have hlt' : (k : Int) < (L.length : Int) := by omega
      have HT := hide (ones_take L k hlt)
      have hBs := (unhide HB).size
      have hol : (ones (L.take k)).length = k := by rw [ones_len]; simp; omega
      obtain ⟨⟨x, y, z⟩, hr⟩ : ∃ r, gx L k = r := ⟨_, rfl⟩
      rw [hr] at x0 x1 x2 HT
      simp only at x0 x1 x2 HT
      clear hr x2
      generalize ones (L.take k) = M at *
      have HL := hide hol
      have hMl : M.length ≤ 1048576 := by omega
      clear hol
      obtain ⟨sa, sc, hsv, _⟩ := (unhide HO).form
      subst hsv
      go_upto_region 5 with fail
      go_region_law (refine step_append_own rfl (.tmp 12) (.tmp 24) 23 rfl w.heap.size 38 i0 (.agg #[.int .i64 0, .int .i64 0, .int .i64 0]) 3 24 Try.underlying23 hi hz0 hz1 hz2 rfl (by decide) (.slice sa M.length sc) M.length (cells M) (by simp [Act.eval]) (own_drewS (unhide HO) _) ⟨wr.heap.size, 0, none⟩ 1 1 [.int .i64 x, .int .i64 y, .int .i64 1] (by simp [Act.eval]) rfl (three_new' _ _ _ _ _) (three_one _ _ _) (by unfold maxLen; omega) (by omega) (by simp; omega) ?_; intro v' w3 hown' hgrow; have R := hide (sp_step (unhide HB) (unhide HO) hown' (grown_dr hgrow)); clear hown' hgrow)
      all_goals
        go_wp2
        go_roundw
        case rel => exact ⟨k + 1, by omega, by go_num, hide (by rw [unhide HT]; exact (unhide R).1), hide (unhide R).2⟩
        case measure => simp [intOf]; omega
    · obtain rfl : k = L.length := by omega
      go_wp2
      go_ret
      refine ⟨_, rfl, ?_, unhide HB⟩
      have := unhide HO
      rw [List.take_length] at this
      exact this
/-- 0: of one or both; 1: of both; else: of the first alone. -/
def comb (how : Nat) (a b : Bool) : Bool := if how = 0 then a || b else if how = 1 then a && b else a && !b
def fS (how : Nat) (A C : List Sp) (p : Int) : Bool := comb how (has A p) (has C p)
def SetOf (how : Nat) (A C M : List Sp) : Prop := (right A = true ∧ right C = true ∧ SetsR (fS how A C) M.reverse 32768) ∨ (¬ (right A = true ∧ right C = true) ∧ M = [])
theorem setOf_one {how : Nat} {A C M N : List Sp} (h : SetOf how A C M) (h' : SetOf how A C N) : M = N := by
  rcases h with ⟨a, b, h⟩ | ⟨n, h⟩
  · rcases h' with ⟨_, _, h'⟩ | ⟨n, _⟩
    · have := congrArg List.reverse (sets_one _ _ _ _ h h')
      simpa using this
    · exact absurd ⟨a, b⟩ n
  · rcases h' with ⟨a, b, _⟩ | ⟨_, h'⟩
    · exact absurd ⟨a, b⟩ n
    · rw [h, h']
/-- The row while it is made: up to p it is. -/
def mixing (how : Nat) (A C : List Sp) (p : Nat) : Nat → Int := fun q => if q < p then bI (fS how A C q) else bI (has A q)
theorem mixing_step (how : Nat) (A C : List Sp) (p : Nat) : tabF 32768 (upd (mixing how A C p) p (bI (fS how A C p))) = tabF 32768 (mixing how A C (p + 1)) := tabF_ext fun i _ => by
  unfold upd mixing
  by_cases e : i = p
  · subst e; rw [if_pos rfl, if_pos (by omega)]
  · rw [if_neg e]
    by_cases h : i < p
    · rw [if_pos h, if_pos (by omega)]
    · rw [if_neg h, if_neg (by omega)]
theorem mixing_at (how : Nat) (A C : List Sp) (p : Nat) : mixing how A C p p = bI (has A p) := if_neg (by omega)
theorem mixing_zero (how : Nat) (A C : List Sp) : tabF 32768 (fun q => pv (ones A) 0 q) = tabF 32768 (mixing how A C 0) := tabF_ext fun i _ => by
  rw [pv_ones]; exact (if_neg (by omega)).symm
theorem mixing_runs {how : Nat} {A C : List Sp} {M : List Sp} (h : RunsR (fnum (tabF 32768 (mixing how A C 32768))) M.reverse 32768) : RunsR (fun p => bI (fS how A C p)) M.reverse 32768 :=
  runs_ext h fun p h0 h1 => by
    unfold fnum nth
    rw [tabF_at _ _ _ (by omega)]
    unfold mixing
    rw [if_pos (by omega), show ((p.toNat : Nat) : Int) = p by omega]
theorem filter_rev (M : List Sp) : (M.filter fun r => r.2.2 == 1).reverse = M.reverse.filter fun r => r.2.2 == 1 := by rw [List.filter_reverse]
theorem ownsRow_at {w w' : World} {B : Nat} {e : TypeId} {s : Nat} {v : Value} {n : Nat} {xs : List Value} (h : w.ownsRow B e s v n xs) (hs : ∀ k, v.ownBlock = some k → w'.heap[k]? = w.heap[k]?) : w'.ownsRow B e s v n xs := by
  refine ⟨h.1, ?_⟩
  rcases h.2 with h' | ⟨g, cap, cur, hv, hg, hh, r⟩
  · exact .inl h'
  · exact .inr ⟨g, cap, cur, hv, hg, (hs g (by rw [hv]; rfl)).trans hh, r⟩
theorem take_filter (L : List Sp) (k : Nat) (h : k < L.length) : (L.take (k + 1)).filter (fun r => r.2.2 == 1) = (L.take k).filter (fun r => r.2.2 == 1) ++ (if (gx L k).2.2 == 1 then [gx L k] else []) := by
  rw [List.take_succ_eq_append_getElem h, List.filter_append]
  have : gx L k = L[k] := by simp [gx, List.getD, h]
  rw [this]
  congr 1
  cases hq : (L[k].2.2 == 1) <;> simp [hq]
theorem fault_right' {L : List Sp} (h : right L = true) : faultOf L = 0 := if_pos h
theorem fault_wrong' {L : List Sp} (h : right L = false) : faultOf L = 1 := by unfold faultOf; rw [if_neg (by rw [h]; exact Bool.false_ne_true)]
set_option maxHeartbeats 16000000 in
set_option maxRecDepth 100000 in
theorem l04Set_any (va vb : Value) (A C : List Sp) (how : Nat) (hhow : how = 0 ∨ how = 1 ∨ how = 2) (B1 B2 : Nat) (w : World) (h1 : SpRow w B1 va A) (h2 : SpRow w B2 vb C) (lA : A.length ≤ 1048576) (lC : C.length ≤ 1048576) :
    Calls Try.prog 23 #[va, vb, .int .i64 how] w fun e w' => ∃ (sv : Value) (M : List Sp), e = .returned sv ∧ SetOf how A C M ∧ M.length ≤ 32768 ∧ SpRow w' w.heap.size sv M ∧ Below w.heap.size w w' := by
  obtain ⟨i0, hi, hz0, hz1, hz2⟩ := info_parts infoSp
  have H1 := hide h1
  have H2 := hide h2
  clear h1 h2
  have O0 : Hid (SpRow (w.alloc (.cells #[] 38)) w.heap.size (.slice (some ⟨w.heap.size, 0, none⟩) 0 0) []) := hide (World.ownsRow_lit w #[] 0 (Nat.le_refl _) (by unfold maxLen; omega) rfl)
  have W0 : Hid (Below w.heap.size w (w.alloc (.cells #[] 38))) := hide ((Below.refl _ _).alloc (Nat.le_refl _) _)
  have s0 : (w.alloc (.cells #[] 38)).heap.size = w.heap.size + 1 := by simp
  have S0 := hide s0
  clear s0
  cases hA : right A
  · have hf := fault_wrong' hA
    have HN : Hid (SetOf how A C []) := hide (.inr ⟨by rw [hA]; simp, rfl⟩)
    go_enter Try.func23, Try.ntmps23
    go_upto_region 2 with fail
    generalize w.alloc (.cells #[] 38) = w0 at *
    go_wp2_with fail
    refine (specFault _ A _ _ ((unhide H1).below (unhide W0)) lA).mono ?_
    rintro e w1 ⟨rfl, hb⟩
    rw [hf]
    have O1 := hide ((unhide O0).below hb)
    have W1 := hide ((unhide W0).trans (hb.mono (unhide W0).size))
    clear hb O0 W0
    go_wp2
    go_ret
    exact ⟨_, [], rfl, unhide HN, by simp, unhide O1, unhide W1⟩
  · have hfA := fault_right' hA
    cases hC : right C
    · have hf := fault_wrong' hC
      have HN : Hid (SetOf how A C []) := hide (.inr ⟨by rw [hC]; simp, rfl⟩)
      go_enter Try.func23, Try.ntmps23
      go_upto_region 2 with fail
      generalize w.alloc (.cells #[] 38) = w0 at *
      go_wp2_with fail
      refine (specFault _ A _ _ ((unhide H1).below (unhide W0)) lA).mono ?_
      rintro e w1 ⟨rfl, hb⟩
      rw [hfA]
      have O1 := hide ((unhide O0).below hb)
      have W1 := hide ((unhide W0).trans (hb.mono (unhide W0).size))
      clear hb O0 W0
      go_wp2_with fail
      refine (specFault _ C _ _ ((unhide H2).below (unhide W1)) lC).mono ?_
      rintro e w2 ⟨rfl, hb⟩
      rw [hf]
      have O2 := hide ((unhide O1).below hb)
      have W2 := hide ((unhide W1).trans (hb.mono (unhide W1).size))
      clear hb O1 W1
      go_wp2
      go_ret
      exact ⟨_, [], rfl, unhide HN, by simp, unhide O2, unhide W2⟩
    · have hfC := fault_right' hC
      have HRA : Hid (right (ones A) = true) := hide (by rw [ones_right]; exact hA)
      have HRC : Hid (right (ones C) = true) := hide (by rw [ones_right]; exact hC)
      have HA := hide hA
      have HC := hide hC
      clear hA hC
      go_enter Try.func23, Try.ntmps23
      go_upto_region 2 with fail
      generalize w.alloc (.cells #[] 38) = w0 at *
      go_wp2_with fail
      refine (specFault _ A _ _ ((unhide H1).below (unhide W0)) lA).mono ?_
      rintro e w1 ⟨rfl, hb⟩
      rw [hfA]
      have O1 := hide ((unhide O0).below hb)
      have W1 := hide ((unhide W0).trans (hb.mono (unhide W0).size))
      have z1 := hb.size
      clear hb O0 W0
      go_wp2_with fail
      refine (specFault _ C _ _ ((unhide H2).below (unhide W1)) lC).mono ?_
      rintro e w2 ⟨rfl, hb⟩
      rw [hfC]
      have O2 := hide ((unhide O1).below hb)
      have W2 := hide ((unhide W1).trans (hb.mono (unhide W1).size))
      have z2 := hb.size
      clear hb O1 W1
      go_wp2_with fail
      refine (l04Ones_any _ A _ _ ((unhide H1).below (unhide W2)) lA).mono ?_
      rintro e w3 ⟨sv3, rfl, ho3, hb⟩
      have N3 := hide ho3
      have O3 := hide ((unhide O2).below hb)
      have W3 := hide ((unhide W2).trans (hb.mono (unhide W2).size))
      have z3 := hb.size
      clear hb ho3 O2 W2
      go_wp2_with fail
      refine (l04Values_any _ (ones A) 0 _ _ (unhide N3) (unhide HRA)).mono ?_
      rintro e w4 ⟨rfl, hv4, hb⟩
      have X4 : Hid (VRow w4 w3.heap.size (mixing how A C 0)) := hide (hv4.ext (mixing_zero how A C))
      have O4 := hide ((unhide O3).below hb)
      have W4 := hide ((unhide W3).trans (hb.mono (unhide W3).size))
      have z4 := ((unhide X4).lt w3.heap.size rfl).2
      clear hb hv4 O3 W3 N3
      go_wp2_with fail
      refine (l04Ones_any _ C _ _ ((unhide H2).below (unhide W4)) lC).mono ?_
      rintro e w5 ⟨sv5, rfl, ho5, hb⟩
      have N5 := hide ho5
      have X5 : Hid (VRow w5 w3.heap.size (mixing how A C 0)) := hide (ownsRow_below (unhide X4) hb)
      have O5 := hide ((unhide O4).below hb)
      have W5 := hide ((unhide W4).trans (hb.mono (unhide W4).size))
      have z5 := hb.size
      clear hb ho5 O4 W4 X4
      go_wp2_with fail
      refine (l04Values_any _ (ones C) 0 _ _ (unhide N5) (unhide HRC)).mono ?_
      rintro e w6 ⟨rfl, hv6, hb⟩
      have Y6 : Hid (VRow w6 w5.heap.size (fun q => bI (has C q))) := hide (hv6.ext (tabF_ext fun i _ => pv_ones C i))
      have X6 : Hid (VRow w6 w3.heap.size (mixing how A C 0)) := hide (ownsRow_below (unhide X5) hb)
      have O6 := hide ((unhide O5).below hb)
      have W6 := hide ((unhide W5).trans (hb.mono (unhide W5).size))
      clear hb hv6 O5 W5 X5 N5
      have zw : w.heap.size < w3.heap.size := by have := unhide S0; omega
      have zx : w3.heap.size < w5.heap.size := by omega
      generalize w3.heap.size = Bx at *
      generalize w5.heap.size = By at *
      clear z1 z2 z3 z4 z5
      go_wp2
      go_loopw [10] (fun pv wr => ∃ p : Nat, p ≤ 32768 ∧ pv = .int .i64 p ∧ Hid (VRow wr Bx (mixing how A C p)) ∧ Hid (VRow wr By (fun q => bI (has C q))) ∧ Hid (SpRow wr w.heap.size (.slice (some ⟨w.heap.size, 0, none⟩) 0 0) []) ∧ Hid (Below w.heap.size w wr)) (fun p _ => 32768 - (intOf p).toNat)
      case atStart => exact ⟨0, Nat.zero_le _, rfl, X6, Y6, O6, W6⟩
      case round =>
        obtain ⟨p, hp, rfl, X, Y, O, W⟩ := hrel
        clear X6 Y6 O6 W6
        by_cases hlt : p < 32768
        · have hlt' : (p : Int) < 32768 := by omega
          obtain ⟨d0, d1⟩ := (unhide X).at p hlt
          obtain ⟨y0, _⟩ := (unhide Y).at p hlt
          have HZ : Hid (∀ z, bI (fS how A C p) = z → VRow (wr.setCell ⟨Bx, p, none⟩ (.int .i64 z)) Bx (mixing how A C (p + 1))) := hide (fun z hz => by subst hz; exact ((unhide X).set p hlt _).ext (mixing_step how A C p))
          have HY : Hid (∀ z, VRow (wr.setCell ⟨Bx, p, none⟩ (.int .i64 z)) By (fun q => bI (has C q))) := hide (fun z => ownsRow_at (unhide Y) (fun k hk => heap_setCell_other wr ⟨Bx, p, none⟩ k _ (by simp [Value.ownBlock] at hk; show k ≠ Bx; omega)))
          have HO : Hid (∀ z, SpRow (wr.setCell ⟨Bx, p, none⟩ (.int .i64 z)) w.heap.size (.slice (some ⟨w.heap.size, 0, none⟩) 0 0) []) := hide (fun z => ownsRow_at (unhide O) (fun k hk => heap_setCell_other wr ⟨Bx, p, none⟩ k _ (by simp [Value.ownBlock] at hk; show k ≠ Bx; omega)))
          have HW : Hid (∀ z, Below w.heap.size w (wr.setCell ⟨Bx, p, none⟩ (.int .i64 z))) := hide (fun z => (unhide W).setCell (p := ⟨Bx, p, none⟩) (by show w.heap.size ≤ Bx; omega) (.int .i64 z))
          rw [mixing_at] at d0
          have b0 : bI false = 0 := rfl
          have b1 : bI true = 1 := rfl
          have HF : Hid (fS how A C (p : Int) = comb how (has A (p : Int)) (has C (p : Int))) := hide rfl
          clear X Y O W
          rcases hhow with rfl | rfl | rfl <;> cases ha : has A (p : Int) <;> cases hc : has C (p : Int)
          all_goals
            rw [ha] at d0 HF
            simp only [hc] at y0 HF
            try rw [b0] at d0
            try rw [b1] at d0
            try rw [b0] at y0
            try rw [b1] at y0
            first
              | (have hz : Hid (bI (fS _ A C (p : Int)) = 1) := hide (by rw [unhide HF]; rfl))
              | (have hz : Hid (bI (fS _ A C (p : Int)) = 0) := hide (by rw [unhide HF]; rfl))
            clear ha hc b0 b1 HF
            go_upto_region 9 with fail
            go_quiet (fail)
            go_wp2
            go_roundw
            case rel => exact ⟨p + 1, by omega, by go_num, hide ((unhide HZ) _ (unhide hz)), hide ((unhide HY) _), hide ((unhide HO) _), hide (bdrew ((unhide HW) _) _)⟩
            case measure => simp [intOf]; omega
        · obtain rfl : p = 32768 := by omega
          go_wp2_with fail
          refine (l04Spans_any _ (tabF 32768 (mixing how A C 32768)) _ (unhide X).dat (by rw [tabF_len]; omega)).mono ?_
          rintro e w7 ⟨sv7, L7, rfl, hruns, hlen7, hs7, hb⟩
          rw [tabF_len] at hruns hlen7
          have HS : Hid (SetOf how A C (L7.filter fun r => r.2.2 == 1)) := hide (.inl ⟨unhide HA, unhide HC, by rw [filter_rev]; exact sets_of_runs _ _ _ (mixing_runs hruns)⟩)
          have A7 := hide hs7
          have O7 : Hid (SpRow w7 w.heap.size (.slice (some ⟨w.heap.size, 0, none⟩) 0 0) ((L7.take 0).filter fun r => r.2.2 == 1)) := hide ((unhide O).below hb)
          have W7 := hide ((unhide W).trans (hb.mono (unhide W).size))
          have hB7 : w.heap.size < wr.heap.size := (World.ownsRow.lt (unhide O) w.heap.size rfl).2
          have T7 : Hid (∀ j, Value.ownBlock (.slice (some ⟨w.heap.size, 0, none⟩) 0 0) = some j → j < wr.heap.size ∨ w7.heap.size ≤ j) := hide (fun j hj => by simp [Value.ownBlock] at hj; omega)
          clear hruns hs7 hb X Y O W
          obtain ⟨a7, c7, hsv, hg7⟩ := (unhide A7).form
          subst hsv
          have G7 := hide hg7
          clear hg7
          generalize wr.heap.size = B7 at *
          go_wp2
          go_loopw [7, 12] (fun sv iv wq => ∃ k : Nat, k ≤ L7.length ∧ iv = .int .i64 k ∧ Hid (SpRow wq w.heap.size sv ((L7.take k).filter fun r => r.2.2 == 1)) ∧ Hid (SpRow wq B7 (.slice a7 L7.length c7) L7) ∧ Hid (∀ j, sv.ownBlock = some j → j < B7 ∨ w7.heap.size ≤ j) ∧ Hid (Below w.heap.size w wq) ∧ Hid (w7.heap.size ≤ wq.heap.size)) (fun _ i _ => L7.length - (intOf i).toNat)
          case atStart => exact ⟨0, Nat.zero_le _, rfl, O7, A7, T7, W7, hide (Nat.le_refl _)⟩
          case round =>
            obtain ⟨k, hk, rfl, O8, A8, T8, W8, Z8⟩ := hrel
            clear O7 T7 W7
            by_cases hkl : k < L7.length
            · have hkl' : (k : Int) < (L7.length : Int) := by omega
              obtain ⟨g7, rfl, hg1, hg2⟩ := (unhide G7) (by omega)
              obtain ⟨x0, x1, x2⟩ := (unhide A8).read k hkl
              have HT := hide (take_filter L7 k hkl)
              have hml : ((L7.take k).filter fun r => r.2.2 == 1).length ≤ k := Nat.le_trans (List.length_filter_le _ _) (by simp; omega)
              obtain ⟨⟨x, y, z⟩, hr⟩ : ∃ r, gx L7 k = r := ⟨_, rfl⟩
              rw [hr] at x0 x1 x2 HT
              simp only at x0 x1 x2 HT
              clear hr
              generalize (L7.take k).filter (fun r => r.2.2 == 1) = M at *
              by_cases hz : z = 1
              · subst hz
                have HT' : Hid ((L7.take (k + 1)).filter (fun r => r.2.2 == 1) = M ++ [(x, y, 1)]) := hide (by rw [unhide HT]; rfl)
                have hz' : ((1 : Int) == 1) = true := rfl
                have hBs := (unhide W8).size
                have hZ := unhide Z8
                have hlt7 := (World.ownsRow.lt (unhide A7) g7 rfl).2
                clear HT hz'
                obtain ⟨sa, sc, hsv, _⟩ := (unhide O8).form
                subst hsv
                go_wp2_with (at_builtin; refine wpList_appG _ rfl _ _ 23 rfl w.heap.size 38 i0 (.agg #[.int .i64 0, .int .i64 0, .int .i64 0]) 3 24 Try.underlying23 hi hz0 hz1 hz2 rfl (by decide) _ _ _ rfl (World.ownsRow.alloc (unhide O8) _) ⟨wr.heap.size, 0, none⟩ 1 1 [.int .i64 x, .int .i64 y, .int .i64 1] rfl rfl ?c1 ?c2 ?c3 ?c4 ?c5 ?_)
                case c1 => exact three_new _ _ _ _ _
                case c2 => exact three_one _ _ _
                case c3 => unfold maxLen; omega
                case c4 => omega
                case c5 => simp; omega
                intro v' w3 hown' hgrow hnew
                have R := hide (sp_step (unhide W8) (unhide O8) hown' hgrow)
                have hsz := hgrow.size
                simp at hsz
                have A9 : Hid (SpRow w3 B7 (.slice (some ⟨g7, 0, none⟩) L7.length c7) L7) := hide (ownsRow_at (unhide A8) (fun j hj => by
                  have hj' : j = g7 := by simp [Value.ownBlock] at hj; exact hj.symm
                  subst hj'
                  refine (hgrow.block j (by simp; omega) (fun e => ?_)).trans (alloc_block _ _ (by omega))
                  rcases (unhide T8) j e.symm with h | h
                  · omega
                  · omega))
                have T9 : Hid (∀ j, v'.ownBlock = some j → j < B7 ∨ w7.heap.size ≤ j) := hide (fun j hj => by
                  rcases hnew j hj with h | h
                  · exact (unhide T8) j h
                  · first | omega | (simp at h; omega))
                clear hown' hgrow hnew
                go_wp2
                go_roundw
                case rel => exact ⟨k + 1, by omega, by go_num, hide (by rw [unhide HT']; exact (unhide R).1), A9, T9, hide (unhide R).2, hide (by omega)⟩
                case measure => simp [intOf]; omega
              · have HT' : Hid ((L7.take (k + 1)).filter (fun r => r.2.2 == 1) = M) := hide (by
                  rw [unhide HT]
                  have : (z == 1) = false := by simpa using hz
                  rw [this]
                  simp)
                have hz' : (z == 1) = false := by simpa using hz
                clear hz HT
                go_wp2
                go_roundw
                case rel => exact ⟨k + 1, by omega, by go_num, hide (by rw [unhide HT']; exact unhide O8), A8, T8, W8, Z8⟩
                case measure => simp [intOf]; omega
            · obtain rfl : k = L7.length := by omega
              have hO8 := unhide O8
              rw [List.take_length] at hO8
              have O9 := hide hO8
              have hfl : (L7.filter fun r => r.2.2 == 1).length ≤ 32768 := Nat.le_trans (List.length_filter_le _ _) hlen7
              clear hO8 O8
              go_wp2
              go_ret
              exact ⟨_, _, rfl, unhide HS, hfl, unhide O9, unhide W8⟩
end Go.Proofs.Ytfcabmpklcmbgaa
