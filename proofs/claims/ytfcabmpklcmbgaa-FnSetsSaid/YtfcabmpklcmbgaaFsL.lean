/- The law of sets. -/
import Derived.Test.YtfcabmpklcmbgaaFsP
import Derived.Test.YtfcabmpklcmbgaaFsD
import Derived.Test.YtfcabmpklcmbgaaSetL0
import Derived.Test.YtfcabmpklcmbgaaSetL1
import Derived.Test.YtfcabmpklcmbgaaSetL2
import Derived.Test.YtfcabmpklcmbgaaSetH
import Derived.Test.YtfcabmpklcmbgaaSpnF
import Derived.Test.YtfcabmpklcmbgaaLwP
namespace Go.Proofs.Ytfcabmpklcmbgaa.Fs
open Go.RowKit Dr
set_option linter.unusedVariables false
set_option maxHeartbeats 2000000 in
theorem lwAt4_any (a : Option Addr) (len cap i : Nat) (w : World) (hc : Dr.CodeIn w a len) (hl : len ≤ 1048576) (hi : i ≤ 100) :
    Calls Try.prog 13 #[.slice a len cap, .int .i64 (i : Int), .int .i64 4] w fun e w' => ∃ z : Int, e = .returned (.int .i64 z) ∧ 0 ≤ z ∧ z < 4 ∧ w' = w := by
  rcases hc with h0 | ⟨cb, off, rfl, hcb, hc⟩
  · subst h0
    go_enter Try.func13, Try.ntmps13
    go_wp2
    go_ret
    exact ⟨0, rfl, by omega, by omega, rfl⟩
  · by_cases h0 : len = 0
    · subst h0
      go_enter Try.func13, Try.ntmps13
      go_wp2
      go_ret
      exact ⟨0, rfl, by omega, by omega, rfl⟩
    · have hz : ((len : Int) == 0) = false := by rw [beq_eq_false_iff_ne]; omega
      obtain ⟨z, hcell, hz0, hz1⟩ := hc (i % len) (Nat.mod_lt _ (by omega))
      have hm : (i : Int).tmod (len : Int) = ((i % len : Nat) : Int) := by rw [Int.tmod_eq_emod_of_nonneg (by omega)]; omega
      have hml := Nat.mod_lt i (show 0 < len by omega)
      generalize i % len = m at *
      have hm1 : (m : Int) < (len : Int) := by omega
      obtain ⟨y, hy⟩ : ∃ y, z.tmod 4 = y := ⟨_, rfl⟩
      have hy0 : 0 ≤ y := by rw [← hy]; exact Int.tmod_nonneg _ hz0
      have hy1 : y < 4 := by rw [← hy]; exact Int.tmod_lt_of_pos _ (by omega)
      have hne : ¬ (len : Int) = 0 := by omega
      go_enter Try.func13, Try.ntmps13
      go_wp2
      go_ret
      exact ⟨y, rfl, hy0, hy1, rfl⟩
theorem code_on {w w' : World} {a : Option Addr} {len : Nat} (h : CodeIn w a len) (hb : Below w.heap.size w w') : CodeIn w' a len := by
  rcases h with h | ⟨cb, off, rfl, hl, hc⟩
  · exact .inl h
  · exact .inr ⟨cb, off, rfl, Nat.lt_of_lt_of_le hl hb.size, fun i hi => by
      obtain ⟨z, e, hz⟩ := hc i hi
      exact ⟨z, (hb.cell (p := ⟨cb, off + i, none⟩) hl).trans e, hz⟩⟩
/-- The two sets that were drawn. -/
structure F2 (w wr : World) (va vb : Value) (A C : List Sp) : Prop where
  be : Below w.heap.size w wr
  a : SpRow wr w.heap.size va A
  b : SpRow wr w.heap.size vb C
theorem F2.on {w wr w2 : World} {va vb : Value} {A C : List Sp} (h : F2 w wr va vb A C) (hb : Below wr.heap.size wr w2) : F2 w w2 va vb A C := ⟨h.be.trans (hb.mono h.be.size), h.a.below hb, h.b.below hb⟩
/-- What they come to. -/
structure F3 (w wr : World) (vj vm vl : Value) (J M K : List Sp) : Prop where
  j : SpRow wr w.heap.size vj J
  m : SpRow wr w.heap.size vm M
  k : SpRow wr w.heap.size vl K
theorem F3.on {w wr w2 : World} {vj vm vl : Value} {J M K : List Sp} (h : F3 w wr vj vm vl J M K) (hb : Below wr.heap.size wr w2) : F3 w w2 vj vm vl J M K := ⟨h.j.below hb, h.m.below hb, h.k.below hb⟩
set_option maxHeartbeats 16000000 in
set_option maxRecDepth 100000 in
theorem lawSets (a : Option Addr) (len cap : Nat) (a2 : Option Addr) (len2 cap2 : Nat) (w : World) (hc : CodeIn w a len) (hc2 : CodeIn w a2 len2) (hl0 : len ≤ maxLen) (hl02 : len2 ≤ maxLen) :
    Calls Try.prog 3 #[.slice a len cap, .slice a2 len2 cap2] w fun e w' => e = .returned (.bool true) ∧ Below w.heap.size w w' := by
  unfold maxLen at hl0 hl02
  by_cases b1 : 1048576 < len
  · have hU : undef = Value.tuple #[] := rfl
    have b1' : (1048576 : Int) < (len : Int) := by omega
    go_enter Try.func3, Try.ntmps3
    go_wp2
    go_ret
    exact ⟨rfl, Below.refl _ _⟩
  · have b1' : ¬ (1048576 : Int) < (len : Int) := by omega
    by_cases b2 : 1048576 < len2
    · have b2' : (1048576 : Int) < (len2 : Int) := by omega
      go_enter Try.func3, Try.ntmps3
      go_wp2
      go_ret
      exact ⟨rfl, Below.refl _ _⟩
    · have b2' : ¬ (1048576 : Int) < (len2 : Int) := by omega
      have CD := hide (drawJ_any w a len cap (by omega) hc)
      have HC2 := hide hc2
      clear hc hc2
      go_enter Try.func3, Try.ntmps3
      go_wp2_with fail
      refine (unhide CD).mono ?_
      rintro e w1 ⟨va, vb, A, C, rfl, hA, hC, sa, sb, hb1⟩
      have T1 := hide (show F2 w w1 va vb A C from ⟨hb1, sa, sb⟩)
      obtain ⟨aa, ac, rfl, _⟩ := sa.form
      obtain ⟨ba, bc, rfl, _⟩ := sb.form
      have CJ := hide (fun W h1 h2 => implJoinSets (.slice aa A.length ac) (.slice ba C.length bc) A C w.heap.size w.heap.size W h1 h2 (by omega) (by omega))
      have CM := hide (fun W h1 h2 => implMeetSets (.slice aa A.length ac) (.slice ba C.length bc) A C w.heap.size w.heap.size W h1 h2 (by omega) (by omega))
      have CL := hide (fun W h1 h2 => implLessSets (.slice aa A.length ac) (.slice ba C.length bc) A C w.heap.size w.heap.size W h1 h2 (by omega) (by omega))
      have DJ := hide (fun W h1 h2 => specJoinSets (.slice aa A.length ac) (.slice ba C.length bc) A C w.heap.size w.heap.size W h1 h2 (by omega) (by omega))
      have DM := hide (fun W h1 h2 => specMeetSets (.slice aa A.length ac) (.slice ba C.length bc) A C w.heap.size w.heap.size W h1 h2 (by omega) (by omega))
      have DL := hide (fun W h1 h2 => specLessSets (.slice aa A.length ac) (.slice ba C.length bc) A C w.heap.size w.heap.size W h1 h2 (by omega) (by omega))
      have EJ := hide (fun W h1 h2 => implJoinSets (.slice ba C.length bc) (.slice aa A.length ac) C A w.heap.size w.heap.size W h1 h2 (by omega) (by omega))
      have EM := hide (fun W h1 h2 => implMeetSets (.slice ba C.length bc) (.slice aa A.length ac) C A w.heap.size w.heap.size W h1 h2 (by omega) (by omega))
      have QA := hide (fun W h1 => specFault (.slice aa A.length ac) A w.heap.size W h1 (by omega))
      have QC := hide (fun W h1 => specFault (.slice ba C.length bc) C w.heap.size W h1 (by omega))
      have HA := hide (fun p W h1 => specHas (.slice aa A.length ac) A p w.heap.size W h1 (by omega))
      have HC := hide (fun p W h1 => specHas (.slice ba C.length bc) C p w.heap.size W h1 (by omega))
      have LS := hide (fun v1 v2 N B1 B2 W h1 h2 hn => lwSpans v1 v2 N B1 B2 W h1 h2 hn)
      have hws := (unhide T1).be.size
      clear CD sa sb hb1 hA hC
      go_wp2_with fail
      refine ((unhide CJ) _ (unhide T1).a (unhide T1).b).mono ?_
      rintro e w2 ⟨vj, J, rfl, hJ, lJ, sJ, hb⟩
      have HJ := hide hJ
      have T2 := hide ((unhide T1).on hb)
      have RJ := hide (sp_low (B := w.heap.size) sJ (by have := (unhide T1).be.size; omega))
      obtain ⟨xJ, yJ, rfl, _⟩ := sJ.form
      clear hJ sJ hb T1
      go_wp2_with fail
      refine ((unhide CM) _ (unhide T2).a (unhide T2).b).mono ?_
      rintro e w3 ⟨vm, M, rfl, hM, lM, sM, hb⟩
      have HM := hide hM
      have T3 := hide ((unhide T2).on hb)
      have RM := hide (sp_low (B := w.heap.size) sM (by have := (unhide T2).be.size; omega))
      replace RJ := hide ((unhide RJ).below hb)
      obtain ⟨xM, yM, rfl, _⟩ := sM.form
      clear hM sM hb T2
      go_wp2_with fail
      refine ((unhide CL) _ (unhide T3).a (unhide T3).b).mono ?_
      rintro e w4 ⟨vl, K, rfl, hK, lK, sK, hb⟩
      have HK := hide hK
      have T4 := hide ((unhide T3).on hb)
      have RK := hide (sp_low (B := w.heap.size) sK (by have := (unhide T3).be.size; omega))
      replace RJ := hide ((unhide RJ).below hb)
      replace RM := hide ((unhide RM).below hb)
      obtain ⟨xK, yK, rfl, _⟩ := sK.form
      clear hK sK hb T3
      have U4 := hide (show F3 w w4 (.slice xJ J.length yJ) (.slice xM M.length yM) (.slice xK K.length yK) J M K from ⟨unhide RJ, unhide RM, unhide RK⟩)
      clear RJ RM RK CJ CM CL
      go_wp2_with fail
      refine ((unhide DJ) _ (unhide T4).a (unhide T4).b).mono ?_
      rintro e w5 ⟨v', N, rfl, hN, lN, sN, hb⟩
      have eN := (setOf_one hN (unhide HJ)).symm
      subst eN
      have T5 := hide ((unhide T4).on hb)
      have U5 := hide ((unhide U4).on hb)
      have S' := hide sN
      obtain ⟨xn, yn, rfl, _⟩ := sN.form
      clear hN sN hb T4 U4
      go_wp2_with fail
      refine ((unhide LS) _ _ _ _ _ _ (unhide U5).j (unhide S') (by omega)).mono ?_
      rintro e w6 ⟨rfl, hb⟩
      have T6 := hide ((unhide T5).on hb)
      have U6 := hide ((unhide U5).on hb)
      clear hb T5 U5 S'
      go_wp2_with fail
      refine ((unhide DM) _ (unhide T6).a (unhide T6).b).mono ?_
      rintro e w7 ⟨v', N, rfl, hN, lN, sN, hb⟩
      have eN := (setOf_one hN (unhide HM)).symm
      subst eN
      have T7 := hide ((unhide T6).on hb)
      have U7 := hide ((unhide U6).on hb)
      have S' := hide sN
      obtain ⟨xn, yn, rfl, _⟩ := sN.form
      clear hN sN hb T6 U6
      go_wp2_with fail
      refine ((unhide LS) _ _ _ _ _ _ (unhide U7).m (unhide S') (by omega)).mono ?_
      rintro e w8 ⟨rfl, hb⟩
      have T8 := hide ((unhide T7).on hb)
      have U8 := hide ((unhide U7).on hb)
      clear hb T7 U7 S'
      go_wp2_with fail
      refine ((unhide DL) _ (unhide T8).a (unhide T8).b).mono ?_
      rintro e w9 ⟨v', N, rfl, hN, lN, sN, hb⟩
      have eN := (setOf_one hN (unhide HK)).symm
      subst eN
      have T9 := hide ((unhide T8).on hb)
      have U9 := hide ((unhide U8).on hb)
      have S' := hide sN
      obtain ⟨xn, yn, rfl, _⟩ := sN.form
      clear hN sN hb T8 U8
      go_wp2_with fail
      refine ((unhide LS) _ _ _ _ _ _ (unhide U9).k (unhide S') (by omega)).mono ?_
      rintro e w10 ⟨rfl, hb⟩
      have T10 := hide ((unhide T9).on hb)
      have U10 := hide ((unhide U9).on hb)
      clear hb T9 U9 S'
      clear DJ DM DL
      cases hrA : right A with
      | false =>
        have hfA : faultOf A = 1 := fault_wrong' hrA
        rw [hfA] at QA
        have hU : undef = Value.tuple #[] := rfl
        go_wp2_with fail
        refine ((unhide QA) _ (unhide T10).a).mono ?_
        rintro e w11 ⟨rfl, hb⟩
        have T11 := hide ((unhide T10).on hb)
        have U11 := hide ((unhide U10).on hb)
        clear hb T10 U10
        have eJ := set_empty (unhide HJ) (fun h => by rw [hrA] at h; exact absurd h.1 (by simp))
        have eM := set_empty (unhide HM) (fun h => by rw [hrA] at h; exact absurd h.1 (by simp))
        have eK := set_empty (unhide HK) (fun h => by rw [hrA] at h; exact absurd h.1 (by simp))
        subst eJ
        subst eM
        subst eK
        clear HJ HM HK lJ lM lK
        go_wp2
        go_ret
        exact ⟨rfl, (unhide T11).be⟩
      | true =>
        have hfA : faultOf A = 0 := fault_right' hrA
        rw [hfA] at QA
        go_wp2_with fail
        refine ((unhide QA) _ (unhide T10).a).mono ?_
        rintro e w11 ⟨rfl, hb⟩
        have T11 := hide ((unhide T10).on hb)
        have U11 := hide ((unhide U10).on hb)
        clear hb T10 U10
        cases hrC : right C with
        | false =>
          have hfC : faultOf C = 1 := fault_wrong' hrC
          rw [hfC] at QC
          go_wp2_with fail
          refine ((unhide QC) _ (unhide T11).b).mono ?_
          rintro e w12 ⟨rfl, hb⟩
          have T12 := hide ((unhide T11).on hb)
          have U12 := hide ((unhide U11).on hb)
          clear hb T11 U11
          have eJ := set_empty (unhide HJ) (fun h => by rw [hrC] at h; exact absurd h.2 (by simp))
          have eM := set_empty (unhide HM) (fun h => by rw [hrC] at h; exact absurd h.2 (by simp))
          have eK := set_empty (unhide HK) (fun h => by rw [hrC] at h; exact absurd h.2 (by simp))
          subst eJ
          subst eM
          subst eK
          clear HJ HM HK lJ lM lK
          go_wp2
          go_ret
          exact ⟨rfl, (unhide T12).be⟩
        | true =>
          have hfC : faultOf C = 0 := fault_right' hrC
          rw [hfC] at QC
          go_wp2_with fail
          refine ((unhide QC) _ (unhide T11).b).mono ?_
          rintro e w12 ⟨rfl, hb⟩
          have T12 := hide ((unhide T11).on hb)
          have U12 := hide ((unhide U11).on hb)
          clear hb T11 U11
          have PJ := hide (fun p h0 h1 hl => set_has (unhide HJ) hrA hrC hl (p := p) h0 h1)
          have PM := hide (fun p h0 h1 hl => set_has (unhide HM) hrA hrC hl (p := p) h0 h1)
          have PK := hide (fun p h0 h1 hl => set_has (unhide HK) hrA hrC hl (p := p) h0 h1)
          have IJ := hide (fun p W h1 => implHas (.slice xJ J.length yJ) J p w.heap.size W h1 (by omega))
          have IM := hide (fun p W h1 => implHas (.slice xM M.length yM) M p w.heap.size W h1 (by omega))
          have IK := hide (fun p W h1 => implHas (.slice xK K.length yK) K p w.heap.size W h1 (by omega))
          have C40 := hide (fun i W hcw hi => lwAt4_any a2 len2 cap2 i W hcw (by omega) hi)
          have C41 := hide (fun i W hcw hi => lwAt_any a2 len2 cap2 i W hcw (by omega) hi)
          clear hrA hrC hfA hfC QA QC
          go_wp2
          go_loopw [10] (fun kv wr => ∃ k : Nat, kv = .int .i64 (k : Int) ∧ k ≤ 8 ∧ Hid (F2 w wr (.slice aa A.length ac) (.slice ba C.length bc) A C) ∧ Hid (F3 w wr (.slice xJ J.length yJ) (.slice xM M.length yM) (.slice xK K.length yK) J M K)) (fun kv _ => 8 - (intOf kv).toNat)
          case atStart => exact ⟨0, rfl, by omega, T12, U12⟩
          case round =>
            obtain ⟨k, rfl, hk, T, U⟩ := hrel
            clear T12 U12
            by_cases hk8 : k < 8
            · have hk8' : (k : Int) < 8 := by omega
              obtain ⟨i, hi⟩ : ∃ i : Nat, 2 * k = i := ⟨_, rfl⟩
              have hi' : 2 * (k : Int) = (i : Int) := by omega
              obtain ⟨i2, hi2⟩ : ∃ i2 : Nat, i + 1 = i2 := ⟨_, rfl⟩
              have hi2' : (i : Int) + 1 = (i2 : Int) := by omega
              have hib : i ≤ 50 := by omega
              have hib2 : i2 ≤ 60 := by omega
              go_wp2_with fail
              refine ((unhide C40) i _ (code_on (unhide HC2) (unhide T).be) (by omega)).mono ?_
              rintro e wx ⟨z1, rfl, hz1, hz2, hwx⟩
              have e5 := hwx.symm
              subst e5
              clear hwx
              go_wp2_with fail
              refine ((unhide C41) i2 _ (code_on (unhide HC2) (unhide T).be) (by omega)).mono ?_
              rintro e wx ⟨z2, rfl, hz3, hz4, hwx⟩
              have e5 := hwx.symm
              subst e5
              clear hwx hi hi' hi2 hi2' hib hib2
              obtain ⟨p, hp⟩ : ∃ p : Int, z1 * 200 + z2 = p := ⟨_, rfl⟩
              have hp0 : 0 ≤ p := by omega
              have hp1 : p < 32768 := by omega
              have hp2 : IntKind.i64.wrap (z1 * 200) = z1 * 200 := by simp [IntKind.wrap, IntKind.bits, IntKind.signed]; omega
              have hp3 : IntKind.i64.wrap p = p := by simp [IntKind.wrap, IntKind.bits, IntKind.signed]; omega
              have XJ := hide ((unhide PJ) p hp0 hp1)
              have XM := hide ((unhide PM) p hp0 hp1)
              have XK := hide ((unhide PK) p hp0 hp1)
              have YA := hide ((unhide HA) p)
              have YC := hide ((unhide HC) p)
              have ZJ := hide ((unhide IJ) p)
              have ZM := hide ((unhide IM) p)
              have ZK := hide ((unhide IK) p)
              go_wp2_with fail
              refine ((unhide YA) _ (unhide T).a).mono ?_
              rintro e wy ⟨rfl, hb⟩
              replace T := hide ((unhide T).on hb)
              replace U := hide ((unhide U).on hb)
              clear hb YA
              go_wp2_with fail
              refine ((unhide YC) _ (unhide T).b).mono ?_
              rintro e wz ⟨rfl, hb⟩
              replace T := hide ((unhide T).on hb)
              replace U := hide ((unhide U).on hb)
              clear hb YC
              generalize hasB A p = x at *
              generalize hasB C p = y at *
              clear PJ PM PK HA HC IJ IM IK C40 C41 hp hp2 hp3
              cases x <;> cases y
              · by_cases lJ1 : J.length ≤ 1000
                · have qJ : hasB J p = false := (unhide XJ) lJ1
                  rw [qJ] at ZJ
                  have jJ : (J.length : Int) ≤ 1000 := by omega
                  clear qJ XJ
                  by_cases lM1 : M.length ≤ 1000
                  · have qM : hasB M p = false := (unhide XM) lM1
                    rw [qM] at ZM
                    have jM : (M.length : Int) ≤ 1000 := by omega
                    clear qM XM
                    by_cases lK1 : K.length ≤ 1000
                    · have qK : hasB K p = false := (unhide XK) lK1
                      rw [qK] at ZK
                      have jK : (K.length : Int) ≤ 1000 := by omega
                      clear qK XK
                      go_wp2_with (first | (go_at_call 15; refine ((unhide ZJ) _ (unhide U).j).mono ?_; rintro e wq ⟨rfl, hb⟩; replace T := hide ((unhide T).on hb); replace U := hide ((unhide U).on hb); clear hb ZJ) | (go_at_call 15; refine ((unhide ZM) _ (unhide U).m).mono ?_; rintro e wq ⟨rfl, hb⟩; replace T := hide ((unhide T).on hb); replace U := hide ((unhide U).on hb); clear hb ZM) | (go_at_call 15; refine ((unhide ZK) _ (unhide U).k).mono ?_; rintro e wq ⟨rfl, hb⟩; replace T := hide ((unhide T).on hb); replace U := hide ((unhide U).on hb); clear hb ZK))
                      go_roundw
                      case rel => exact ⟨k + 1, by go_num, by omega, T, U⟩
                      case measure => simp [intOf]; omega
                    · have jK : ¬ (K.length : Int) ≤ 1000 := by omega
                      clear ZK XK
                      go_wp2_with (first | (go_at_call 15; refine ((unhide ZJ) _ (unhide U).j).mono ?_; rintro e wq ⟨rfl, hb⟩; replace T := hide ((unhide T).on hb); replace U := hide ((unhide U).on hb); clear hb ZJ) | (go_at_call 15; refine ((unhide ZM) _ (unhide U).m).mono ?_; rintro e wq ⟨rfl, hb⟩; replace T := hide ((unhide T).on hb); replace U := hide ((unhide U).on hb); clear hb ZM))
                      go_roundw
                      case rel => exact ⟨k + 1, by go_num, by omega, T, U⟩
                      case measure => simp [intOf]; omega
                  · have jM : ¬ (M.length : Int) ≤ 1000 := by omega
                    clear ZM XM
                    by_cases lK1 : K.length ≤ 1000
                    · have qK : hasB K p = false := (unhide XK) lK1
                      rw [qK] at ZK
                      have jK : (K.length : Int) ≤ 1000 := by omega
                      clear qK XK
                      go_wp2_with (first | (go_at_call 15; refine ((unhide ZJ) _ (unhide U).j).mono ?_; rintro e wq ⟨rfl, hb⟩; replace T := hide ((unhide T).on hb); replace U := hide ((unhide U).on hb); clear hb ZJ) | (go_at_call 15; refine ((unhide ZK) _ (unhide U).k).mono ?_; rintro e wq ⟨rfl, hb⟩; replace T := hide ((unhide T).on hb); replace U := hide ((unhide U).on hb); clear hb ZK))
                      go_roundw
                      case rel => exact ⟨k + 1, by go_num, by omega, T, U⟩
                      case measure => simp [intOf]; omega
                    · have jK : ¬ (K.length : Int) ≤ 1000 := by omega
                      clear ZK XK
                      go_wp2_with (first | (go_at_call 15; refine ((unhide ZJ) _ (unhide U).j).mono ?_; rintro e wq ⟨rfl, hb⟩; replace T := hide ((unhide T).on hb); replace U := hide ((unhide U).on hb); clear hb ZJ))
                      go_roundw
                      case rel => exact ⟨k + 1, by go_num, by omega, T, U⟩
                      case measure => simp [intOf]; omega
                · have jJ : ¬ (J.length : Int) ≤ 1000 := by omega
                  clear ZJ XJ
                  by_cases lM1 : M.length ≤ 1000
                  · have qM : hasB M p = false := (unhide XM) lM1
                    rw [qM] at ZM
                    have jM : (M.length : Int) ≤ 1000 := by omega
                    clear qM XM
                    by_cases lK1 : K.length ≤ 1000
                    · have qK : hasB K p = false := (unhide XK) lK1
                      rw [qK] at ZK
                      have jK : (K.length : Int) ≤ 1000 := by omega
                      clear qK XK
                      go_wp2_with (first | (go_at_call 15; refine ((unhide ZM) _ (unhide U).m).mono ?_; rintro e wq ⟨rfl, hb⟩; replace T := hide ((unhide T).on hb); replace U := hide ((unhide U).on hb); clear hb ZM) | (go_at_call 15; refine ((unhide ZK) _ (unhide U).k).mono ?_; rintro e wq ⟨rfl, hb⟩; replace T := hide ((unhide T).on hb); replace U := hide ((unhide U).on hb); clear hb ZK))
                      go_roundw
                      case rel => exact ⟨k + 1, by go_num, by omega, T, U⟩
                      case measure => simp [intOf]; omega
                    · have jK : ¬ (K.length : Int) ≤ 1000 := by omega
                      clear ZK XK
                      go_wp2_with (first | (go_at_call 15; refine ((unhide ZM) _ (unhide U).m).mono ?_; rintro e wq ⟨rfl, hb⟩; replace T := hide ((unhide T).on hb); replace U := hide ((unhide U).on hb); clear hb ZM))
                      go_roundw
                      case rel => exact ⟨k + 1, by go_num, by omega, T, U⟩
                      case measure => simp [intOf]; omega
                  · have jM : ¬ (M.length : Int) ≤ 1000 := by omega
                    clear ZM XM
                    by_cases lK1 : K.length ≤ 1000
                    · have qK : hasB K p = false := (unhide XK) lK1
                      rw [qK] at ZK
                      have jK : (K.length : Int) ≤ 1000 := by omega
                      clear qK XK
                      go_wp2_with (first | (go_at_call 15; refine ((unhide ZK) _ (unhide U).k).mono ?_; rintro e wq ⟨rfl, hb⟩; replace T := hide ((unhide T).on hb); replace U := hide ((unhide U).on hb); clear hb ZK))
                      go_roundw
                      case rel => exact ⟨k + 1, by go_num, by omega, T, U⟩
                      case measure => simp [intOf]; omega
                    · have jK : ¬ (K.length : Int) ≤ 1000 := by omega
                      clear ZK XK
                      go_wp2
                      go_roundw
                      case rel => exact ⟨k + 1, by go_num, by omega, T, U⟩
                      case measure => simp [intOf]; omega
              · by_cases lJ1 : J.length ≤ 1000
                · have qJ : hasB J p = true := (unhide XJ) lJ1
                  rw [qJ] at ZJ
                  have jJ : (J.length : Int) ≤ 1000 := by omega
                  clear qJ XJ
                  by_cases lM1 : M.length ≤ 1000
                  · have qM : hasB M p = false := (unhide XM) lM1
                    rw [qM] at ZM
                    have jM : (M.length : Int) ≤ 1000 := by omega
                    clear qM XM
                    by_cases lK1 : K.length ≤ 1000
                    · have qK : hasB K p = false := (unhide XK) lK1
                      rw [qK] at ZK
                      have jK : (K.length : Int) ≤ 1000 := by omega
                      clear qK XK
                      go_wp2_with (first | (go_at_call 15; refine ((unhide ZJ) _ (unhide U).j).mono ?_; rintro e wq ⟨rfl, hb⟩; replace T := hide ((unhide T).on hb); replace U := hide ((unhide U).on hb); clear hb ZJ) | (go_at_call 15; refine ((unhide ZM) _ (unhide U).m).mono ?_; rintro e wq ⟨rfl, hb⟩; replace T := hide ((unhide T).on hb); replace U := hide ((unhide U).on hb); clear hb ZM) | (go_at_call 15; refine ((unhide ZK) _ (unhide U).k).mono ?_; rintro e wq ⟨rfl, hb⟩; replace T := hide ((unhide T).on hb); replace U := hide ((unhide U).on hb); clear hb ZK))
                      go_roundw
                      case rel => exact ⟨k + 1, by go_num, by omega, T, U⟩
                      case measure => simp [intOf]; omega
                    · have jK : ¬ (K.length : Int) ≤ 1000 := by omega
                      clear ZK XK
                      go_wp2_with (first | (go_at_call 15; refine ((unhide ZJ) _ (unhide U).j).mono ?_; rintro e wq ⟨rfl, hb⟩; replace T := hide ((unhide T).on hb); replace U := hide ((unhide U).on hb); clear hb ZJ) | (go_at_call 15; refine ((unhide ZM) _ (unhide U).m).mono ?_; rintro e wq ⟨rfl, hb⟩; replace T := hide ((unhide T).on hb); replace U := hide ((unhide U).on hb); clear hb ZM))
                      go_roundw
                      case rel => exact ⟨k + 1, by go_num, by omega, T, U⟩
                      case measure => simp [intOf]; omega
                  · have jM : ¬ (M.length : Int) ≤ 1000 := by omega
                    clear ZM XM
                    by_cases lK1 : K.length ≤ 1000
                    · have qK : hasB K p = false := (unhide XK) lK1
                      rw [qK] at ZK
                      have jK : (K.length : Int) ≤ 1000 := by omega
                      clear qK XK
                      go_wp2_with (first | (go_at_call 15; refine ((unhide ZJ) _ (unhide U).j).mono ?_; rintro e wq ⟨rfl, hb⟩; replace T := hide ((unhide T).on hb); replace U := hide ((unhide U).on hb); clear hb ZJ) | (go_at_call 15; refine ((unhide ZK) _ (unhide U).k).mono ?_; rintro e wq ⟨rfl, hb⟩; replace T := hide ((unhide T).on hb); replace U := hide ((unhide U).on hb); clear hb ZK))
                      go_roundw
                      case rel => exact ⟨k + 1, by go_num, by omega, T, U⟩
                      case measure => simp [intOf]; omega
                    · have jK : ¬ (K.length : Int) ≤ 1000 := by omega
                      clear ZK XK
                      go_wp2_with (first | (go_at_call 15; refine ((unhide ZJ) _ (unhide U).j).mono ?_; rintro e wq ⟨rfl, hb⟩; replace T := hide ((unhide T).on hb); replace U := hide ((unhide U).on hb); clear hb ZJ))
                      go_roundw
                      case rel => exact ⟨k + 1, by go_num, by omega, T, U⟩
                      case measure => simp [intOf]; omega
                · have jJ : ¬ (J.length : Int) ≤ 1000 := by omega
                  clear ZJ XJ
                  by_cases lM1 : M.length ≤ 1000
                  · have qM : hasB M p = false := (unhide XM) lM1
                    rw [qM] at ZM
                    have jM : (M.length : Int) ≤ 1000 := by omega
                    clear qM XM
                    by_cases lK1 : K.length ≤ 1000
                    · have qK : hasB K p = false := (unhide XK) lK1
                      rw [qK] at ZK
                      have jK : (K.length : Int) ≤ 1000 := by omega
                      clear qK XK
                      go_wp2_with (first | (go_at_call 15; refine ((unhide ZM) _ (unhide U).m).mono ?_; rintro e wq ⟨rfl, hb⟩; replace T := hide ((unhide T).on hb); replace U := hide ((unhide U).on hb); clear hb ZM) | (go_at_call 15; refine ((unhide ZK) _ (unhide U).k).mono ?_; rintro e wq ⟨rfl, hb⟩; replace T := hide ((unhide T).on hb); replace U := hide ((unhide U).on hb); clear hb ZK))
                      go_roundw
                      case rel => exact ⟨k + 1, by go_num, by omega, T, U⟩
                      case measure => simp [intOf]; omega
                    · have jK : ¬ (K.length : Int) ≤ 1000 := by omega
                      clear ZK XK
                      go_wp2_with (first | (go_at_call 15; refine ((unhide ZM) _ (unhide U).m).mono ?_; rintro e wq ⟨rfl, hb⟩; replace T := hide ((unhide T).on hb); replace U := hide ((unhide U).on hb); clear hb ZM))
                      go_roundw
                      case rel => exact ⟨k + 1, by go_num, by omega, T, U⟩
                      case measure => simp [intOf]; omega
                  · have jM : ¬ (M.length : Int) ≤ 1000 := by omega
                    clear ZM XM
                    by_cases lK1 : K.length ≤ 1000
                    · have qK : hasB K p = false := (unhide XK) lK1
                      rw [qK] at ZK
                      have jK : (K.length : Int) ≤ 1000 := by omega
                      clear qK XK
                      go_wp2_with (first | (go_at_call 15; refine ((unhide ZK) _ (unhide U).k).mono ?_; rintro e wq ⟨rfl, hb⟩; replace T := hide ((unhide T).on hb); replace U := hide ((unhide U).on hb); clear hb ZK))
                      go_roundw
                      case rel => exact ⟨k + 1, by go_num, by omega, T, U⟩
                      case measure => simp [intOf]; omega
                    · have jK : ¬ (K.length : Int) ≤ 1000 := by omega
                      clear ZK XK
                      go_wp2
                      go_roundw
                      case rel => exact ⟨k + 1, by go_num, by omega, T, U⟩
                      case measure => simp [intOf]; omega
              · by_cases lJ1 : J.length ≤ 1000
                · have qJ : hasB J p = true := (unhide XJ) lJ1
                  rw [qJ] at ZJ
                  have jJ : (J.length : Int) ≤ 1000 := by omega
                  clear qJ XJ
                  by_cases lM1 : M.length ≤ 1000
                  · have qM : hasB M p = false := (unhide XM) lM1
                    rw [qM] at ZM
                    have jM : (M.length : Int) ≤ 1000 := by omega
                    clear qM XM
                    by_cases lK1 : K.length ≤ 1000
                    · have qK : hasB K p = true := (unhide XK) lK1
                      rw [qK] at ZK
                      have jK : (K.length : Int) ≤ 1000 := by omega
                      clear qK XK
                      go_wp2_with (first | (go_at_call 15; refine ((unhide ZJ) _ (unhide U).j).mono ?_; rintro e wq ⟨rfl, hb⟩; replace T := hide ((unhide T).on hb); replace U := hide ((unhide U).on hb); clear hb ZJ) | (go_at_call 15; refine ((unhide ZM) _ (unhide U).m).mono ?_; rintro e wq ⟨rfl, hb⟩; replace T := hide ((unhide T).on hb); replace U := hide ((unhide U).on hb); clear hb ZM) | (go_at_call 15; refine ((unhide ZK) _ (unhide U).k).mono ?_; rintro e wq ⟨rfl, hb⟩; replace T := hide ((unhide T).on hb); replace U := hide ((unhide U).on hb); clear hb ZK))
                      go_roundw
                      case rel => exact ⟨k + 1, by go_num, by omega, T, U⟩
                      case measure => simp [intOf]; omega
                    · have jK : ¬ (K.length : Int) ≤ 1000 := by omega
                      clear ZK XK
                      go_wp2_with (first | (go_at_call 15; refine ((unhide ZJ) _ (unhide U).j).mono ?_; rintro e wq ⟨rfl, hb⟩; replace T := hide ((unhide T).on hb); replace U := hide ((unhide U).on hb); clear hb ZJ) | (go_at_call 15; refine ((unhide ZM) _ (unhide U).m).mono ?_; rintro e wq ⟨rfl, hb⟩; replace T := hide ((unhide T).on hb); replace U := hide ((unhide U).on hb); clear hb ZM))
                      go_roundw
                      case rel => exact ⟨k + 1, by go_num, by omega, T, U⟩
                      case measure => simp [intOf]; omega
                  · have jM : ¬ (M.length : Int) ≤ 1000 := by omega
                    clear ZM XM
                    by_cases lK1 : K.length ≤ 1000
                    · have qK : hasB K p = true := (unhide XK) lK1
                      rw [qK] at ZK
                      have jK : (K.length : Int) ≤ 1000 := by omega
                      clear qK XK
                      go_wp2_with (first | (go_at_call 15; refine ((unhide ZJ) _ (unhide U).j).mono ?_; rintro e wq ⟨rfl, hb⟩; replace T := hide ((unhide T).on hb); replace U := hide ((unhide U).on hb); clear hb ZJ) | (go_at_call 15; refine ((unhide ZK) _ (unhide U).k).mono ?_; rintro e wq ⟨rfl, hb⟩; replace T := hide ((unhide T).on hb); replace U := hide ((unhide U).on hb); clear hb ZK))
                      go_roundw
                      case rel => exact ⟨k + 1, by go_num, by omega, T, U⟩
                      case measure => simp [intOf]; omega
                    · have jK : ¬ (K.length : Int) ≤ 1000 := by omega
                      clear ZK XK
                      go_wp2_with (first | (go_at_call 15; refine ((unhide ZJ) _ (unhide U).j).mono ?_; rintro e wq ⟨rfl, hb⟩; replace T := hide ((unhide T).on hb); replace U := hide ((unhide U).on hb); clear hb ZJ))
                      go_roundw
                      case rel => exact ⟨k + 1, by go_num, by omega, T, U⟩
                      case measure => simp [intOf]; omega
                · have jJ : ¬ (J.length : Int) ≤ 1000 := by omega
                  clear ZJ XJ
                  by_cases lM1 : M.length ≤ 1000
                  · have qM : hasB M p = false := (unhide XM) lM1
                    rw [qM] at ZM
                    have jM : (M.length : Int) ≤ 1000 := by omega
                    clear qM XM
                    by_cases lK1 : K.length ≤ 1000
                    · have qK : hasB K p = true := (unhide XK) lK1
                      rw [qK] at ZK
                      have jK : (K.length : Int) ≤ 1000 := by omega
                      clear qK XK
                      go_wp2_with (first | (go_at_call 15; refine ((unhide ZM) _ (unhide U).m).mono ?_; rintro e wq ⟨rfl, hb⟩; replace T := hide ((unhide T).on hb); replace U := hide ((unhide U).on hb); clear hb ZM) | (go_at_call 15; refine ((unhide ZK) _ (unhide U).k).mono ?_; rintro e wq ⟨rfl, hb⟩; replace T := hide ((unhide T).on hb); replace U := hide ((unhide U).on hb); clear hb ZK))
                      go_roundw
                      case rel => exact ⟨k + 1, by go_num, by omega, T, U⟩
                      case measure => simp [intOf]; omega
                    · have jK : ¬ (K.length : Int) ≤ 1000 := by omega
                      clear ZK XK
                      go_wp2_with (first | (go_at_call 15; refine ((unhide ZM) _ (unhide U).m).mono ?_; rintro e wq ⟨rfl, hb⟩; replace T := hide ((unhide T).on hb); replace U := hide ((unhide U).on hb); clear hb ZM))
                      go_roundw
                      case rel => exact ⟨k + 1, by go_num, by omega, T, U⟩
                      case measure => simp [intOf]; omega
                  · have jM : ¬ (M.length : Int) ≤ 1000 := by omega
                    clear ZM XM
                    by_cases lK1 : K.length ≤ 1000
                    · have qK : hasB K p = true := (unhide XK) lK1
                      rw [qK] at ZK
                      have jK : (K.length : Int) ≤ 1000 := by omega
                      clear qK XK
                      go_wp2_with (first | (go_at_call 15; refine ((unhide ZK) _ (unhide U).k).mono ?_; rintro e wq ⟨rfl, hb⟩; replace T := hide ((unhide T).on hb); replace U := hide ((unhide U).on hb); clear hb ZK))
                      go_roundw
                      case rel => exact ⟨k + 1, by go_num, by omega, T, U⟩
                      case measure => simp [intOf]; omega
                    · have jK : ¬ (K.length : Int) ≤ 1000 := by omega
                      clear ZK XK
                      go_wp2
                      go_roundw
                      case rel => exact ⟨k + 1, by go_num, by omega, T, U⟩
                      case measure => simp [intOf]; omega
              · by_cases lJ1 : J.length ≤ 1000
                · have qJ : hasB J p = true := (unhide XJ) lJ1
                  rw [qJ] at ZJ
                  have jJ : (J.length : Int) ≤ 1000 := by omega
                  clear qJ XJ
                  by_cases lM1 : M.length ≤ 1000
                  · have qM : hasB M p = true := (unhide XM) lM1
                    rw [qM] at ZM
                    have jM : (M.length : Int) ≤ 1000 := by omega
                    clear qM XM
                    by_cases lK1 : K.length ≤ 1000
                    · have qK : hasB K p = false := (unhide XK) lK1
                      rw [qK] at ZK
                      have jK : (K.length : Int) ≤ 1000 := by omega
                      clear qK XK
                      go_wp2_with (first | (go_at_call 15; refine ((unhide ZJ) _ (unhide U).j).mono ?_; rintro e wq ⟨rfl, hb⟩; replace T := hide ((unhide T).on hb); replace U := hide ((unhide U).on hb); clear hb ZJ) | (go_at_call 15; refine ((unhide ZM) _ (unhide U).m).mono ?_; rintro e wq ⟨rfl, hb⟩; replace T := hide ((unhide T).on hb); replace U := hide ((unhide U).on hb); clear hb ZM) | (go_at_call 15; refine ((unhide ZK) _ (unhide U).k).mono ?_; rintro e wq ⟨rfl, hb⟩; replace T := hide ((unhide T).on hb); replace U := hide ((unhide U).on hb); clear hb ZK))
                      go_roundw
                      case rel => exact ⟨k + 1, by go_num, by omega, T, U⟩
                      case measure => simp [intOf]; omega
                    · have jK : ¬ (K.length : Int) ≤ 1000 := by omega
                      clear ZK XK
                      go_wp2_with (first | (go_at_call 15; refine ((unhide ZJ) _ (unhide U).j).mono ?_; rintro e wq ⟨rfl, hb⟩; replace T := hide ((unhide T).on hb); replace U := hide ((unhide U).on hb); clear hb ZJ) | (go_at_call 15; refine ((unhide ZM) _ (unhide U).m).mono ?_; rintro e wq ⟨rfl, hb⟩; replace T := hide ((unhide T).on hb); replace U := hide ((unhide U).on hb); clear hb ZM))
                      go_roundw
                      case rel => exact ⟨k + 1, by go_num, by omega, T, U⟩
                      case measure => simp [intOf]; omega
                  · have jM : ¬ (M.length : Int) ≤ 1000 := by omega
                    clear ZM XM
                    by_cases lK1 : K.length ≤ 1000
                    · have qK : hasB K p = false := (unhide XK) lK1
                      rw [qK] at ZK
                      have jK : (K.length : Int) ≤ 1000 := by omega
                      clear qK XK
                      go_wp2_with (first | (go_at_call 15; refine ((unhide ZJ) _ (unhide U).j).mono ?_; rintro e wq ⟨rfl, hb⟩; replace T := hide ((unhide T).on hb); replace U := hide ((unhide U).on hb); clear hb ZJ) | (go_at_call 15; refine ((unhide ZK) _ (unhide U).k).mono ?_; rintro e wq ⟨rfl, hb⟩; replace T := hide ((unhide T).on hb); replace U := hide ((unhide U).on hb); clear hb ZK))
                      go_roundw
                      case rel => exact ⟨k + 1, by go_num, by omega, T, U⟩
                      case measure => simp [intOf]; omega
                    · have jK : ¬ (K.length : Int) ≤ 1000 := by omega
                      clear ZK XK
                      go_wp2_with (first | (go_at_call 15; refine ((unhide ZJ) _ (unhide U).j).mono ?_; rintro e wq ⟨rfl, hb⟩; replace T := hide ((unhide T).on hb); replace U := hide ((unhide U).on hb); clear hb ZJ))
                      go_roundw
                      case rel => exact ⟨k + 1, by go_num, by omega, T, U⟩
                      case measure => simp [intOf]; omega
                · have jJ : ¬ (J.length : Int) ≤ 1000 := by omega
                  clear ZJ XJ
                  by_cases lM1 : M.length ≤ 1000
                  · have qM : hasB M p = true := (unhide XM) lM1
                    rw [qM] at ZM
                    have jM : (M.length : Int) ≤ 1000 := by omega
                    clear qM XM
                    by_cases lK1 : K.length ≤ 1000
                    · have qK : hasB K p = false := (unhide XK) lK1
                      rw [qK] at ZK
                      have jK : (K.length : Int) ≤ 1000 := by omega
                      clear qK XK
                      go_wp2_with (first | (go_at_call 15; refine ((unhide ZM) _ (unhide U).m).mono ?_; rintro e wq ⟨rfl, hb⟩; replace T := hide ((unhide T).on hb); replace U := hide ((unhide U).on hb); clear hb ZM) | (go_at_call 15; refine ((unhide ZK) _ (unhide U).k).mono ?_; rintro e wq ⟨rfl, hb⟩; replace T := hide ((unhide T).on hb); replace U := hide ((unhide U).on hb); clear hb ZK))
                      go_roundw
                      case rel => exact ⟨k + 1, by go_num, by omega, T, U⟩
                      case measure => simp [intOf]; omega
                    · have jK : ¬ (K.length : Int) ≤ 1000 := by omega
                      clear ZK XK
                      go_wp2_with (first | (go_at_call 15; refine ((unhide ZM) _ (unhide U).m).mono ?_; rintro e wq ⟨rfl, hb⟩; replace T := hide ((unhide T).on hb); replace U := hide ((unhide U).on hb); clear hb ZM))
                      go_roundw
                      case rel => exact ⟨k + 1, by go_num, by omega, T, U⟩
                      case measure => simp [intOf]; omega
                  · have jM : ¬ (M.length : Int) ≤ 1000 := by omega
                    clear ZM XM
                    by_cases lK1 : K.length ≤ 1000
                    · have qK : hasB K p = false := (unhide XK) lK1
                      rw [qK] at ZK
                      have jK : (K.length : Int) ≤ 1000 := by omega
                      clear qK XK
                      go_wp2_with (first | (go_at_call 15; refine ((unhide ZK) _ (unhide U).k).mono ?_; rintro e wq ⟨rfl, hb⟩; replace T := hide ((unhide T).on hb); replace U := hide ((unhide U).on hb); clear hb ZK))
                      go_roundw
                      case rel => exact ⟨k + 1, by go_num, by omega, T, U⟩
                      case measure => simp [intOf]; omega
                    · have jK : ¬ (K.length : Int) ≤ 1000 := by omega
                      clear ZK XK
                      go_wp2
                      go_roundw
                      case rel => exact ⟨k + 1, by go_num, by omega, T, U⟩
                      case measure => simp [intOf]; omega
            · obtain rfl : k = 8 := by omega
              have TJ := hide (fun N (h : SetOf 0 C A N) => (set_turn (.inl rfl) (unhide HJ) h).symm)
              have TM := hide (fun N (h : SetOf 1 C A N) => (set_turn (.inr rfl) (unhide HM) h).symm)
              have FI := hide (fun W h => implFault (.slice xJ J.length yJ) J w.heap.size W h (by omega))
              have FS := hide (fun W h => specFault (.slice xJ J.length yJ) J w.heap.size W h (by omega))
              clear PJ PM PK HA HC IJ IM IK C40 C41 HJ HM HK
              go_wp2_with fail
              refine ((unhide EJ) _ (unhide T).b (unhide T).a).mono ?_
              rintro e wa ⟨v', N, rfl, hN, lN, sN, hb⟩
              have eN := (unhide TJ) N hN
              subst eN
              replace T := hide ((unhide T).on hb)
              replace U := hide ((unhide U).on hb)
              have S' := hide sN
              obtain ⟨xn, yn, rfl, _⟩ := sN.form
              clear hN sN hb EJ TJ
              go_wp2_with fail
              refine ((unhide LS) _ _ _ _ _ _ (unhide U).j (unhide S') (by omega)).mono ?_
              rintro e wb ⟨rfl, hb⟩
              replace T := hide ((unhide T).on hb)
              replace U := hide ((unhide U).on hb)
              clear hb S'
              go_wp2_with fail
              refine ((unhide EM) _ (unhide T).b (unhide T).a).mono ?_
              rintro e wc ⟨v', N, rfl, hN, lN2, sN, hb⟩
              have eN := (unhide TM) N hN
              subst eN
              replace T := hide ((unhide T).on hb)
              replace U := hide ((unhide U).on hb)
              have S' := hide sN
              obtain ⟨xn2, yn2, rfl, _⟩ := sN.form
              clear hN sN hb EM TM
              go_wp2_with fail
              refine ((unhide LS) _ _ _ _ _ _ (unhide U).m (unhide S') (by omega)).mono ?_
              rintro e wd ⟨rfl, hb⟩
              replace T := hide ((unhide T).on hb)
              replace U := hide ((unhide U).on hb)
              clear hb S'
              generalize faultOf J = F at *
              have hFF : (F == F) = true := by simp
              go_wp2_with fail
              refine ((unhide FI) _ (unhide U).j).mono ?_
              rintro e we ⟨rfl, hb⟩
              replace T := hide ((unhide T).on hb)
              replace U := hide ((unhide U).on hb)
              clear hb FI
              go_wp2_with fail
              refine ((unhide FS) _ (unhide U).j).mono ?_
              rintro e wf ⟨rfl, hb⟩
              replace T := hide ((unhide T).on hb)
              clear hb FS
              go_wp2
              go_ret
              exact ⟨rfl, (unhide T).be⟩
end Go.Proofs.Ytfcabmpklcmbgaa.Fs
