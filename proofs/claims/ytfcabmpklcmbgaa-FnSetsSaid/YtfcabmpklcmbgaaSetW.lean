/- Sets joined, met, taken away: the program's merging walked. -/
import Derived.Test.YtfcabmpklcmbgaaSetX
namespace Go.Proofs.Ytfcabmpklcmbgaa
open Go.RowKit
set_option maxHeartbeats 16000000 in
set_option maxRecDepth 100000 in
theorem merge0 (va vb : Value) (A C : List Sp) (B1 B2 : Nat) (w : World) (h1 : SpRow w B1 va A) (h2 : SpRow w B2 vb C) (lA : A.length ≤ 1048576) (lC : C.length ≤ 1048576) :
    Calls Try.prog 19 #[va, vb, .func (.func 20) #[] #[]] w fun e w' => ∃ (sv : Value) (M : List Sp), e = .returned sv ∧ SetOf 0 A C M ∧ M.length ≤ 32768 ∧ SpRow w' w.heap.size sv M ∧ Below w.heap.size w w' := by
  have H1 := hide h1
  have H2 := hide h2
  obtain ⟨aa, ca, rfl, _⟩ := h1.form
  obtain ⟨ab, cb, rfl, _⟩ := h2.form
  clear h1 h2
  cases hA : right A
  · have hf := fault_wrong' hA
    have HN : Hid (SetOf 0 A C []) := hide (.inr ⟨by rw [hA]; simp, rfl⟩)
    go_enter Try.func19, Try.ntmps19
    go_wp2_with fail
    refine (implFault _ A _ _ (unhide H1) lA).mono ?_
    rintro e w1 ⟨rfl, hb⟩
    rw [hf]
    have W1 := hide hb
    clear hb
    go_wp2
    go_ret
    exact ⟨_, [], rfl, unhide HN, by simp, World.ownsRow_nil _ _ _ _, unhide W1⟩
  · have hfA := fault_right' hA
    cases hC : right C
    · have hf := fault_wrong' hC
      have HN : Hid (SetOf 0 A C []) := hide (.inr ⟨by rw [hC]; simp, rfl⟩)
      go_enter Try.func19, Try.ntmps19
      go_wp2_with fail
      refine (implFault _ A _ _ (unhide H1) lA).mono ?_
      rintro e w1 ⟨rfl, hb⟩
      rw [hfA]
      have W1 := hide hb
      clear hb
      go_wp2_with fail
      refine (implFault _ C _ _ ((unhide H2).below (unhide W1)) lC).mono ?_
      rintro e w2 ⟨rfl, hb⟩
      rw [hf]
      have W2 := hide ((unhide W1).trans (hb.mono (unhide W1).size))
      clear hb
      go_wp2
      go_ret
      exact ⟨_, [], rfl, unhide HN, by simp, World.ownsRow_nil _ _ _ _, unhide W2⟩
    · have hfC := fault_right' hC
      have HA := hide hA
      have HC := hide hC
      have lA' := (right_ok hA).1
      have lC' := (right_ok hC).1
      clear hA hC
      go_enter Try.func19, Try.ntmps19
      go_wp2_with fail
      refine (implFault _ A _ _ (unhide H1) lA).mono ?_
      rintro e w1 ⟨rfl, hb⟩
      rw [hfA]
      have W1 := hide hb
      clear hb
      go_wp2_with fail
      refine (implFault _ C _ _ ((unhide H2).below (unhide W1)) lC).mono ?_
      rintro e w2 ⟨rfl, hb⟩
      rw [hfC]
      have W2 := hide ((unhide W1).trans (hb.mono (unhide W1).size))
      clear hb W1
      go_upto_region 5 with fail
      have BL0 := hide ((Box.new w2 (.slice aa A.length ca) (.int .i64 0) 46).alloc (.cells #[.slice ab C.length cb, .int .i64 0] 46))
      have BR0 := hide (Box.new (w2.alloc (.cells #[.slice aa A.length ca, .int .i64 0] 46)) (.slice ab C.length cb) (.int .i64 0) 46)
      have W3 := hide (((unhide W2).alloc (unhide W2).size (.cells #[.slice aa A.length ca, .int .i64 0] 46)).alloc (by have := (unhide W2).size; simp; omega) (.cells #[.slice ab C.length cb, .int .i64 0] 46))
      have hs3 : ((w2.alloc (.cells #[.slice aa A.length ca, .int .i64 0] 46)).alloc (.cells #[.slice ab C.length cb, .int .i64 0] 46)).heap.size = w2.heap.size + 2 := by simp
      simp only [World.size_alloc] at BR0
      have hw2 := (unhide W2).size
      clear W2
      generalize (w2.alloc (.cells #[.slice aa A.length ca, .int .i64 0] 46)).alloc (.cells #[.slice ab C.length cb, .int .i64 0] 46) = w3 at *
      generalize w2.heap.size = gl at *
      have S3 := hide hs3
      clear hs3
      have hwm : IntKind.i64.wrap ((A.length : Int) + (C.length : Int)) = (A.length : Int) + (C.length : Int) := wrap_in _ (by omega) (by omega)
      have hwm2 : IntKind.i64.wrap (2 * ((A.length : Int) + (C.length : Int))) = 2 * ((A.length : Int) + (C.length : Int)) := wrap_in _ (by omega) (by omega)
      have I0 : Hid (MI 0 A C [] 0 0 0 0) := hide ⟨Nat.zero_le _, Nat.zero_le _, rfl, .inl rfl, edge_nonneg (unhide HA) 0 (Nat.zero_le _), .inl rfl, edge_nonneg (unhide HC) 0 (Nat.zero_le _), by omega, by omega, ⟨by omega, fun p a c => by omega⟩, by simp⟩
      go_wp2
      go_loopw [7, 10, 30] (fun sv bv kv wr => ∃ (M : List Sp) (i j k : Nat) (b : Int), k ≤ 2 * (A.length + C.length) ∧ kv = .int .i64 k ∧ bv = .int .i64 b ∧ Hid (MI 0 A C M i j k b) ∧ Hid (SpRow wr (gl + 2) sv M) ∧ Hid (Box wr gl (.slice aa A.length ca) (.int .i64 i)) ∧ Hid (Box wr (gl + 1) (.slice ab C.length cb) (.int .i64 j)) ∧ Hid (Below w.heap.size w wr) ∧ Hid (gl + 2 ≤ wr.heap.size)) (fun _ _ k _ => 2 * (A.length + C.length) - (intOf k).toNat)
      case atStart => exact ⟨[], 0, 0, 0, 0, Nat.zero_le _, rfl, rfl, I0, hide (World.ownsRow_nil _ _ _ _), BL0, BR0, W3, hide (by have := unhide S3; omega)⟩
      case round =>
        obtain ⟨M, i, j, k, b, hk, rfl, rfl, I, SR, BL, BR, W, Z⟩ := hrel
        clear I0 BL0 BR0 W3
        by_cases hlt : k < 2 * (A.length + C.length)
        · have hlt' : (k : Int) < 2 * ((A.length : Int) + (C.length : Int)) := by omega
          have hi := (unhide I).hi
          have hj := (unhide I).hj
          have RA := hide ((unhide H1).below (unhide W))
          have RC := hide ((unhide H2).below (unhide W))
          obtain ⟨x, hx⟩ : ∃ x, edge A i = x := ⟨_, rfl⟩
          obtain ⟨y, hy⟩ : ∃ y, edge C j = y := ⟨_, rfl⟩
          have HX := hide hx
          have HY := hide hy
          have hbx : b ≤ x := by have := (unhide I).a2; omega
          have hby : b ≤ y := by have := (unhide I).c2; omega
          have hb0 := (unhide I).b0
          have hx9 : x ≤ 32769 := by rw [← hx]; exact edge_le (unhide HA) i hi
          have hy9 : y ≤ 32769 := by rw [← hy]; exact edge_le (unhide HC) j hj
          clear hx hy
          obtain ⟨en, hen⟩ : ∃ en : Int, en = if x ≤ y then x else y := ⟨_, rfl⟩
          have HEN := hide hen
          have hex : en ≤ x ∧ en ≤ y ∧ b ≤ en ∧ 0 ≤ en := by
            rw [hen]
            split <;> omega
          obtain ⟨hex, hey, hbe, he0⟩ := hex
          clear hen
          have CA : Hid (∀ W, Below wr.heap.size wr W → Calls Try.prog 28 #[.agg #[.slice aa A.length ca, .int .i64 i]] W fun e w' => e = .returned (.int .i64 x) ∧ Below wr.heap.size wr w') := hide (fun W hW => (next_any _ A i B1 W ((unhide RA).below hW) (unhide HA) hi).mono (fun e w' ⟨he, hb⟩ => ⟨by rw [he, unhide HX], hW.trans (hb.mono hW.size)⟩))
          have CC : Hid (∀ W, Below wr.heap.size wr W → Calls Try.prog 28 #[.agg #[.slice ab C.length cb, .int .i64 j]] W fun e w' => e = .returned (.int .i64 y) ∧ Below wr.heap.size wr w') := hide (fun W hW => (next_any _ C j B2 W ((unhide RC).below hW) (unhide HC) hj).mono (fun e w' ⟨he, hb⟩ => ⟨by rw [he, unhide HY], hW.trans (hb.mono hW.size)⟩))
          go_upto_region 8 with fail
          go_cut [11] (fun v wx => v = .int .i64 en ∧ Hid (Below wr.heap.size wr wx))
          case first =>
            obtain ⟨⟨l0, l1⟩, _, _⟩ := unhide BL
            obtain ⟨⟨r0, r1⟩, _, _⟩ := unhide BR
            have TOK : Hid True := hide trivial
            by_cases hxy : x ≤ y
            · have HE : Hid (en = x) := hide (by rw [unhide HEN, if_pos hxy])
              go_region_with (first
                | (go_at_call_of 28 aa; clear TOK; refine ((unhide CA) _ ?_).mono ?_; (first | exact Below.refl _ _ | exact unhide T5 | exact bdrew1' (Below.refl _ _) | exact bdrew1' (unhide T5) | exact bdrew1' (bdrew1' (Below.refl _ _)) | exact bdrew1' (bdrew1' (unhide T5))); rintro e w5 ⟨rfl, hb⟩; have T5 : Hid (Below wr.heap.size wr w5) := hide hb; obtain ⟨⟨l0, l1⟩, _, _⟩ := (unhide BL).below (unhide T5); obtain ⟨⟨r0, r1⟩, _, _⟩ := (unhide BR).below (unhide T5); clear hb)
                | (go_at_call_of 28 ab; clear TOK; refine ((unhide CC) _ ?_).mono ?_; (first | exact Below.refl _ _ | exact unhide T5 | exact bdrew1' (Below.refl _ _) | exact bdrew1' (unhide T5) | exact bdrew1' (bdrew1' (Below.refl _ _)) | exact bdrew1' (bdrew1' (unhide T5))); rintro e w5 ⟨rfl, hb⟩; have T5 : Hid (Below wr.heap.size wr w5) := hide hb; obtain ⟨⟨l0, l1⟩, _, _⟩ := (unhide BL).below (unhide T5); obtain ⟨⟨r0, r1⟩, _, _⟩ := (unhide BR).below (unhide T5); clear hb)
                | (go_at_call_of 28 aa; refine ((unhide CA) _ ?_).mono ?_; (first | exact Below.refl _ _ | exact unhide T5 | exact bdrew1' (Below.refl _ _) | exact bdrew1' (unhide T5) | exact bdrew1' (bdrew1' (Below.refl _ _)) | exact bdrew1' (bdrew1' (unhide T5))); rintro e w6 ⟨rfl, hb⟩; have T6 : Hid (Below wr.heap.size wr w6) := hide hb; obtain ⟨⟨l0, l1⟩, _, _⟩ := (unhide BL).below (unhide T6); obtain ⟨⟨r0, r1⟩, _, _⟩ := (unhide BR).below (unhide T6); clear hb)
                | (go_at_call_of 28 ab; refine ((unhide CC) _ ?_).mono ?_; (first | exact Below.refl _ _ | exact unhide T5 | exact bdrew1' (Below.refl _ _) | exact bdrew1' (unhide T5) | exact bdrew1' (bdrew1' (Below.refl _ _)) | exact bdrew1' (bdrew1' (unhide T5))); rintro e w6 ⟨rfl, hb⟩; have T6 : Hid (Below wr.heap.size wr w6) := hide hb; obtain ⟨⟨l0, l1⟩, _, _⟩ := (unhide BL).below (unhide T6); obtain ⟨⟨r0, r1⟩, _, _⟩ := (unhide BR).below (unhide T6); clear hb))
              all_goals
                go_wp2_with fail
                go_meet
                exact ⟨by rw [unhide HE], T6⟩
            · have HE : Hid (en = y) := hide (by rw [unhide HEN, if_neg hxy])
              go_region_with (first | (go_at_call_of 28 aa; clear TOK; refine ((unhide CA) _ ?_).mono ?_; (first | exact Below.refl _ _ | exact unhide T5 | exact bdrew1' (Below.refl _ _) | exact bdrew1' (unhide T5) | exact bdrew1' (bdrew1' (Below.refl _ _)) | exact bdrew1' (bdrew1' (unhide T5))); rintro e w5 ⟨rfl, hb⟩; have T5 : Hid (Below wr.heap.size wr w5) := hide hb; obtain ⟨⟨l0, l1⟩, _, _⟩ := (unhide BL).below (unhide T5); obtain ⟨⟨r0, r1⟩, _, _⟩ := (unhide BR).below (unhide T5); clear hb) | (go_at_call_of 28 ab; clear TOK; refine ((unhide CC) _ ?_).mono ?_; (first | exact Below.refl _ _ | exact unhide T5 | exact bdrew1' (Below.refl _ _) | exact bdrew1' (unhide T5) | exact bdrew1' (bdrew1' (Below.refl _ _)) | exact bdrew1' (bdrew1' (unhide T5))); rintro e w5 ⟨rfl, hb⟩; have T5 : Hid (Below wr.heap.size wr w5) := hide hb; obtain ⟨⟨l0, l1⟩, _, _⟩ := (unhide BL).below (unhide T5); obtain ⟨⟨r0, r1⟩, _, _⟩ := (unhide BR).below (unhide T5); clear hb) | (go_at_call_of 28 aa; refine ((unhide CA) _ ?_).mono ?_; (first | exact Below.refl _ _ | exact unhide T5 | exact bdrew1' (Below.refl _ _) | exact bdrew1' (unhide T5) | exact bdrew1' (bdrew1' (Below.refl _ _)) | exact bdrew1' (bdrew1' (unhide T5))); rintro e w6 ⟨rfl, hb⟩; have T6 : Hid (Below wr.heap.size wr w6) := hide hb; obtain ⟨⟨l0, l1⟩, _, _⟩ := (unhide BL).below (unhide T6); obtain ⟨⟨r0, r1⟩, _, _⟩ := (unhide BR).below (unhide T6); clear hb) | (go_at_call_of 28 ab; refine ((unhide CC) _ ?_).mono ?_; (first | exact Below.refl _ _ | exact unhide T5 | exact bdrew1' (Below.refl _ _) | exact bdrew1' (unhide T5) | exact bdrew1' (bdrew1' (Below.refl _ _)) | exact bdrew1' (bdrew1' (unhide T5))); rintro e w6 ⟨rfl, hb⟩; have T6 : Hid (Below wr.heap.size wr w6) := hide hb; obtain ⟨⟨l0, l1⟩, _, _⟩ := (unhide BL).below (unhide T6); obtain ⟨⟨r0, r1⟩, _, _⟩ := (unhide BR).below (unhide T6); clear hb))
              all_goals
                go_wp2_with fail
                go_meet
                exact ⟨by rw [unhide HE], T6⟩
          case rest =>
            obtain ⟨rfl, TC⟩ := hcut
            have CIA : Hid (∀ W, Below wr.heap.size wr W → Calls Try.prog 29 #[.agg #[.slice aa A.length ca, .int .i64 i]] W fun e w' => e = .returned (.bool (odd i)) ∧ Below wr.heap.size wr w') := hide (fun W hW => (inside_any aa A.length ca i W (by omega)).mono (fun e w' ⟨he, hw⟩ => ⟨he, by rw [hw]; exact hW.alloc hW.size _⟩))
            have CIC : Hid (∀ W, Below wr.heap.size wr W → Calls Try.prog 29 #[.agg #[.slice ab C.length cb, .int .i64 j]] W fun e w' => e = .returned (.bool (odd j)) ∧ Below wr.heap.size wr w') := hide (fun W hW => (inside_any ab C.length cb j W (by omega)).mono (fun e w' ⟨he, hw⟩ => ⟨he, by rw [hw]; exact hW.alloc hW.size _⟩))
            have CK : Hid (∀ W, Calls Try.prog 20 #[.bool (odd i), .bool (odd j)] W fun e w' => e = .returned (.bool (comb 0 (odd i) (odd j))) ∧ w' = W) := hide (fun W => keep0 _ _ W)
            have HST := hide (MI.set (unhide HA) (unhide HC) (unhide I) (by rw [unhide HX]; exact hex) (by rw [unhide HY]; exact hey) hbe)
            have HBD := hide (sets_bd (unhide I).st)
            have hMl := (unhide I).len
            have hb1 := (unhide I).b1
            generalize comb 0 (odd i) (odd j) = cv at *
            generalize odd i = oi at *
            generalize odd j = oj at *
            go_upto_region 9 with fail
            go_cut [47] (fun v wx => v = .bool (decide (b < en) && cv) ∧ Hid (Below wr.heap.size wr wx))
            case first =>
              obtain ⟨⟨l0, l1⟩, _, _⟩ := (unhide BL).below (unhide TC)
              obtain ⟨⟨r0, r1⟩, _, _⟩ := (unhide BR).below (unhide TC)
              have TOK : Hid True := hide trivial
              have hU : undef = Value.tuple #[] := rfl
              by_cases hbl : b < en
              · have HQ : Hid ((decide (b < en) && cv) = cv) := hide (by rw [decide_eq_true hbl]; rfl)
                first | (go_region_with (first | (go_at_call_of 29 aa; clear TOK; refine ((unhide CIA) _ ?_).mono ?_; (first | exact unhide TC | exact unhide T5 | exact bdrew1' (unhide TC) | exact bdrew1' (unhide T5) | exact bdrew1' (bdrew1' (unhide TC)) | exact bdrew1' (bdrew1' (unhide T5))); rintro e w5 ⟨rfl, hb⟩; have T5 : Hid (Below wr.heap.size wr w5) := hide hb; obtain ⟨⟨l0, l1⟩, _, _⟩ := (unhide BL).below (unhide T5); obtain ⟨⟨r0, r1⟩, _, _⟩ := (unhide BR).below (unhide T5); clear hb) | (go_at_call_of 29 ab; clear TOK; refine ((unhide CIC) _ ?_).mono ?_; (first | exact unhide TC | exact unhide T5 | exact bdrew1' (unhide TC) | exact bdrew1' (unhide T5) | exact bdrew1' (bdrew1' (unhide TC)) | exact bdrew1' (bdrew1' (unhide T5))); rintro e w5 ⟨rfl, hb⟩; have T5 : Hid (Below wr.heap.size wr w5) := hide hb; obtain ⟨⟨l0, l1⟩, _, _⟩ := (unhide BL).below (unhide T5); obtain ⟨⟨r0, r1⟩, _, _⟩ := (unhide BR).below (unhide T5); clear hb) | (go_at_call_of 29 aa; refine ((unhide CIA) _ ?_).mono ?_; (first | exact unhide TC | exact unhide T5 | exact bdrew1' (unhide TC) | exact bdrew1' (unhide T5) | exact bdrew1' (bdrew1' (unhide TC)) | exact bdrew1' (bdrew1' (unhide T5))); rintro e w6 ⟨rfl, hb⟩; have T6 : Hid (Below wr.heap.size wr w6) := hide hb; obtain ⟨⟨l0, l1⟩, _, _⟩ := (unhide BL).below (unhide T6); obtain ⟨⟨r0, r1⟩, _, _⟩ := (unhide BR).below (unhide T6); clear hb) | (go_at_call_of 29 ab; refine ((unhide CIC) _ ?_).mono ?_; (first | exact unhide TC | exact unhide T5 | exact bdrew1' (unhide TC) | exact bdrew1' (unhide T5) | exact bdrew1' (bdrew1' (unhide TC)) | exact bdrew1' (bdrew1' (unhide T5))); rintro e w6 ⟨rfl, hb⟩; have T6 : Hid (Below wr.heap.size wr w6) := hide hb; obtain ⟨⟨l0, l1⟩, _, _⟩ := (unhide BL).below (unhide T6); obtain ⟨⟨r0, r1⟩, _, _⟩ := (unhide BR).below (unhide T6); clear hb) | (go_at_call 20; refine ((unhide CK) _).mono ?_; rintro e w8 ⟨rfl, hw8⟩; have hw9 := hw8; clear hw8; subst hw9))) | fail
                all_goals
                  go_wp2_with fail
                  go_meet
                  exact ⟨by rw [unhide HQ], T6⟩
              · have HQ : Hid ((decide (b < en) && cv) = false) := hide (by rw [decide_eq_false hbl]; rfl)
                go_quiet (fail)
                go_wp2_with fail
                go_meet
                exact ⟨by rw [unhide HQ], hide (bdrew (unhide TC) _)⟩
            case rest =>
              obtain ⟨rfl, TD⟩ := hcut
              have BL7 := hide ((unhide BL).below (unhide TD))
              have BR7 := hide ((unhide BR).below (unhide TD))
              have SR7 := hide ((unhide SR).below (unhide TD))
              have W7 := hide ((unhide W).trans ((unhide TD).mono (unhide W).size))
              have Z7 : gl + 2 ≤ wc.heap.size := Nat.le_trans (unhide Z) (unhide TD).size
              have hgw : w.heap.size ≤ gl + 2 := by omega
              have CA2 : Hid (∀ W, Below w.heap.size w W → Calls Try.prog 28 #[.agg #[.slice aa A.length ca, .int .i64 i]] W fun e w' => e = .returned (.int .i64 x) ∧ Below W.heap.size W w') := hide (fun W hW => (next_any _ A i B1 W ((unhide H1).below hW) (unhide HA) hi).mono (fun e w' ⟨he, hb⟩ => ⟨by rw [he, unhide HX], hb⟩))
              have hewr : IntKind.i64.wrap (en - 1) = en - 1 := wrap_in _ (by omega) (by omega)
              have hiw : IntKind.i64.wrap ((i : Int) + 1) = (i : Int) + 1 := wrap_in _ (by omega) (by omega)
              have hjw : IntKind.i64.wrap ((j : Int) + 1) = (j : Int) + 1 := wrap_in _ (by omega) (by omega)
              clear BL BR SR W Z RA RC CA CC CIA CIC CK TD TC
              cases hq : (decide (b < en) && cv)
              · have ST : Hid (SetsR (fS 0 A C) M.reverse en) := hide (by have := unhide HST; rw [hq, if_neg (by decide)] at this; exact this)
                have hMl8 : M.length ≤ k + 1 := by omega
                have BL8 := BL7
                have BR8 := BR7
                have SR8 := SR7
                have W8 := W7
                have Z8 := Z7
                clear BL7 BR7 SR7 W7
                obtain ⟨⟨l0, l1⟩, _, _⟩ := unhide BL8
                go_wp2_with fail
                refine ((unhide CA2) _ (unhide W8)).mono ?_
                rintro e w9 ⟨rfl, hb⟩
                have BL9 := hide ((unhide BL8).below hb)
                have BR9 := hide ((unhide BR8).below hb)
                have SR9 := hide ((unhide SR8).below hb)
                have W9 := hide ((unhide W8).trans (hb.mono (unhide W8).size))
                have Z9 := Nat.le_trans Z8 hb.size
                clear hb BL8 BR8 SR8 W8 l0 l1
                obtain ⟨⟨l0, l1⟩, f0, f1⟩ := unhide BL9
                obtain ⟨⟨r0, r1⟩, g0, g1⟩ := unhide BR9
                by_cases hxe : x = en
                · have hxe' : (x == en) = true := by simpa using hxe
                  have I9 := hide (MI.left (unhide HA) (unhide HC) (unhide I) hlt (by rw [unhide HX]; exact hxe) (by rw [unhide HY]; exact hey) (unhide ST) hMl8)
                  have BLs : Hid (Box (w9.setCell ⟨gl, 1, none⟩ (.int .i64 ((i : Int) + 1))) gl (.slice aa A.length ca) (.int .i64 ((i + 1 : Nat) : Int))) := hide ((unhide BL9).set1)
                  have BRs : Hid (Box (w9.setCell ⟨gl, 1, none⟩ (.int .i64 ((i : Int) + 1))) (gl + 1) (.slice ab C.length cb) (.int .i64 (j : Int))) := hide ((unhide BR9).other (by omega))
                  have SRs := hide (row_other (unhide SR9) (g := gl) (j := 1) (u := .int .i64 ((i : Int) + 1)) (by omega))
                  have Ws := hide ((unhide W9).setCell (p := ⟨gl, 1, none⟩) (by show w.heap.size ≤ gl; omega) (.int .i64 ((i : Int) + 1)))
                  clear hxe I BL9 BR9 SR9 W9 HST ST
                  go_wp2
                  go_roundw
                  case rel => exact ⟨M, i + 1, j, k + 1, en, by omega, by go_num, rfl, I9, SRs, BLs, BRs, Ws, hide (by simp; exact Z9)⟩
                  case measure => simp [intOf]; omega
                · have hxe' : (x == en) = false := by simpa using hxe
                  have hye : en = y := by
                    have := unhide HEN
                    by_cases q : x ≤ y
                    · rw [if_pos q] at this; omega
                    · rw [if_neg q] at this; exact this
                  have I9 := hide (MI.right (unhide HA) (unhide HC) (unhide I) (by rw [unhide HX]; omega) (by rw [unhide HY]; exact hye) (unhide ST) hMl8)
                  have BLs : Hid (Box (w9.setCell ⟨gl + 1, 1, none⟩ (.int .i64 ((j : Int) + 1))) gl (.slice aa A.length ca) (.int .i64 (i : Int))) := hide ((unhide BL9).other (by omega))
                  have BRs : Hid (Box (w9.setCell ⟨gl + 1, 1, none⟩ (.int .i64 ((j : Int) + 1))) (gl + 1) (.slice ab C.length cb) (.int .i64 ((j + 1 : Nat) : Int))) := hide ((unhide BR9).set1)
                  have SRs := hide (row_other (unhide SR9) (g := gl + 1) (j := 1) (u := .int .i64 ((j : Int) + 1)) (by omega))
                  have Ws := hide ((unhide W9).setCell (p := ⟨gl + 1, 1, none⟩) (by show w.heap.size ≤ gl + 1; omega) (.int .i64 ((j : Int) + 1)))
                  clear hxe hye I BL9 BR9 SR9 W9 HST ST
                  go_wp2
                  go_roundw
                  case rel => exact ⟨M, i, j + 1, k + 1, en, by omega, by go_num, rfl, I9, SRs, BLs, BRs, Ws, hide (by simp; exact Z9)⟩
                  case measure => simp [intOf]; omega
              · have ST : Hid (SetsR (fS 0 A C) (lay M b (en - 1)).reverse en) := hide (by have := unhide HST; rw [hq, if_pos rfl] at this; exact this)
                have hMl8 : (lay M b (en - 1)).length ≤ k + 1 := Nat.le_trans (lay_len _ _ _) (by omega)
                go_wp2_with fail
                refine (layStretch_any _ M b (en - 1) (gl + 2) wc (unhide SR7) Z7 (by omega) (fun r hr => by have := (unhide HBD) r (List.mem_reverse.2 hr); omega)).mono ?_
                rintro e w8 ⟨v', rfl, hs8, hb8⟩
                have SR8 := hide hs8
                have BL8 := hide ((unhide BL7).belowB hb8 (by omega))
                have BR8 := hide ((unhide BR7).belowB hb8 (by omega))
                have W8 := hide ((unhide W7).trans (hb8.mono hgw))
                have Z8 := Nat.le_trans Z7 hb8.size
                clear hs8 hb8 BL7 BR7 SR7 W7
                obtain ⟨⟨l0, l1⟩, _, _⟩ := unhide BL8
                go_wp2_with fail
                refine ((unhide CA2) _ (unhide W8)).mono ?_
                rintro e w9 ⟨rfl, hb⟩
                have BL9 := hide ((unhide BL8).below hb)
                have BR9 := hide ((unhide BR8).below hb)
                have SR9 := hide ((unhide SR8).below hb)
                have W9 := hide ((unhide W8).trans (hb.mono (unhide W8).size))
                have Z9 := Nat.le_trans Z8 hb.size
                clear hb BL8 BR8 SR8 W8 l0 l1
                obtain ⟨⟨l0, l1⟩, f0, f1⟩ := unhide BL9
                obtain ⟨⟨r0, r1⟩, g0, g1⟩ := unhide BR9
                by_cases hxe : x = en
                · have hxe' : (x == en) = true := by simpa using hxe
                  have I9 := hide (MI.left (unhide HA) (unhide HC) (unhide I) hlt (by rw [unhide HX]; exact hxe) (by rw [unhide HY]; exact hey) (unhide ST) hMl8)
                  have BLs : Hid (Box (w9.setCell ⟨gl, 1, none⟩ (.int .i64 ((i : Int) + 1))) gl (.slice aa A.length ca) (.int .i64 ((i + 1 : Nat) : Int))) := hide ((unhide BL9).set1)
                  have BRs : Hid (Box (w9.setCell ⟨gl, 1, none⟩ (.int .i64 ((i : Int) + 1))) (gl + 1) (.slice ab C.length cb) (.int .i64 (j : Int))) := hide ((unhide BR9).other (by omega))
                  have SRs := hide (row_other (unhide SR9) (g := gl) (j := 1) (u := .int .i64 ((i : Int) + 1)) (by omega))
                  have Ws := hide ((unhide W9).setCell (p := ⟨gl, 1, none⟩) (by show w.heap.size ≤ gl; omega) (.int .i64 ((i : Int) + 1)))
                  clear hxe I BL9 BR9 SR9 W9 HST ST
                  go_wp2
                  go_roundw
                  case rel => exact ⟨lay M b (en - 1), i + 1, j, k + 1, en, by omega, by go_num, rfl, I9, SRs, BLs, BRs, Ws, hide (by simp; exact Z9)⟩
                  case measure => simp [intOf]; omega
                · have hxe' : (x == en) = false := by simpa using hxe
                  have hye : en = y := by
                    have := unhide HEN
                    by_cases q : x ≤ y
                    · rw [if_pos q] at this; omega
                    · rw [if_neg q] at this; exact this
                  have I9 := hide (MI.right (unhide HA) (unhide HC) (unhide I) (by rw [unhide HX]; omega) (by rw [unhide HY]; exact hye) (unhide ST) hMl8)
                  have BLs : Hid (Box (w9.setCell ⟨gl + 1, 1, none⟩ (.int .i64 ((j : Int) + 1))) gl (.slice aa A.length ca) (.int .i64 (i : Int))) := hide ((unhide BL9).other (by omega))
                  have BRs : Hid (Box (w9.setCell ⟨gl + 1, 1, none⟩ (.int .i64 ((j : Int) + 1))) (gl + 1) (.slice ab C.length cb) (.int .i64 ((j + 1 : Nat) : Int))) := hide ((unhide BR9).set1)
                  have SRs := hide (row_other (unhide SR9) (g := gl + 1) (j := 1) (u := .int .i64 ((j : Int) + 1)) (by omega))
                  have Ws := hide ((unhide W9).setCell (p := ⟨gl + 1, 1, none⟩) (by show w.heap.size ≤ gl + 1; omega) (.int .i64 ((j : Int) + 1)))
                  clear hxe hye I BL9 BR9 SR9 W9 HST ST
                  go_wp2
                  go_roundw
                  case rel => exact ⟨lay M b (en - 1), i, j + 1, k + 1, en, by omega, by go_num, rfl, I9, SRs, BLs, BRs, Ws, hide (by simp; exact Z9)⟩
                  case measure => simp [intOf]; omega
        · obtain rfl : k = 2 * (A.length + C.length) := by omega
          have HS := hide (mi_done (unhide HA) (unhide HC) (unhide I) rfl)
          have hMl := (unhide I).len
          have SR9 := hide (row_base (unhide SR) (show w.heap.size ≤ gl + 2 by omega))
          clear I SR
          go_wp2
          go_ret
          exact ⟨_, _, rfl, unhide HS, by omega, unhide SR9, unhide W⟩
end Go.Proofs.Ytfcabmpklcmbgaa
