/- Two stretches in order merged in place: where the second one is a single number. -/
import Derived.Test.YtnfdkcphmolkiaaSymA
namespace Go.Proofs.Ytnfdkcphmolkiaa
open Go.RowKit
theorem one_right {X : List Int} {y : Int} {p : Nat} (hX : Srt clsLt X) (h : Sought (fun c => !clsLt y (nth X c)) X.length p p) : Srt clsLt (X.take p ++ y :: X.drop p) ∧ StEq clsLt (X.take p ++ y :: X.drop p) (X ++ [y]) := by
  have hs : Srt clsLt (X.take p ++ X.drop p) := by rw [List.take_append_drop]; exact hX
  have h2 : ∀ z ∈ X.drop p, clsLt y z = true := fun z hz => by
    obtain ⟨c, hc, hl, e⟩ := mem_drop_nth hz
    rw [← e]
    simpa using h.hi c hc hl
  have h1 : ∀ z ∈ X.take p, clsLt y z = false := fun z hz => by
    obtain ⟨c, hc, _, e⟩ := mem_take_nth hz
    rw [← e]
    simpa using h.lo c hc
  have := ins_done hs h2 h1
  rw [List.take_append_drop] at this
  exact this
set_option maxHeartbeats 4000000 in
set_option maxRecDepth 100000 in
theorem symLast (w0 w : World) (g cap a m b N : Nat) (A B : List Value) (P X Q : List Int) (y : Int) (hX : Srt clsLt X) (hX2 : 2 ≤ X.length) (ha : a = P.length) (hm : m = a + X.length) (hb : b = m + 1) (hN : N = a + X.length + 1 + Q.length) (hbd : N ≤ 1000000000)
    (S : Seg w0 w g A (P ++ X ++ y :: Q) B) :
    Calls Try.prog 123 #[.slice (some ⟨g, A.length, none⟩) N cap, .int .i64 a, .int .i64 m, .int .i64 b, .func (.func 112) #[] #[]] w fun e w' => e = .returned (.tuple #[]) ∧ ∃ Z, Srt clsLt Z ∧ StEq clsLt Z (X ++ [y]) ∧ Seg w0 w' g A (P ++ Z ++ Q) B := by
  have mixed := mixedO
  have hm1 : (m : Int) - (a : Int) = ((X.length : Nat) : Int) := by omega
  have tm1 : (((X.length : Nat) : Int) == 1) = false := by rw [beq_eq_false_iff_ne]; omega
  have hb1 : (b : Int) - (m : Int) = 1 := by omega
  have hmb : m ≤ b := by omega
  have hbN : b ≤ N := by omega
  have ham : a ≤ m := by omega
  have S0 : Hid (Seg w0 w g A (P ++ X ++ y :: Q) B) := hide S
  have I0 : Hid (Sought (fun c => !clsLt y (nth X c)) X.length 0 X.length) := hide ⟨Nat.zero_le _, Nat.le_refl _, fun c hc => by omega, fun c h1 h2 => by omega⟩
  have HX : Hid (nth (P ++ X ++ y :: Q) m = y ∧ (∀ c, c < X.length → nth (P ++ X ++ y :: Q) (a + c) = nth X c) ∧ (P ++ X ++ y :: Q).length = N) := hide (by
    refine ⟨?_, fun c hc => ?_, by simp; omega⟩
    · exact nth_at _ _ _ _ (by simp; omega)
    · unfold nth List.getD
      rw [List.append_assoc, List.getElem?_append_right (by omega), List.getElem?_append_left (by omega)]
      congr 2
      omega)
  have HB : Hid (m = a + X.length) := hide hm
  have HP := hide ha
  have HNN : Hid (N = a + X.length + 1 + Q.length) := hide hN
  have HB2 : Hid (b = m + 1) := hide hb
  clear S ha hb hN hm
  obtain ⟨xl, hxl⟩ : ∃ xl, X.length = xl := ⟨_, rfl⟩
  rw [hxl] at hm1 tm1 hX2 I0
  have HXL := hide hxl
  clear hxl
  go_enter Try.func123, Try.ntmps123
  go_wp2
  go_loopw [14, 15] (fun iv jv wr => ∃ p q i j : Nat, Hid (i = a + p ∧ j = a + q) ∧ iv = .int .i64 i ∧ jv = .int .i64 j ∧ Hid (Sought (fun c => !clsLt y (nth X c)) xl p q) ∧ Hid (Seg w0 wr g A (P ++ X ++ y :: Q) B)) (fun iv jv _ => (intOf jv).toNat - (intOf iv).toNat)
  case atStart => exact ⟨0, xl, a, m, hide ⟨rfl, by have := unhide HB; have := unhide HXL; omega⟩, rfl, rfl, I0, S0⟩
  case round =>
    obtain ⟨p, q, i, j, HE, rfl, rfl, HS, SI⟩ := hrel
    clear S0 I0
    have hS := unhide HS
    have hij : i ≤ j ∧ j ≤ m ∧ a ≤ i := by have := hS.pq; have := hS.qn; have := unhide HE; have := unhide HB; have := unhide HXL; omega
    obtain ⟨hij1, hij2, hij3⟩ := hij
    by_cases hlt : i < j
    · have hlt' : (i : Int) < (j : Int) := by omega
      have hh := half_bd i j hlt
      obtain ⟨h, eh⟩ : ∃ h, (i + j) / 2 = h := ⟨_, rfl⟩
      rw [eh] at hh
      have eh' : ((i : Int) + (j : Int)) / 2 = (h : Int) := by omega
      obtain ⟨hx1, hx2, hx3⟩ := unhide HX
      obtain ⟨c, hc⟩ : ∃ c, h = a + c := ⟨h - a, by omega⟩
      have hcq : p ≤ c ∧ c < q := by have := unhide HE; omega
      have hcY : c < X.length := by have := hS.qn; have := unhide HXL; omega
      have n1 := hx2 c hcY
      rw [← hc] at n1
      have hhN : h < N := by omega
      have hmN : m < N := by have := unhide HB2; omega
      have ca := (unhide SI).cell m (by omega)
      have ch := (unhide SI).cell h (by omega)
      rw [hx1] at ca
      rw [n1] at ch
      have ba : (m : Int) < (N : Int) := by omega
      have bh : (h : Int) < (N : Int) := by omega
      have HC : Hid (∀ W, Calls Try.prog 112 #[.int .i64 y, .int .i64 (nth X c)] W fun e w' => e = .returned (.int .i64 (cmpZ (clsZ y) (clsZ (nth X c)))) ∧ w' = W) := hide (fun W => byClassI _ _ W)
      have hcz := cmpZ_lt y (nth X c)
      have S2 := hide (fun n => (unhide SI).drewN n)
      have hXl := unhide HXL
      cases hb : clsLt y (nth X c) with
      | false =>
        rw [hb] at hcz
        have hcz' := of_decide_eq_false hcz
        have T2 := hide (hS.up (c := c) hcq.2 (fun d hd hf => by
          have := srt_nth hX hd hcY
          simp at hf ⊢
          exact cls_weak.ntr _ _ _ this hf) (by simpa using hb))
        have HE2 : Hid (h + 1 = a + (c + 1) ∧ j = a + q) := hide ⟨by omega, (unhide HE).2⟩
        clear hS HS SI hx1 hx2 hx3 n1 hb hcz hc hcq hcY HE eh hXl
        generalize cmpZ (clsZ y) (clsZ (nth X c)) = cz at *
        generalize nth X c = x at *
        go_upto_region 17 with fail
        go_quiet (first | (go_at_call 112; refine Calls.quiet_of_same ((unhide HC) _)))
        have S3 := hide ((unhide S2) nq)
        clear S2 ca ch HC
        generalize wr.drewN nq = w2 at *
        go_wp2
        go_roundw
        case rel => exact ⟨c + 1, q, h + 1, j, HE2, by go_num, rfl, T2, S3⟩
        case measure => simp [intOf]; omega
      | true =>
        rw [hb] at hcz
        have hcz' := of_decide_eq_true hcz
        have T2 := hide (hS.down (c := c) hcq.1 hcq.2 (fun d hd hn hf => by
          have := srt_nth hX hd (by omega)
          simp at hf ⊢
          exact cls_weak.of_lt hf this) (by simpa using hb))
        have HE2 : Hid (i = a + p ∧ h = a + c) := hide ⟨(unhide HE).1, hc⟩
        clear hS HS SI hx1 hx2 hx3 n1 hb hcz hc hcq hcY HE eh hXl
        generalize cmpZ (clsZ y) (clsZ (nth X c)) = cz at *
        generalize nth X c = x at *
        go_upto_region 17 with fail
        go_quiet (first | (go_at_call 112; refine Calls.quiet_of_same ((unhide HC) _)))
        have S3 := hide ((unhide S2) nq)
        clear S2 ca ch HC
        generalize wr.drewN nq = w2 at *
        go_wp2
        go_roundw
        case rel => exact ⟨p, c, i, h, HE2, rfl, rfl, T2, S3⟩
        case measure => simp [intOf]; omega
    · have hnl : ¬ (i : Int) < (j : Int) := by omega
      have hpq : p = q := by have := hS.pq; have := unhide HE; omega
      subst hpq
      have hXl := unhide HXL
      have hpX : p ≤ X.length := by have := hS.qn; omega
      have R1 := hide (one_right hX (by rw [hXl]; exact hS))
      have K0 : Hid (Seg w0 wr g A (P ++ X.take xl ++ y :: (X.drop xl ++ Q)) B) := hide (by
        have e1 : X.take xl = X := List.take_of_length_le (by omega)
        have e2 : X.drop xl = [] := List.drop_eq_nil_iff.2 (by omega)
        rw [e1, e2]
        simpa using unhide SI)
      have HSt : Hid (∀ d, d < xl → swapL (P ++ X.take (d + 1) ++ y :: (X.drop (d + 1) ++ Q)) (a + d + 1) (a + d) = P ++ X.take d ++ y :: (X.drop d ++ Q) ∧ nth (P ++ X.take (d + 1) ++ y :: (X.drop (d + 1) ++ Q)) (a + d + 1) = y ∧ nth (P ++ X.take (d + 1) ++ y :: (X.drop (d + 1) ++ Q)) (a + d) = nth X d ∧ (P ++ X.take (d + 1) ++ y :: (X.drop (d + 1) ++ Q)).length = N) := hide (fun d hd => by
        have hp := unhide HP
        have hnn := unhide HNN
        have e0 : P ++ X.take (d + 1) ++ y :: (X.drop (d + 1) ++ Q) = (P ++ X.take d) ++ nth X d :: ([] ++ y :: (X.drop (d + 1) ++ Q)) := by
          rw [take_snoc X d (by omega)]
          simp
        refine ⟨?_, ?_, ?_, ?_⟩
        · rw [swapL_comm _ _ _ (by omega), e0, swap_app _ _ _ _ _ _ _ (by simp; omega) (by simp; omega), drop_at X d (by omega)]
          simp
        · exact nth_at _ _ _ _ (by simp; omega)
        · rw [e0]
          exact nth_at _ _ _ _ (by simp; omega)
        · simp
          omega)
      have hmN : m < N := by have := unhide HB2; omega
      have Hi : Hid (i = a + p) := hide (unhide HE).1
      have hpx : p ≤ xl := by omega
      clear SI HS hS HE HX hlt hXl
      go_wp2
      go_loopw [17] (fun kv wr => ∃ d k : Nat, p ≤ d ∧ d ≤ xl ∧ Hid (k = a + d) ∧ kv = .int .i64 k ∧ Hid (Seg w0 wr g A (P ++ X.take d ++ y :: (X.drop d ++ Q)) B)) (fun kv _ => (intOf kv).toNat)
      case atStart => exact ⟨xl, m, hpx, Nat.le_refl _, hide (by have := unhide HB; have := unhide HXL; omega), rfl, K0⟩
      case round =>
        obtain ⟨d, k, hd, hdx, Hk, rfl, SK⟩ := hrel
        clear K0
        have hki : i ≤ k := by have := unhide Hk; have := unhide Hi; omega
        have hkm : k ≤ m := by have := unhide Hk; have := unhide HB; have := unhide HXL; omega
        by_cases hlt : i < k
        · obtain ⟨r, rfl⟩ : ∃ r : Nat, k = r + 1 := ⟨k - 1, by omega⟩
          have hlt' : (i : Int) < (r : Int) + 1 := by omega
          obtain ⟨e, rfl⟩ : ∃ e : Nat, d = e + 1 := ⟨d - 1, by have := unhide Hk; have := unhide Hi; omega⟩
          obtain ⟨q1, q2, q3, q4⟩ := unhide HSt e (by omega)
          obtain ⟨k, hk⟩ : ∃ k : Nat, k = r + 1 := ⟨_, rfl⟩
          have hr' : r = a + e := by have := unhide Hk; omega
          have q1' : swapL (P ++ X.take (e + 1) ++ y :: (X.drop (e + 1) ++ Q)) k r = P ++ X.take e ++ y :: (X.drop e ++ Q) := by rw [hk, hr']; exact q1
          have q2' : nth (P ++ X.take (e + 1) ++ y :: (X.drop (e + 1) ++ Q)) k = y := by rw [hk, hr']; exact q2
          have q3' : nth (P ++ X.take (e + 1) ++ y :: (X.drop (e + 1) ++ Q)) r = nth X e := by rw [hr']; exact q3
          obtain ⟨ca, cb, fa, fb, ⟨u, cc⟩, s2⟩ := (unhide SK).swp (p := k) (q := r) (by omega) (by omega) q2' q3' q1'
          have S2 := hide s2
          have Hr : Hid (r = a + e) := hide hr'
          clear SK q1 q2 q3 q4 q1' q2' q3' s2 hr'
          generalize nth X e = x at *
          have ea : ((r : Int) + 1).toNat = k := by omega
          have pa : (0 : Int) ≤ (r : Int) + 1 := by omega
          have ba : (r : Int) + 1 < (N : Int) := by omega
          have ra : IntKind.i64.wrap ((r : Int) + 1) = (r : Int) + 1 := wrap_in _ (by omega) (by omega)
          have bk : (r : Int) < (N : Int) := by omega
          have rk : IntKind.i64.wrap (r : Int) = (r : Int) := wrap_in _ (by omega) (by omega)
          clear hk
          go_wp2_with fail
          go_big_region_o
          clear ca cb cc fa fb
          generalize ((wr.setCell ⟨g, A.length + k, none⟩ (.int .i64 x)).setCell ⟨g, A.length + r, none⟩ (.int .i64 y)).drew = w3 at *
          clear ea
          go_wp2
          go_roundw
          case rel => exact ⟨e, r, by have := unhide Hr; have := unhide Hi; omega, by omega, Hr, by go_num, S2⟩
          case measure => simp [intOf]
        · have hnl2 : ¬ (i : Int) < (k : Int) := by omega
          obtain rfl : d = p := by have := unhide Hk; have := unhide Hi; omega
          go_wp2
          refine bodyPost_ret (results_none rfl _ _ _) rfl ?_
          refine ⟨rfl, _, (unhide R1).1, (unhide R1).2, ?_⟩
          simpa using unhide SK
end Go.Proofs.Ytnfdkcphmolkiaa
