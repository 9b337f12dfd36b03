/- Two stretches in order merged in place: where one of them is a single number. -/
import Derived.Test.YtnfdkcphmolkiaaInsR
namespace Go.Proofs.Ytnfdkcphmolkiaa
open Go.RowKit
theorem srt_nth {l : List Int} (h : Srt clsLt l) {i j : Nat} (hij : i ≤ j) (hj : j < l.length) : clsLt (nth l j) (nth l i) = false := by
  by_cases e : i = j
  · rw [e]; exact cls_weak.irr _
  · have := List.pairwise_iff_getElem.1 h i j (by omega) hj (by omega)
    have e1 : nth l i = l[i] := by simp [nth, List.getD, show i < l.length by omega]
    have e2 : nth l j = l[j] := by simp [nth, List.getD, hj]
    rw [e1, e2]
    exact this
/-- How far a search has come: below p it holds, from q on it does not. -/
structure Sought (f : Nat → Bool) (n p q : Nat) : Prop where
  pq : p ≤ q
  qn : q ≤ n
  lo : ∀ c, c < p → f c = true
  hi : ∀ c, q ≤ c → c < n → f c = false
theorem Sought.up {f : Nat → Bool} {n p q c : Nat} (h : Sought f n p q) (h2 : c < q) (hm : ∀ d, d ≤ c → f c = true → f d = true) (hc : f c = true) : Sought f n (c + 1) q :=
  ⟨by omega, h.qn, fun d hd => hm d (by omega) hc, h.hi⟩
theorem Sought.down {f : Nat → Bool} {n p q c : Nat} (h : Sought f n p q) (h1 : p ≤ c) (h2 : c < q) (hm : ∀ d, c ≤ d → d < n → f c = false → f d = false) (hc : f c = false) : Sought f n p c :=
  ⟨h1, by have := h.qn; omega, h.lo, fun d hd hn => hm d hd hn hc⟩
theorem mem_take_nth {l : List Int} {p : Nat} {y : Int} (h : y ∈ l.take p) : ∃ c, c < p ∧ c < l.length ∧ nth l c = y := by
  obtain ⟨c, hc, e⟩ := List.getElem_of_mem h
  rw [List.length_take] at hc
  refine ⟨c, by omega, by omega, ?_⟩
  rw [← e, List.getElem_take]
  simp [nth, List.getD, show c < l.length by omega]
theorem mem_drop_nth {l : List Int} {p : Nat} {y : Int} (h : y ∈ l.drop p) : ∃ c, p ≤ c ∧ c < l.length ∧ nth l c = y := by
  obtain ⟨c, hc, e⟩ := List.getElem_of_mem h
  rw [List.length_drop] at hc
  refine ⟨p + c, by omega, by omega, ?_⟩
  rw [← e, List.getElem_drop]
  simp [nth, List.getD, show p + c < l.length by omega]
theorem one_left {Y : List Int} {x : Int} {p : Nat} (hY : Srt clsLt Y) (h : Sought (fun c => clsLt (nth Y c) x) Y.length p p) : Srt clsLt (Y.take p ++ x :: Y.drop p) ∧ StEq clsLt (Y.take p ++ x :: Y.drop p) ([x] ++ Y) := by
  have hs : Srt clsLt (Y.take p ++ Y.drop p) := by rw [List.take_append_drop]; exact hY
  have h1 : ∀ u ∈ [x], ∀ y ∈ Y.take p, clsLt y u = true := fun u hu y hy => by
    rw [List.mem_singleton] at hu
    subst hu
    obtain ⟨c, hc, _, e⟩ := mem_take_nth hy
    rw [← e]
    exact h.lo c hc
  have h2 : ∀ y ∈ Y.drop p, clsLt y x = false := fun y hy => by
    obtain ⟨c, hc, hl, e⟩ := mem_drop_nth hy
    rw [← e]
    exact h.hi c hc hl
  have := merge_halves cls_weak (X1 := []) (X2 := [x]) (Y1 := Y.take p) (Y2 := Y.drop p) (Z1 := Y.take p) (Z2 := x :: Y.drop p) (List.pairwise_singleton _ _) hs h1 (by simp) (srt_parts hs).1 (by simpa using StEq.refl _) (List.pairwise_cons.2 ⟨h2, (srt_parts hs).2.1⟩) (by simpa using StEq.refl _)
  rw [List.take_append_drop] at this
  simpa using this
theorem half_bd (i j : Nat) (h : i < j) : i ≤ (i + j) / 2 ∧ (i + j) / 2 < j := by omega
set_option maxHeartbeats 4000000 in
set_option maxRecDepth 100000 in
theorem symOne (w0 w : World) (g cap a m b N : Nat) (A B : List Value) (P Y Q : List Int) (x : Int) (hY : Srt clsLt Y) (ha : a = P.length) (hm : m = a + 1) (hb : b = a + 1 + Y.length) (hN : N = a + 1 + Y.length + Q.length) (hbd : N ≤ 1000000000)
    (S : Seg w0 w g A (P ++ x :: Y ++ Q) B) :
    Calls Try.prog 123 #[.slice (some ⟨g, A.length, none⟩) N cap, .int .i64 a, .int .i64 m, .int .i64 b, .func (.func 112) #[] #[]] w fun e w' => e = .returned (.tuple #[]) ∧ ∃ Z, Srt clsLt Z ∧ StEq clsLt Z ([x] ++ Y) ∧ Seg w0 w' g A (P ++ Z ++ Q) B := by
  have mixed := mixedO
  have hm1 : (m : Int) - (a : Int) = 1 := by omega
  have hmb : m ≤ b := by omega
  have hbN : b ≤ N := by omega
  have S0 : Hid (Seg w0 w g A (P ++ x :: Y ++ Q) B) := hide S
  have I0 : Hid (Sought (fun c => clsLt (nth Y c) x) Y.length 0 Y.length) := hide ⟨Nat.zero_le _, Nat.le_refl _, fun c hc => by omega, fun c h1 h2 => by omega⟩
  have HX : Hid (nth (P ++ x :: Y ++ Q) a = x ∧ (∀ c, c < Y.length → nth (P ++ x :: Y ++ Q) (m + c) = nth Y c) ∧ (P ++ x :: Y ++ Q).length = N) := hide (by
    refine ⟨?_, fun c hc => ?_, by simp; omega⟩
    · rw [List.append_assoc]
      exact nth_at _ _ _ _ ha
    · unfold nth List.getD
      have e : P ++ x :: Y ++ Q = (P ++ [x]) ++ (Y ++ Q) := by simp
      rw [e, List.getElem?_append_right (by simp; omega), List.getElem?_append_left (by simp; omega)]
      congr 2
      simp
      omega)
  have HM : Hid (∀ c, c < Y.length → m + c < b) := hide (fun c hc => by omega)
  have HB : Hid (b = m + Y.length) := hide (by omega)
  have HP := hide ha
  have HNN : Hid (N = a + 1 + Y.length + Q.length) := hide hN
  clear S ha hb hN
  have HM1 := hide hm
  clear hm
  go_enter Try.func123, Try.ntmps123
  go_wp2
  go_loopw [10, 11] (fun iv jv wr => ∃ p q i j : Nat, Hid (i = m + p ∧ j = m + q) ∧ iv = .int .i64 i ∧ jv = .int .i64 j ∧ Hid (Sought (fun c => clsLt (nth Y c) x) Y.length p q) ∧ Hid (Seg w0 wr g A (P ++ x :: Y ++ Q) B)) (fun iv jv _ => (intOf jv).toNat - (intOf iv).toNat)
  case atStart => exact ⟨0, Y.length, m, b, hide ⟨rfl, unhide HB⟩, rfl, rfl, I0, S0⟩
  case round =>
    obtain ⟨p, q, i, j, HE, rfl, rfl, HS, SI⟩ := hrel
    clear S0 I0
    have hS := unhide HS
    have hij : i ≤ j ∧ j ≤ b ∧ m ≤ i := by have := hS.pq; have := hS.qn; have := unhide HE; have := unhide HB; omega
    obtain ⟨hij1, hij2, hij3⟩ := hij
    by_cases hlt : i < j
    · have hlt' : (i : Int) < (j : Int) := by omega
      have hh := half_bd i j hlt
      obtain ⟨h, eh⟩ : ∃ h, (i + j) / 2 = h := ⟨_, rfl⟩
      rw [eh] at hh
      have eh' : ((i : Int) + (j : Int)) / 2 = (h : Int) := by omega
      obtain ⟨hx1, hx2, hx3⟩ := unhide HX
      obtain ⟨c, hc⟩ : ∃ c, h = m + c := ⟨h - m, by omega⟩
      have hcq : p ≤ c ∧ c < q := by have := unhide HE; omega
      have hcY : c < Y.length := by have := hS.qn; omega
      have n1 := hx2 c hcY
      rw [← hc] at n1
      have hhN : h < N := by omega
      have haN : a < N := by have := unhide HM1; omega
      have ca := (unhide SI).cell a (by omega)
      have ch := (unhide SI).cell h (by omega)
      rw [hx1] at ca
      rw [n1] at ch
      have ba : (a : Int) < (N : Int) := by omega
      have bh : (h : Int) < (N : Int) := by omega
      have HC : Hid (∀ W, Calls Try.prog 112 #[.int .i64 (nth Y c), .int .i64 x] W fun e w' => e = .returned (.int .i64 (cmpZ (clsZ (nth Y c)) (clsZ x))) ∧ w' = W) := hide (fun W => byClassI _ _ W)
      have hcz := cmpZ_lt (nth Y c) x
      have S2 := hide (fun n => (unhide SI).drewN n)
      cases hb : clsLt (nth Y c) x with
      | true =>
        rw [hb] at hcz
        have hcz' := of_decide_eq_true hcz
        have T2 := hide (hS.up (c := c) hcq.2 (fun d hd hf => by
          have := srt_nth hY hd hcY
          exact cls_weak.of_le this hf) hb)
        have HE2 : Hid (h + 1 = m + (c + 1) ∧ j = m + q) := hide ⟨by omega, (unhide HE).2⟩
        clear hS HS SI hx1 hx2 hx3 n1 hb hcz hc hcq hcY HE eh
        generalize cmpZ (clsZ (nth Y c)) (clsZ x) = cz at *
        generalize nth Y c = y at *
        go_upto_region 5 with fail
        go_quiet (first | (go_at_call 112; refine Calls.quiet_of_same ((unhide HC) _)))
        have S3 := hide ((unhide S2) nq)
        clear S2 ca ch HC
        generalize wr.drewN nq = w2 at *
        go_wp2
        go_roundw
        case rel => exact ⟨c + 1, q, h + 1, j, HE2, by go_num, rfl, T2, S3⟩
        case measure => simp [intOf]; omega
      | false =>
        rw [hb] at hcz
        have hcz' := of_decide_eq_false hcz
        have T2 := hide (hS.down (c := c) hcq.1 hcq.2 (fun d hd hn hf => by
          have := srt_nth hY hd hn
          exact cls_weak.ntr _ _ _ hf this) hb)
        have HE2 : Hid (i = m + p ∧ h = m + c) := hide ⟨(unhide HE).1, hc⟩
        clear hS HS SI hx1 hx2 hx3 n1 hb hcz hc hcq hcY HE eh
        generalize cmpZ (clsZ (nth Y c)) (clsZ x) = cz at *
        generalize nth Y c = y at *
        go_upto_region 5 with fail
        go_quiet (first | (go_at_call 112; refine Calls.quiet_of_same ((unhide HC) _)))
        have S3 := hide ((unhide S2) nq)
        clear S2 ca ch HC
        generalize wr.drewN nq = w2 at *
        go_wp2
        go_roundw
        case rel => exact ⟨p, c, i, h, HE2, rfl, rfl, T2, S3⟩
        case measure => simp [intOf]; omega
    · have hnl : ¬ (i : Int) < (j : Int) := by omega
      have hpq : p = q := by have := hS.pq; have := unhide HE; omega
      subst hpq
      obtain ⟨t, ht⟩ : ∃ t, t = a + p := ⟨_, rfl⟩
      have zi : (i : Int) - 1 = (t : Int) := by have := unhide HE; have := unhide HM1; omega
      have hpY : p ≤ Y.length := hS.qn
      have R1 := hide (one_left hY hS)
      have K0 : Hid (Seg w0 wr g A (P ++ Y.take 0 ++ x :: (Y.drop 0 ++ Q)) B) := hide (by simpa using unhide SI)
      have HSt : Hid (∀ d, d < p → swapL (P ++ Y.take d ++ x :: (Y.drop d ++ Q)) (a + d) (a + d + 1) = P ++ Y.take (d + 1) ++ x :: (Y.drop (d + 1) ++ Q) ∧ nth (P ++ Y.take d ++ x :: (Y.drop d ++ Q)) (a + d) = x ∧ nth (P ++ Y.take d ++ x :: (Y.drop d ++ Q)) (a + d + 1) = nth Y d ∧ (P ++ Y.take d ++ x :: (Y.drop d ++ Q)).length = N) := hide (fun d hd => by
        have hp := unhide HP
        have hnn := unhide HNN
        have e0 : P ++ Y.take d ++ x :: (Y.drop d ++ Q) = (P ++ Y.take d) ++ x :: ([] ++ nth Y d :: (Y.drop (d + 1) ++ Q)) := by
          rw [drop_at Y d (by omega)]
          simp
        have e1 : P ++ Y.take d ++ x :: (Y.drop d ++ Q) = (P ++ Y.take d ++ [x]) ++ nth Y d :: (Y.drop (d + 1) ++ Q) := by rw [e0]; simp
        refine ⟨?_, ?_, ?_, ?_⟩
        · rw [e0, swap_app _ _ _ _ _ _ _ (by simp; omega) (by simp; omega), take_snoc Y d (by omega)]
          simp
        · exact nth_at _ _ _ _ (by simp; omega)
        · rw [e1]
          exact nth_at _ _ _ _ (by simp; omega)
        · simp
          omega)
      have htN : t < N := by have := unhide HNN; omega
      clear SI HS hS HE HX HM hlt
      go_wp2
      go_loopw [13] (fun kv wr => ∃ d k : Nat, d ≤ p ∧ Hid (k = a + d) ∧ kv = .int .i64 k ∧ Hid (Seg w0 wr g A (P ++ Y.take d ++ x :: (Y.drop d ++ Q)) B)) (fun kv _ => t - (intOf kv).toNat)
      case atStart => exact ⟨0, a, Nat.zero_le _, hide rfl, rfl, K0⟩
      case round =>
        obtain ⟨d, k, hd, Hk, rfl, SK⟩ := hrel
        clear K0
        have hkt : k ≤ t := by have := unhide Hk; omega
        by_cases hlt : k < t
        · have hlt' : (k : Int) < (t : Int) := by omega
          obtain ⟨q1, q2, q3, q4⟩ := unhide HSt d (by have := unhide Hk; omega)
          obtain ⟨r, hr⟩ : ∃ r : Nat, r = k + 1 := ⟨_, rfl⟩
          have hk' := unhide Hk
          have q1' : swapL (P ++ Y.take d ++ x :: (Y.drop d ++ Q)) k r = P ++ Y.take (d + 1) ++ x :: (Y.drop (d + 1) ++ Q) := by rw [hr, hk']; exact q1
          have q2' : nth (P ++ Y.take d ++ x :: (Y.drop d ++ Q)) k = x := by rw [hk']; exact q2
          have q3' : nth (P ++ Y.take d ++ x :: (Y.drop d ++ Q)) r = nth Y d := by rw [hr, hk']; exact q3
          obtain ⟨ca, cb, fa, fb, ⟨u, cc⟩, s2⟩ := (unhide SK).swp (p := k) (q := r) (by omega) (by omega) q2' q3' q1'
          have S2 := hide s2
          clear SK q1 q2 q3 q4 q1' q2' q3' s2 hk'
          generalize nth Y d = y at *
          have ea : ((k : Int) + 1).toNat = r := by omega
          have pa : (0 : Int) ≤ (k : Int) + 1 := by omega
          have ba : (k : Int) + 1 < (N : Int) := by omega
          have ra : IntKind.i64.wrap ((k : Int) + 1) = (k : Int) + 1 := wrap_in _ (by omega) (by omega)
          have bk : (k : Int) < (N : Int) := by omega
          clear hr
          go_wp2_with fail
          go_big_region_o
          clear ca cb cc fa fb
          generalize ((wr.setCell ⟨g, A.length + k, none⟩ (.int .i64 y)).setCell ⟨g, A.length + r, none⟩ (.int .i64 x)).drew = w3 at *
          clear ea
          go_wp2
          go_roundw
          case rel => exact ⟨d + 1, k + 1, by have := unhide Hk; omega, hide (by have := unhide Hk; omega), by go_num, S2⟩
          case measure => simp [intOf]; omega
        · have hnl2 : ¬ (k : Int) < (t : Int) := by omega
          obtain rfl : d = p := by have := unhide Hk; omega
          go_wp2
          refine bodyPost_ret (results_none rfl _ _ _) rfl ?_
          refine ⟨rfl, _, (unhide R1).1, (unhide R1).2, ?_⟩
          simpa using unhide SK
end Go.Proofs.Ytnfdkcphmolkiaa
