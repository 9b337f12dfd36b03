/- Two stretches in order merged in place. -/
import Derived.Test.YtnfdkcphmolkiaaSymP
import Derived.Deep.Cut
namespace Go.Proofs.Ytnfdkcphmolkiaa
open Go.RowKit
/-- What merging promises of stretches of at most n numbers together. -/
def Merges (n : Nat) : Prop := ∀ (w0 w : World) (g cap a m b N : Nat) (A B : List Value) (P X Y Q : List Int), X.length + Y.length ≤ n → 0 < X.length → 0 < Y.length → Srt clsLt X → Srt clsLt Y → a = P.length → m = a + X.length → b = m + Y.length → N = b + Q.length → N ≤ 1000000000 → Seg w0 w g A (P ++ X ++ Y ++ Q) B →
  Calls Try.prog 123 #[.slice (some ⟨g, A.length, none⟩) N cap, .int .i64 a, .int .i64 m, .int .i64 b, .func (.func 112) #[] #[]] w fun e w' => e = .returned (.tuple #[]) ∧ ∃ Z, Srt clsLt Z ∧ StEq clsLt Z (X ++ Y) ∧ Seg w0 w' g A (P ++ Z ++ Q) B
set_option maxHeartbeats 8000000 in
set_option maxRecDepth 100000 in
theorem sym_step (n : Nat) (ih : Merges n) (w0 w : World) (g cap a m b N : Nat) (A B : List Value) (P X Y Q : List Int) (hn : X.length + Y.length ≤ n + 1) (hX2 : 2 ≤ X.length) (hY2 : 2 ≤ Y.length) (hX : Srt clsLt X) (hY : Srt clsLt Y) (ha : a = P.length) (hm : m = a + X.length) (hb : b = m + Y.length) (hN : N = b + Q.length) (hbd : N ≤ 1000000000)
    (S : Seg w0 w g A (P ++ X ++ Y ++ Q) B) :
    Calls Try.prog 123 #[.slice (some ⟨g, A.length, none⟩) N cap, .int .i64 a, .int .i64 m, .int .i64 b, .func (.func 112) #[] #[]] w fun e w' => e = .returned (.tuple #[]) ∧ ∃ Z, Srt clsLt Z ∧ StEq clsLt Z (X ++ Y) ∧ Seg w0 w' g A (P ++ Z ++ Q) B := by
  have mixed := mixedO
  have zx : (m : Int) - (a : Int) = ((X.length : Nat) : Int) := by omega
  have zy : (b : Int) - (m : Int) = ((Y.length : Nat) : Int) := by omega
  have tx : (((X.length : Nat) : Int) == 1) = false := by rw [beq_eq_false_iff_ne]; omega
  have ty : (((Y.length : Nat) : Int) == 1) = false := by rw [beq_eq_false_iff_ne]; omega
  obtain ⟨mid, hmid⟩ : ∃ mid, mid = (a + b) / 2 := ⟨_, rfl⟩
  obtain ⟨M, hM⟩ : ∃ M, M = mid - a := ⟨_, rfl⟩
  have hMM : mid = a + M ∧ M = (X.length + Y.length) / 2 := by omega
  have zm : ((a : Int) + (b : Int)) / 2 = (mid : Int) := by omega
  obtain ⟨nn, hnn⟩ : ∃ nn, nn = mid + m := ⟨_, rfl⟩
  have zn : (mid : Int) + (m : Int) = (nn : Int) := by omega
  obtain ⟨pp, hpp⟩ : ∃ pp, pp + 1 = nn := ⟨nn - 1, by omega⟩
  have zp : (nn : Int) - 1 = (pp : Int) := by omega
  -- where the search begins, and how far it goes
  obtain ⟨l, L, hcase⟩ : ∃ l L, (X.length ≤ M ∧ l = 0 ∧ L = X.length ∧ M ≤ Y.length) ∨ (M < X.length ∧ l + Y.length = M ∧ L = Y.length) := by
    by_cases h : X.length ≤ M
    · exact ⟨0, X.length, .inl ⟨h, rfl, rfl, by omega⟩⟩
    · exact ⟨M - Y.length, Y.length, .inr ⟨by omega, by omega, rfl⟩⟩
  obtain ⟨lo, hlo⟩ : ∃ lo, lo = a + l := ⟨_, rfl⟩
  obtain ⟨hi, hhi⟩ : ∃ hi, hi = lo + L := ⟨_, rfl⟩
  have S0 : Hid (Seg w0 w g A (P ++ X ++ Y ++ Q) B) := hide S
  have I0 : Hid (Sought (symF X Y M l) L 0 L) := hide ⟨Nat.zero_le _, Nat.le_refl _, fun c hc => by omega, fun c h1 h2 => by omega⟩
  have HF : Hid (∀ t, t < L → nth (P ++ X ++ Y ++ Q) (lo + t) = nth X (l + t) ∧ nth (P ++ X ++ Y ++ Q) (pp - (lo + t)) = nth Y (M - 1 - l - t) ∧ lo + t < m ∧ m ≤ pp - (lo + t) ∧ pp - (lo + t) < b ∧ lo + t ≤ pp ∧ l + t < X.length ∧ l + t < M ∧ M - 1 - l < Y.length) := hide (fun t ht => by
    have e1 : lo + t = P.length + (l + t) := by omega
    have e2 : pp - (lo + t) = P.length + X.length + (M - 1 - l - t) := by omega
    refine ⟨?_, ?_, by omega, by omega, by omega, by omega, by omega, by omega, by omega⟩
    · rw [e1, List.append_assoc (P ++ X)]
      exact nth_left P X (Y ++ Q) (l + t) (by omega)
    · rw [e2]
      exact nth_right P X Y Q _ (by omega))
  have HL : Hid ((P ++ X ++ Y ++ Q).length = N) := hide (by simp; omega)
  have HSp : Hid (∀ u, Sought (symF X Y M l) L u u → ∃ s e : Nat, s = l + u ∧ e + s = M ∧ s ≤ X.length ∧ e ≤ Y.length ∧ (∀ x ∈ X.drop s, ∀ y ∈ Y.take e, clsLt y x = true) ∧ (∀ x ∈ X.take s, ∀ y ∈ Y.drop e, clsLt y x = false)) := hide (fun u h => by
    have hu := h.qn
    have := sym_split hX hY hcase (s := l + u) (e := M - (l + u)) rfl (by omega) h
    exact ⟨l + u, M - (l + u), rfl, by omega, by omega, by omega, this⟩)
  have HG : Hid (a = P.length ∧ m = a + X.length ∧ b = m + Y.length ∧ N = b + Q.length ∧ mid = a + M ∧ nn = mid + m ∧ lo = a + l ∧ X.length + Y.length ≤ n + 1 ∧ M = (X.length + Y.length) / 2) := hide ⟨ha, hm, hb, hN, hMM.1, hnn, hlo, hn, hMM.2⟩
  have hge : 4 ≤ b ∧ mid ≤ b ∧ b ≤ N ∧ nn ≤ 2000000000 ∧ a ≤ N ∧ m ≤ N ∧ pp ≤ 2000000000 ∧ hi ≤ N := by omega
  obtain ⟨_, hge1, hge2, hge3, hge4, hge5, hge6, hge7⟩ := hge
  have hst : (m ≤ mid ∧ lo = a ∧ hi = m) ∨ (mid < m ∧ (nn : Int) - (b : Int) = (lo : Int) ∧ hi = mid) := by omega
  have hloE : Hid (hi = lo + L) := hide hhi
  clear S hm hb hN hmid hM hMM hnn hpp hlo hhi ha hn hcase
  obtain ⟨xl, hxl⟩ : ∃ xl, X.length = xl := ⟨_, rfl⟩
  obtain ⟨yl, hyl⟩ : ∃ yl, Y.length = yl := ⟨_, rfl⟩
  rw [hxl] at zx tx hX2
  rw [hyl] at zy ty hY2
  clear hxl hyl
  have hstart : ∀ (K : Prop), (m ≤ mid → lo = a → hi = m → K) → (mid < m → (nn : Int) - (b : Int) = (lo : Int) → hi = mid → K) → K := fun K f1 f2 => hst.elim (fun h => f1 h.1 h.2.1 h.2.2) (fun h => f2 h.1 h.2.1 h.2.2)
  clear hst
  go_enter Try.func123, Try.ntmps123
  go_upto_if 140 with fail
  go_cut [20, 21] from 138 (fun sv rv wx => sv = .int .i64 lo ∧ rv = .int .i64 hi ∧ wx = w)
  case first =>
    refine hstart _ (fun h1 h2 h3 => ?_) (fun h1 h2 h3 => ?_)
    · have h1' : ¬ (mid : Int) < (m : Int) := by omega
      subst h2 h3
      go_wp2
      go_meet
      exact ⟨rfl, rfl, rfl⟩
    · have h1' : (mid : Int) < (m : Int) := by omega
      subst h3
      go_wp2
      go_meet
      exact ⟨rfl, rfl, rfl⟩
  case rest =>
    obtain ⟨rfl, rfl, rfl⟩ := hcut
    clear hstart
    go_wp2
    go_loopw [20, 21] (fun iv jv wr => ∃ u v i j : Nat, Hid (i = lo + u ∧ j = lo + v) ∧ iv = .int .i64 i ∧ jv = .int .i64 j ∧ Hid (Sought (symF X Y M l) L u v) ∧ Hid (Seg w0 wr g A (P ++ X ++ Y ++ Q) B)) (fun iv jv _ => (intOf jv).toNat - (intOf iv).toNat)
    case atStart => exact ⟨0, L, lo, hi, hide ⟨rfl, unhide hloE⟩, rfl, rfl, I0, S0⟩
    case round =>
      obtain ⟨u, v, i, j, HE, rfl, rfl, HS, SI⟩ := hrel
      clear S0 I0
      have hS := unhide HS
      have hij : i ≤ j ∧ j ≤ hi ∧ lo ≤ i := by have := hS.pq; have := hS.qn; have := unhide HE; have := unhide hloE; omega
      obtain ⟨hij1, hij2, hij3⟩ := hij
      by_cases hlt : i < j
      · have hlt' : (i : Int) < (j : Int) := by omega
        have hh := half_bd i j hlt
        obtain ⟨h, eh⟩ : ∃ h, (i + j) / 2 = h := ⟨_, rfl⟩
        rw [eh] at hh
        have eh' : ((i : Int) + (j : Int)) / 2 = (h : Int) := by omega
        obtain ⟨c, hc⟩ : ∃ c, h = lo + c := ⟨h - lo, by omega⟩
        have hcq : u ≤ c ∧ c < v := by have := unhide HE; omega
        have hcL : c < L := by have := hS.qn; omega
        obtain ⟨n1, n2, b1, b2, b3, b4, b5, b6, b7⟩ := unhide HF c hcL
        rw [← hc] at n1 n2 b1 b2 b3 b4
        obtain ⟨k, hk⟩ : ∃ k, pp - h = k := ⟨_, rfl⟩
        rw [hk] at n2 b2 b3
        have zk : (pp : Int) - (h : Int) = (k : Int) := by omega
        have hl := unhide HL
        have hhN : h < N := by omega
        have hkN : k < N := by omega
        have ca := (unhide SI).cell k (by omega)
        have ch := (unhide SI).cell h (by omega)
        rw [n2] at ca
        rw [n1] at ch
        have ba : (k : Int) < (N : Int) := by omega
        have bh : (h : Int) < (N : Int) := by omega
        have HC : Hid (∀ W, Calls Try.prog 112 #[.int .i64 (nth Y (M - 1 - l - c)), .int .i64 (nth X (l + c))] W fun e w' => e = .returned (.int .i64 (cmpZ (clsZ (nth Y (M - 1 - l - c))) (clsZ (nth X (l + c))))) ∧ w' = W) := hide (fun W => byClassI _ _ W)
        have hcz := cmpZ_lt (nth Y (M - 1 - l - c)) (nth X (l + c))
        have S2 := hide (fun n => (unhide SI).drewN n)
        have HQ := hide (fun d => unhide HF d)
        cases hb : clsLt (nth Y (M - 1 - l - c)) (nth X (l + c)) with
        | false =>
          rw [hb] at hcz
          have hcz' := of_decide_eq_false hcz
          have T2 := hide (hS.up (c := c) hcq.2 (fun d hd hf => symF_up hX hY hd b5 b6 b7 hf) (by unfold symF; rw [hb]; rfl))
          have HE2 : Hid (h + 1 = lo + (c + 1) ∧ j = lo + v) := hide ⟨by omega, (unhide HE).2⟩
          clear hS HS SI n1 n2 b1 b2 b3 b4 b5 b6 b7 hb hcz hc hcq hcL HE eh hk hl HQ
          generalize cmpZ (clsZ (nth Y (M - 1 - l - c))) (clsZ (nth X (l + c))) = cz at *
          generalize nth Y (M - 1 - l - c) = y at *
          generalize nth X (l + c) = x at *
          go_upto_region 35 with fail
          go_quiet (first | (go_at_call 112; refine Calls.quiet_of_same ((unhide HC) _)))
          have S3 := hide ((unhide S2) nq)
          clear S2 ca ch HC
          generalize wr.drewN nq = w2 at *
          go_wp2
          go_roundw
          case rel => exact ⟨c + 1, v, h + 1, j, HE2, by go_num, rfl, T2, S3⟩
          case measure => simp [intOf]; omega
        | true =>
          rw [hb] at hcz
          have hcz' := of_decide_eq_true hcz
          have T2 := hide (hS.down (c := c) hcq.1 hcq.2 (fun d hd hn hf => by
            obtain ⟨_, _, _, _, _, _, p5, p6, p7⟩ := unhide HQ d hn
            exact symF_down hX hY hd p5 p6 p7 hf) (by unfold symF; rw [hb]; rfl))
          have HE2 : Hid (i = lo + u ∧ h = lo + c) := hide ⟨(unhide HE).1, hc⟩
          clear hS HS SI n1 n2 b1 b2 b3 b4 b5 b6 b7 hb hcz hc hcq hcL HE eh hk hl HQ
          generalize cmpZ (clsZ (nth Y (M - 1 - l - c))) (clsZ (nth X (l + c))) = cz at *
          generalize nth Y (M - 1 - l - c) = y at *
          generalize nth X (l + c) = x at *
          go_upto_region 35 with fail
          go_quiet (first | (go_at_call 112; refine Calls.quiet_of_same ((unhide HC) _)))
          have S3 := hide ((unhide S2) nq)
          clear S2 ca ch HC
          generalize wr.drewN nq = w2 at *
          go_wp2
          go_roundw
          case rel => exact ⟨u, c, i, h, HE2, rfl, rfl, T2, S3⟩
          case measure => simp [intOf]; omega
      · have hnl : ¬ (i : Int) < (j : Int) := by omega
        have huv : u = v := by have := hS.pq; have := unhide HE; omega
        subst huv
        obtain ⟨s, e, es, ee, hsX, heY, h1, h2⟩ := unhide HSp u hS
        obtain ⟨g1, g2, g3, g4, g5, g6, g7, g8, g9⟩ := unhide HG
        have hi0 := (unhide HE).1
        obtain ⟨en, hen⟩ : ∃ en, en = m + e := ⟨_, rfl⟩
        have ze : (nn : Int) - (i : Int) = (en : Int) := by omega
        have lX1 : (X.take s).length = s := by rw [List.length_take]; omega
        have lX2 : (X.drop s).length = X.length - s := List.length_drop
        have lY1 : (Y.take e).length = e := by rw [List.length_take]; omega
        have lY2 : (Y.drop e).length = Y.length - e := List.length_drop
        have eX : X.take s ++ X.drop s = X := List.take_append_drop s X
        have eY : Y.take e ++ Y.drop e = Y := List.take_append_drop e Y
        have sX : Srt clsLt (X.take s ++ X.drop s) := by rw [eX]; exact hX
        have sY : Srt clsLt (Y.take e ++ Y.drop e) := by rw [eY]; exact hY
        -- the three steps, told ahead
        have RO : Hid (∀ W, Seg w0 W g A (P ++ X ++ Y ++ Q) B → i < m → m < en → Calls Try.prog 124 #[.slice (some ⟨g, A.length, none⟩) N cap, .int .i64 i, .int .i64 m, .int .i64 en, .func (.func 112) #[] #[]] W fun e' w' => e' = .returned (.tuple #[]) ∧ Seg w0 w' g A (P ++ X.take s ++ Y.take e ++ (X.drop s ++ (Y.drop e ++ Q))) B) := hide (fun W sW hA hB => by
          refine (rotate_any w0 W g cap i m en N A B (P ++ X.take s) (X.drop s) (Y.take e) (Y.drop e ++ Q) _ (by omega) (by omega) (by rw [List.length_append]; omega) (by rw [List.length_append]; omega) (by rw [List.length_append]; omega) (by rw [List.length_append, List.length_append]; omega) hbd (by
            have e1 : P ++ X.take s ++ X.drop s ++ Y.take e ++ (Y.drop e ++ Q) = P ++ X ++ Y ++ Q := by
              rw [List.append_assoc P, eX, List.append_assoc (P ++ X), ← List.append_assoc (Y.take e), eY, List.append_assoc (P ++ X)]
            rw [e1]
            exact sW)).mono ?_
          rintro e' w' ⟨he, hs⟩
          exact ⟨he, by simpa [List.append_assoc] using hs⟩)
        have RN : Hid (∀ W, Seg w0 W g A (P ++ X ++ Y ++ Q) B → ¬ (i < m ∧ m < en) → Seg w0 W g A (P ++ X.take s ++ Y.take e ++ (X.drop s ++ (Y.drop e ++ Q))) B) := hide (fun W sW hAB => by
          have e1 : P ++ X.take s ++ Y.take e ++ (X.drop s ++ (Y.drop e ++ Q)) = P ++ X ++ Y ++ Q := by
            by_cases hz : e = 0
            · have y1 : Y.take e = [] := by rw [hz]; rfl
              have y2 : Y.drop e = Y := by rw [hz]; rfl
              rw [y1, y2, List.append_nil, List.append_assoc P, ← List.append_assoc (X.take s), eX]
              simp [List.append_assoc]
            · have hz2 : s = X.length := by omega
              have x1 : X.take s = X := List.take_of_length_le (by omega)
              have x2 : X.drop s = [] := List.drop_eq_nil_iff.2 (by omega)
              rw [x1, x2, List.nil_append, List.append_assoc (P ++ X), ← List.append_assoc (Y.take e), eY]
              simp [List.append_assoc]
          rw [e1]
          exact sW)
        have R1 : Hid (∀ W, Seg w0 W g A (P ++ X.take s ++ Y.take e ++ (X.drop s ++ (Y.drop e ++ Q))) B → a < i → i < mid → Calls Try.prog 123 #[.slice (some ⟨g, A.length, none⟩) N cap, .int .i64 a, .int .i64 i, .int .i64 mid, .func (.func 112) #[] #[]] W fun e' w' => e' = .returned (.tuple #[]) ∧ ∃ Z, Srt clsLt Z ∧ StEq clsLt Z (X.take s ++ Y.take e) ∧ Seg w0 w' g A (P ++ Z ++ (X.drop s ++ (Y.drop e ++ Q))) B) := hide (fun W sW hA hB =>
          ih w0 W g cap a i mid N A B P (X.take s) (Y.take e) (X.drop s ++ (Y.drop e ++ Q)) (by omega) (by omega) (by omega) (srt_parts sX).1 (srt_parts sY).1 g1 (by omega) (by omega) (by rw [List.length_append, List.length_append]; omega) hbd sW)
        have R1N : Hid (¬ (a < i ∧ i < mid) → Srt clsLt (X.take s ++ Y.take e)) := hide (fun hAB => by
          by_cases hz : e = 0
          · have y1 : Y.take e = [] := by rw [hz]; rfl
            rw [y1, List.append_nil]
            exact (srt_parts sX).1
          · have hz2 : s = 0 := by omega
            have x1 : X.take s = [] := by rw [hz2]; rfl
            rw [x1, List.nil_append]
            exact (srt_parts sY).1)
        have R2 : Hid (∀ W Z, StEq clsLt Z (X.take s ++ Y.take e) → Seg w0 W g A (P ++ Z ++ (X.drop s ++ (Y.drop e ++ Q))) B → mid < en → en < b → Calls Try.prog 123 #[.slice (some ⟨g, A.length, none⟩) N cap, .int .i64 mid, .int .i64 en, .int .i64 b, .func (.func 112) #[] #[]] W fun e' w' => e' = .returned (.tuple #[]) ∧ ∃ Z2, Srt clsLt Z2 ∧ StEq clsLt Z2 (X.drop s ++ Y.drop e) ∧ Seg w0 w' g A (P ++ Z ++ Z2 ++ Q) B) := hide (fun W Z hZ sW hA hB => by
          have lZ := StEq.length cls_weak hZ
          rw [List.length_append] at lZ
          refine (ih w0 W g cap mid en b N A B (P ++ Z) (X.drop s) (Y.drop e) Q (by omega) (by omega) (by omega) (srt_parts sX).2.1 (srt_parts sY).2.1 (by rw [List.length_append]; omega) (by omega) (by omega) (by omega) hbd (by simpa [List.append_assoc] using sW)).mono ?_
          rintro e' w' ⟨he, Z2, t1, t2, t3⟩
          exact ⟨he, Z2, t1, t2, t3⟩)
        have R2N : Hid (¬ (mid < en ∧ en < b) → Srt clsLt (X.drop s ++ Y.drop e)) := hide (fun hAB => by
          by_cases hz : s = X.length
          · have x1 : X.drop s = [] := List.drop_eq_nil_iff.2 (by omega)
            rw [x1, List.nil_append]
            exact (srt_parts sY).2.1
          · have y1 : Y.drop e = [] := List.drop_eq_nil_iff.2 (by omega)
            rw [y1, List.append_nil]
            exact (srt_parts sX).2.1)
        have RE : Hid (∀ Z1 Z2, Srt clsLt Z1 → StEq clsLt Z1 (X.take s ++ Y.take e) → Srt clsLt Z2 → StEq clsLt Z2 (X.drop s ++ Y.drop e) → Srt clsLt (Z1 ++ Z2) ∧ StEq clsLt (Z1 ++ Z2) (X ++ Y)) := hide (fun Z1 Z2 s1 e1 s2 e2 => by
          have := merge_halves cls_weak sX sY h1 h2 s1 e1 s2 e2
          rw [eX, eY] at this
          exact this)
        have bn : en ≤ N ∧ i ≤ N ∧ mid ≤ N := by omega
        obtain ⟨bn1, bn2, bn3⟩ := bn
        clear hS HS HE HF HSp HG HL hloE h1 h2 g1 g2 g3 g4 g5 g6 g7 g8 g9 hi0 hen lX1 lX2 lY1 lY2 eX eY sX sY es ee hsX heY ih hX hY
        generalize X.take s = X1 at *
        generalize X.drop s = X2 at *
        generalize Y.take e = Y1 at *
        generalize Y.drop e = Y2 at *
        go_upto_region 39 with fail
        go_cut [185] from 178 (fun v wx => v = .bool (decide (i < m ∧ m < en)) ∧ wx = wr)
        case first =>
          by_cases hA : i < m
          · have hA' : (i : Int) < (m : Int) := by omega
            by_cases hB : m < en
            · have hB' : (m : Int) < (en : Int) := by omega
              go_wp2
              go_meet
              exact ⟨by rw [decide_eq_true ⟨hA, hB⟩], rfl⟩
            · have hB' : ¬ (m : Int) < (en : Int) := by omega
              go_wp2
              go_meet
              exact ⟨by rw [decide_eq_false (fun h => hB h.2)], rfl⟩
          · have hA' : ¬ (i : Int) < (m : Int) := by omega
            go_wp2
            go_meet
            exact ⟨by rw [decide_eq_false (fun h => hA h.1)], rfl⟩
        case rest =>
          obtain ⟨rfl, hwc⟩ := hcut
          subst hwc
          go_upto_if 185 with fail
          go_cut [] from 178 (fun wx => Hid (Seg w0 wx g A (P ++ X1 ++ Y1 ++ (X2 ++ (Y2 ++ Q))) B))
          case first =>
            by_cases hAB : i < m ∧ m < en
            · rw [decide_eq_true hAB]
              go_wp2_with fail
              refine ((unhide RO) _ (unhide SI) hAB.1 hAB.2).mono ?_
              rintro e' w2 ⟨rfl, s2⟩
              have S2 := hide s2
              clear s2
              go_wp2
              go_meet
              exact S2
            · rw [decide_eq_false hAB]
              have S2 := hide ((unhide RN) _ (unhide SI) hAB)
              go_wp2
              go_meet
              exact S2
          case rest =>
            have S4 := hcut
            clear hcut SI RO RN
            go_upto_region 41 with fail
            go_cut [199] from 192 (fun v wx => v = .bool (decide (a < i ∧ i < mid)) ∧ wx = wc)
            case first =>
              by_cases hA : a < i
              · have hA' : (a : Int) < (i : Int) := by omega
                by_cases hB : i < mid
                · have hB' : (i : Int) < (mid : Int) := by omega
                  go_wp2
                  go_meet
                  exact ⟨by rw [decide_eq_true ⟨hA, hB⟩], rfl⟩
                · have hB' : ¬ (i : Int) < (mid : Int) := by omega
                  go_wp2
                  go_meet
                  exact ⟨by rw [decide_eq_false (fun h => hB h.2)], rfl⟩
              · have hA' : ¬ (a : Int) < (i : Int) := by omega
                go_wp2
                go_meet
                exact ⟨by rw [decide_eq_false (fun h => hA h.1)], rfl⟩
            case rest =>
              obtain ⟨rfl, hwc⟩ := hcut
              subst hwc
              go_upto_if 199 with fail
              go_cut [] from 192 (fun wx => Hid (∃ Z, Srt clsLt Z ∧ StEq clsLt Z (X1 ++ Y1) ∧ Seg w0 wx g A (P ++ Z ++ (X2 ++ (Y2 ++ Q))) B))
              case first =>
                by_cases hAB : a < i ∧ i < mid
                · rw [decide_eq_true hAB]
                  go_wp2_with fail
                  refine ((unhide R1) _ (unhide S4) hAB.1 hAB.2).mono ?_
                  rintro e' w2 ⟨rfl, s2⟩
                  have S2 := hide s2
                  clear s2
                  go_wp2
                  go_meet
                  exact S2
                · rw [decide_eq_false hAB]
                  have S2 : Hid (∃ Z, Srt clsLt Z ∧ StEq clsLt Z (X1 ++ Y1) ∧ Seg w0 _ g A (P ++ Z ++ (X2 ++ (Y2 ++ Q))) B) := hide ⟨X1 ++ Y1, (unhide R1N) hAB, StEq.refl _, by rw [← List.append_assoc P]; exact unhide S4⟩
                  go_wp2
                  go_meet
                  exact S2
              case rest =>
                have S5 := hcut
                clear hcut S4 R1 R1N
                go_upto_region 43 with fail
                go_cut [213] from 206 (fun v wx => v = .bool (decide (mid < en ∧ en < b)) ∧ wx = wc)
                case first =>
                  by_cases hA : mid < en
                  · have hA' : (mid : Int) < (en : Int) := by omega
                    by_cases hB : en < b
                    · have hB' : (en : Int) < (b : Int) := by omega
                      go_wp2
                      go_meet
                      exact ⟨by rw [decide_eq_true ⟨hA, hB⟩], rfl⟩
                    · have hB' : ¬ (en : Int) < (b : Int) := by omega
                      go_wp2
                      go_meet
                      exact ⟨by rw [decide_eq_false (fun h => hB h.2)], rfl⟩
                  · have hA' : ¬ (mid : Int) < (en : Int) := by omega
                    go_wp2
                    go_meet
                    exact ⟨by rw [decide_eq_false (fun h => hA h.1)], rfl⟩
                case rest =>
                  obtain ⟨rfl, hwc⟩ := hcut
                  subst hwc
                  obtain ⟨Z, z1, z2, z3⟩ := unhide S5
                  clear S5
                  by_cases hAB : mid < en ∧ en < b
                  · rw [decide_eq_true hAB]
                    have CA := hide ((unhide R2) _ Z z2 z3 hAB.1 hAB.2)
                    have CE := hide (fun Z2 => (unhide RE) Z Z2 z1 z2)
                    clear z1 z2 z3 R2 R2N RE
                    go_wp2_with fail
                    refine (unhide CA).mono ?_
                    rintro e' w2 ⟨rfl, Z2, t1, t2, t3⟩
                    have R3 := hide ((unhide CE) Z2 t1 t2)
                    have S3 : Hid (Seg w0 w2 g A (P ++ (Z ++ Z2) ++ Q) B) := hide (by rw [← List.append_assoc P]; exact t3)
                    clear t1 t2 t3 CA CE
                    go_wp2
                    go_end0
                    exact ⟨rfl, _, (unhide R3).1, (unhide R3).2, unhide S3⟩
                  · rw [decide_eq_false hAB]
                    have R3 := hide ((unhide RE) Z _ z1 z2 ((unhide R2N) hAB) (StEq.refl _))
                    have S3 := hide z3
                    clear z1 z2 z3 R2 R2N RE
                    go_wp2
                    go_end0
                    refine ⟨rfl, _, (unhide R3).1, (unhide R3).2, ?_⟩
                    simpa [List.append_assoc] using unhide S3
end Go.Proofs.Ytnfdkcphmolkiaa
