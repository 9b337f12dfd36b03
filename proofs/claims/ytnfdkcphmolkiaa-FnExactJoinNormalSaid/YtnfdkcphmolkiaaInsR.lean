/- A stretch of a row put in order by insertion. -/
import Derived.Test.YtnfdkcphmolkiaaClsC
import Derived.Test.YtnfdkcphmolkiaaRotR
import Derived.BigQuiet
import Derived.Deep.QuietTactic
namespace Go.Proofs.Ytnfdkcphmolkiaa
open Go.RowKit
/-- One more put in order. -/
theorem ins_done {Z1 Z2 : List Int} {x : Int} (hZ : Srt clsLt (Z1 ++ Z2)) (h2 : ∀ z ∈ Z2, clsLt x z = true) (h1 : ∀ z ∈ Z1, clsLt x z = false) : Srt clsLt (Z1 ++ x :: Z2) ∧ StEq clsLt (Z1 ++ x :: Z2) (Z1 ++ Z2 ++ [x]) := by
  obtain ⟨s1, s2, s3⟩ := srt_parts hZ
  constructor
  · refine srt_app s1 (List.pairwise_cons.2 ⟨fun z hz => cls_weak.asym _ _ (h2 z hz), s2⟩) (fun u hu v hv => ?_)
    rcases List.mem_cons.1 hv with rfl | hv
    · exact h1 u hu
    · exact s3 u hu v hv
  · have e : StEq clsLt (Z1 ++ ([x] ++ Z2)) (Z1 ++ (Z2 ++ [x])) := (StEq.refl Z1).app (StEq.swap cls_weak (a := Z2) (b := [x]) (fun z hz y hy => by
      rw [List.mem_singleton] at hy
      subst hy
      exact h2 z hz)).symm
    simpa using e
set_option maxHeartbeats 4000000 in
set_option maxRecDepth 100000 in
theorem insSort_any (w0 w : World) (g cap a b N : Nat) (A B : List Value) (P Y Q : List Int) (ha : a = P.length) (hb : b = P.length + Y.length) (hN : N = P.length + Y.length + Q.length) (hbd : N ≤ 1000000000)
    (S : Seg w0 w g A (P ++ Y ++ Q) B) :
    Calls Try.prog 122 #[.slice (some ⟨g, A.length, none⟩) N cap, .int .i64 a, .int .i64 b, .func (.func 112) #[] #[]] w fun e w' => e = .returned (.tuple #[]) ∧ ∃ Z, Srt clsLt Z ∧ StEq clsLt Z Y ∧ Seg w0 w' g A (P ++ Z ++ Q) B := by
  have mixed := mixedO
  by_cases hY : Y.length = 0
  · obtain rfl : Y = [] := List.length_eq_zero_iff.1 hY
    have hab : ¬ (a : Int) + 1 < (b : Int) := by simp at hb; omega
    have S0 := hide S
    have han : a ≤ 1000000000 := by omega
    clear S ha hb hN hY
    go_enter Try.func122, Try.ntmps122
    go_wp2
    go_loopw [8] (fun iv wr => iv = .int .i64 ((a : Int) + 1) ∧ wr = w) (fun _ _ => 0)
    case atStart => exact ⟨rfl, rfl⟩
    case round =>
      obtain ⟨rfl, rfl⟩ := hrel
      go_wp2
      go_end0
      exact ⟨rfl, [], List.Pairwise.nil, StEq.refl _, unhide S0⟩
  · obtain ⟨y0, Y', rfl⟩ : ∃ y0 Y', Y = y0 :: Y' := by
      match Y, hY with
      | y0 :: Y', _ => exact ⟨y0, Y', rfl⟩
    have I0 : Hid (∃ Z Y1 R : List Int, Y1.length = 1 ∧ y0 :: Y' = Y1 ++ R ∧ Srt clsLt Z ∧ StEq clsLt Z Y1 ∧ Seg w0 w g A (P ++ Z ++ R ++ Q) B) := hide ⟨[y0], [y0], Y', rfl, rfl, List.pairwise_singleton _ _, StEq.refl _, by simpa using S⟩
    obtain ⟨m, hm⟩ : ∃ m, m = (y0 :: Y').length := ⟨_, rfl⟩
    have hm1 : 1 ≤ m := by rw [hm]; simp
    have hbm : b = a + m := by omega
    have hNm : N = a + m + Q.length := by omega
    have HP : Hid (a = P.length) := hide ha
    have HM : Hid (m = (y0 :: Y').length) := hide hm
    clear S ha hb hN hY hm
    generalize y0 :: Y' = Y at *
    have hbn : b ≤ 1000000000 := by omega
    have HB : Hid (b = a + m) := hide hbm
    have hbN : b ≤ N := by omega
    have han : a < 1000000000 := by omega
    have HN : Hid (N = a + m + Q.length) := hide hNm
    clear hbm hNm
    go_enter Try.func122, Try.ntmps122
    go_wp2
    go_loopw [8] (fun iv wr => ∃ k i : Nat, 1 ≤ k ∧ k ≤ m ∧ Hid (i = a + k) ∧ iv = .int .i64 i ∧ Hid (∃ Z Y1 R : List Int, Y1.length = k ∧ Y = Y1 ++ R ∧ Srt clsLt Z ∧ StEq clsLt Z Y1 ∧ Seg w0 wr g A (P ++ Z ++ R ++ Q) B)) (fun iv _ => b - (intOf iv).toNat)
    case atStart => exact ⟨1, a + 1, Nat.le_refl _, hm1, hide rfl, by go_num, I0⟩
    case round =>
      obtain ⟨k, i, hk1, hkm, Hi, rfl, HI⟩ := hrel
      clear I0
      have hib : i ≤ b := by have := unhide Hi; have := unhide HB; omega
      by_cases hlt : k < m
      · have hlt' : (i : Int) < (b : Int) := by have := unhide Hi; have := unhide HB; omega
        have hlt2 : i < b := by omega
        obtain ⟨Z, Y1, R, eY1, eY, sZ, eZ, s1⟩ := unhide HI
        obtain ⟨x, R', rfl⟩ : ∃ x R', R = x :: R' := by
          match R, eY with
          | [], eY => have := unhide HM; rw [eY] at this; simp at this; omega
          | x :: R', _ => exact ⟨x, R', rfl⟩
        have hZl : Z.length = k := (StEq.length cls_weak eZ).trans eY1
        have J0 : Hid (∃ Z1 Z2 : List Int, Z1.length = k ∧ Z1 ++ Z2 = Z ∧ (∀ z ∈ Z2, clsLt x z = true) ∧ Seg w0 wr g A (P ++ Z1 ++ x :: (Z2 ++ (R' ++ Q))) B) := hide ⟨Z, [], hZl, by simp, by simp, by simpa [List.append_assoc] using s1⟩
        have HF : Hid (∀ W (Z1 Z2 : List Int), Z1 ++ Z2 = Z → (∀ z ∈ Z2, clsLt x z = true) → (∀ z ∈ Z1, clsLt x z = false) → Seg w0 W g A (P ++ Z1 ++ x :: (Z2 ++ (R' ++ Q))) B → ∃ Z Y1 R : List Int, Y1.length = k + 1 ∧ Y = Y1 ++ R ∧ Srt clsLt Z ∧ StEq clsLt Z Y1 ∧ Seg w0 W g A (P ++ Z ++ R ++ Q) B) := hide (fun W Z1 Z2 e h2 h1 s => by
          rw [← e] at sZ eZ
          obtain ⟨t1, t2⟩ := ins_done sZ h2 h1
          refine ⟨Z1 ++ x :: Z2, Y1 ++ [x], R', by rw [List.length_append, eY1]; rfl, by rw [eY]; simp, t1, t2.trans (eZ.app (StEq.refl [x])), ?_⟩
          simpa [List.append_assoc] using s)
        have HLen : Hid (∀ Z1 Z2 : List Int, Z1 ++ Z2 = Z → (P ++ Z1 ++ x :: (Z2 ++ (R' ++ Q))).length = N) := hide (fun Z1 Z2 e => by
          have e1 := congrArg List.length e
          have e2 := unhide HM
          rw [eY] at e2
          simp only [List.length_append, List.length_cons] at e1 e2 ⊢
          have := unhide HP
          have := unhide HN
          omega)
        have HS : Hid (Srt clsLt Z) := hide sZ
        clear HI s1 eZ eY eY1 sZ hZl
        go_wp2
        go_loopw [9] (fun jv wr2 => ∃ q j : Nat, q ≤ k ∧ Hid (j = a + q) ∧ jv = .int .i64 j ∧ Hid (∃ Z1 Z2 : List Int, Z1.length = q ∧ Z1 ++ Z2 = Z ∧ (∀ z ∈ Z2, clsLt x z = true) ∧ Seg w0 wr2 g A (P ++ Z1 ++ x :: (Z2 ++ (R' ++ Q))) B)) (fun jv _ => (intOf jv).toNat)
        case atStart => exact ⟨k, i, Nat.le_refl _, Hi, rfl, J0⟩
        case round =>
          obtain ⟨q, j, hq, Hj, rfl, HJ⟩ := hrel
          clear J0
          obtain ⟨Z1, Z2, l1, e1, h2, s1⟩ := unhide HJ
          have hjb : j < b := by have := unhide Hi; have := unhide HB; have := unhide Hj; omega
          by_cases hq0 : q = 0
          · have z0 : Z1 = [] := List.length_eq_zero_iff.1 (by omega)
            have G2 := hide ((unhide HF) wr.drew Z1 Z2 e1 h2 (by rw [z0]; simp) s1.drew)
            obtain rfl : j = a := by have := unhide Hj; omega
            clear HJ s1 h2 e1 l1 HF HLen HS HM HP
            go_wp2_with fail
            go_big_region_o
            generalize wr.drew = w2 at *
            go_wp2
            go_roundw
            case rel => exact ⟨k + 1, i + 1, by omega, by omega, hide (by have := unhide Hi; omega), by go_num, G2⟩
            case measure => simp [intOf]; omega
          · obtain ⟨Z1', z, rfl⟩ : ∃ Z1' z, Z1 = Z1' ++ [z] := ⟨Z1.dropLast, Z1.getLast (fun h => hq0 (by rw [← l1, h]; rfl)), (List.dropLast_concat_getLast _).symm⟩
            obtain ⟨r, rfl⟩ : ∃ r : Nat, j = r + 1 := ⟨j - 1, by have := unhide Hj; omega⟩
            have hja : a < r + 1 := by have := unhide Hj; omega
            have hjaz : (a : Int) < (r : Int) + 1 := by omega
            have hjd : decide ((r : Int) + 1 > (a : Int)) = true := decide_eq_true (by omega)
            have hlen := (unhide HLen) _ _ e1
            have l1' : Z1'.length + 1 = q := by simpa using l1
            obtain ⟨j, hj⟩ : ∃ j : Nat, j = r + 1 := ⟨_, rfl⟩
            have ej : j = (P ++ (Z1' ++ [z])).length := by have := unhide Hj; have := unhide HP; simp; omega
            have er : r = (P ++ Z1').length := by have := unhide Hj; have := unhide HP; simp; omega
            have e2 : P ++ (Z1' ++ [z]) ++ x :: (Z2 ++ (R' ++ Q)) = (P ++ Z1') ++ z :: ([] ++ x :: (Z2 ++ (R' ++ Q))) := by simp [List.append_assoc]
            have nx : nth (P ++ (Z1' ++ [z]) ++ x :: (Z2 ++ (R' ++ Q))) j = x := nth_at _ _ _ _ ej
            have nz : nth (P ++ (Z1' ++ [z]) ++ x :: (Z2 ++ (R' ++ Q))) r = z := by rw [e2]; exact nth_at _ _ _ _ er
            have ea : ((r : Int) + 1).toNat = j := by omega
            have pa : (0 : Int) ≤ (r : Int) + 1 := by omega
            have ba : (r : Int) + 1 < (N : Int) := by omega
            have ra : IntKind.i64.wrap ((r : Int) + 1) = (r : Int) + 1 := wrap_in _ (by omega) (by omega)
            have bb : (r : Int) < (N : Int) := by omega
            have rb : IntKind.i64.wrap (r : Int) = (r : Int) := wrap_in _ (by omega) (by omega)
            have HC : Hid (∀ W, Calls Try.prog 112 #[.int .i64 x, .int .i64 z] W fun e w' => e = .returned (.int .i64 (cmpZ (clsZ x) (clsZ z))) ∧ w' = W) := hide (fun W => byClassI x z W)
            have hcz := cmpZ_lt x z
            have cj := s1.cell j (by omega)
            have cr := s1.cell r (by omega)
            rw [nx] at cj
            rw [nz] at cr
            cases hlt3 : clsLt x z with
            | false =>
              rw [hlt3] at hcz
              have hcz' := of_decide_eq_false hcz
              have h1 : ∀ u ∈ Z1' ++ [z], clsLt x u = false := fun u hu => by
                rcases List.mem_append.1 hu with hu | hu
                · have hsz := srt_parts (srt_parts (by rw [e1]; exact unhide HS : Srt clsLt ((Z1' ++ [z]) ++ Z2))).1
                  exact cls_weak.ntr _ _ _ (hsz.2.2 u hu z (by simp)) hlt3
                · rw [List.mem_singleton] at hu
                  rw [hu]
                  exact hlt3
              have G2 := hide (fun n => (unhide HF) (wr.drewN n) _ Z2 e1 h2 h1 (s1.drewN n))
              clear HJ s1 h2 e1 l1 HF HLen HS HM HP nx nz ej er e2 hlen h1 l1' hlt3 hj
              generalize cmpZ (clsZ x) (clsZ z) = cz at *
              go_wp2_with fail
              go_quiet (first | (go_at_call 112; refine Calls.quiet_of_same ((unhide HC) _)))
              have G3 := hide ((unhide G2) nq)
              clear G2 cj cr
              generalize wr.drewN nq = w2 at *
              go_wp2
              go_roundw
              case rel => exact ⟨k + 1, i + 1, by omega, by omega, hide (by have := unhide Hi; omega), by go_num, G3⟩
              case measure => simp [intOf]; omega
            | true =>
              rw [hlt3] at hcz
              have hcz' := of_decide_eq_true hcz
              have h2' : ∀ u ∈ z :: Z2, clsLt x u = true := fun u hu => by
                rcases List.mem_cons.1 hu with rfl | hu
                · exact hlt3
                · exact h2 u hu
              have hsw : swapL (P ++ (Z1' ++ [z]) ++ x :: (Z2 ++ (R' ++ Q))) j r = (P ++ Z1') ++ x :: ((z :: Z2) ++ (R' ++ Q)) := by
                rw [swapL_comm _ _ _ (by omega), e2, swap_app _ _ _ _ _ _ _ er (by rw [ej]; simp; omega)]
                simp
              have G2 := hide (fun n => (s1.drewN n).swp (p := j) (q := r) (by omega) (by omega) nx nz hsw)
              have GJ : Hid (∀ W, Seg w0 W g A ((P ++ Z1') ++ x :: ((z :: Z2) ++ (R' ++ Q))) B → ∃ Z1 Z2 : List Int, Z1.length = q - 1 ∧ Z1 ++ Z2 = Z ∧ (∀ z ∈ Z2, clsLt x z = true) ∧ Seg w0 W g A (P ++ Z1 ++ x :: (Z2 ++ (R' ++ Q))) B) := hide (fun W s => ⟨Z1', z :: Z2, by omega, by rw [← e1]; simp, h2', s⟩)
              clear HJ s1 h2 e1 l1 nx nz ej er e2 hlen l1' hlt3 h2' hsw hj
              generalize cmpZ (clsZ x) (clsZ z) = cz at *
              go_wp2_with fail
              go_quiet (first | (go_at_call 112; refine Calls.quiet_of_same ((unhide HC) _)))
              obtain ⟨ca, cb, fa, fb, ⟨u, cc⟩, s2⟩ := (unhide G2) nq
              have S2 := hide ((unhide GJ) _ s2)
              clear G2 cj cr s2 GJ
              generalize wr.drewN nq = w2 at *
              go_wp2_with fail
              go_big_region_o
              clear ca cb cc fa fb
              generalize ((w2.setCell ⟨g, A.length + j, none⟩ (.int .i64 z)).setCell ⟨g, A.length + r, none⟩ (.int .i64 x)).drew = w3 at *
              clear ea
              go_wp2
              go_roundw
              case rel => exact ⟨q - 1, r, by omega, hide (by have := unhide Hj; omega), by go_num, S2⟩
              case measure => simp [intOf]
      · obtain rfl : k = m := by omega
        have hlt' : ¬ (i : Int) < (b : Int) := by have := unhide Hi; have := unhide HB; omega
        go_wp2
        go_end0
        obtain ⟨Z, Y1, R, eY1, eY, sZ, eZ, s1⟩ := unhide HI
        have hR : R = [] := by
          have := unhide HM
          rw [eY, List.length_append] at this
          exact List.length_eq_zero_iff.1 (by omega)
        subst hR
        refine ⟨rfl, Z, sZ, ?_, by simpa using s1⟩
        rw [eY]
        simpa using eZ
end Go.Proofs.Ytnfdkcphmolkiaa
