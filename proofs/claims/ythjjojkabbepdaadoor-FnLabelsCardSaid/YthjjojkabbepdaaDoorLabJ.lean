/- Labels, as the program writes them: a number, the bias made anew, the plain points, the least. -/
import Derived.Test.YthjjojkabbepdaaDoorLabI
namespace Go.Proofs.YthjjojkabbepdaaDoor.Lab
open Go.RowKit
set_option linter.unusedVariables false
set_option maxRecDepth 100000 in
set_option maxHeartbeats 2000000 in
theorem deltaI (A lo : Nat) (v : Value) (M : List Int) (q b : Int) (a : Bool) (w : World) (hlo : lo ≤ w.heap.size) (hO : By lo w v M) (hM : M.length ≤ 100000) (hB : Bx w A b a) (h0 : 0 ≤ q) (h1 : q ≤ 2000000000) (hb0 : 0 ≤ b) (hb1 : b ≤ 100000000000) :
    Calls Tryd.prog 37 #[.pointer (some ⟨A, 0, none⟩), v, .int .i64 q] w fun e w' => ∃ v', e = .returned v' ∧ By lo w' v' (M ++ num q b 36) ∧ Kb lo w w' := by
  have HO0 : Hid (By lo w v (M ++ [])) := hide (by rw [List.append_nil]; exact hO)
  have HBx := hide hB
  clear hO hB
  go_enter Tryd.func37, Tryd.ntmps37
  go_wp2
  go_loopw [1, 2, 7] (fun lv dv pv wr => ∃ (X : List Int) (q' : Int) (p : Nat), dv = .int .i64 q' ∧ pv = .int .i64 p ∧ 0 ≤ q' ∧ (p : Int) + q' ≤ q ∧ (X.length : Int) + q' ≤ q ∧ Hid (X ++ num q' b (36 * ((p : Int) + 1)) = num q b 36) ∧ Hid (By lo wr lv (M ++ X)) ∧ Hid (Kb lo w wr)) (fun _ dv _ _ => (intOf dv).toNat)
  case atStart => exact ⟨[], q, 0, rfl, rfl, h0, by simp, by simp, hide rfl, HO0, hide (Kb.refl _ _)⟩
  case round =>
    obtain ⟨X, q', p, rfl, rfl, q0, p1, x1, HN, HO, HK⟩ := hrel
    clear HO0
    have hBs := Nat.le_trans hlo (unhide HK).bel.size
    have ht := thr_bd (36 * ((p : Int) + 1)) b
    have HBr := hide ((unhide HBx).kb (unhide HK))
    have CT := hide (thrI A p b a wr (unhide HBr) (by omega) hb0 (by omega))
    have hMX : (M ++ X).length ≤ 3000000000 := by rw [List.length_append]; omega
    by_cases hlt : q' < thr (36 * ((p : Int) + 1)) b
    · have HS := hide (num_last hlt)
      have CD := hide (fun W => digitI q' W q0 (by omega))
      have hd := dig_bd q0 (show q' < 36 by omega)
      generalize thr (36 * ((p : Int) + 1)) b = t at *
      generalize dig q' = z at *
      obtain ⟨t0, t1⟩ := ht
      go_wp2_with (first
        | (go_at_call 51; refine (unhide CT).mono ?_; rintro e w' ⟨rfl, hw⟩; obtain rfl := hw.symm; clear hw)
        | (go_at_call 53; refine ((unhide CD) _).mono ?_; rintro e w' ⟨rfl, hw⟩; obtain rfl := hw.symm; clear hw)
        | (go_at_call 52; refine (app_one lo _ _ _ z hd.1 (by omega) _ (unhide HO) (by omega) hBs).mono ?_; rintro e w2 ⟨v2, rfl, ho2, o2, hg2⟩))
      have HO2 := hide (By.snoc (N := [z]) ho2 rfl)
      have HK2 := hide ((unhide HK).app hBs (unhide HO) hg2)
      clear ho2 hg2
      go_ret
      exact ⟨_, rfl, by rw [← unhide HN, unhide HS, ← List.append_assoc]; exact unhide HO2, unhide HK2⟩
    · have HS := hide (num_more (q := q') (b := b) (k := 36 * ((p : Int) + 1)) (by omega))
      have hl := lft_bd (q := q') (t := thr (36 * ((p : Int) + 1)) b) (by omega) ht.1 ht.2
      have hg := dgt_bd (q := q') (t := thr (36 * ((p : Int) + 1)) b) (by omega) ht.1 ht.2
      have CD := hide (fun W => digitI (dgt q' (thr (36 * ((p : Int) + 1)) b)) W hg.1 hg.2)
      have hd := dig_bd hg.1 hg.2
      have hm : (q' - thr (36 * ((p : Int) + 1)) b).tmod (36 - thr (36 * ((p : Int) + 1)) b) = (q' - thr (36 * ((p : Int) + 1)) b) % (36 - thr (36 * ((p : Int) + 1)) b) := Int.tmod_eq_emod_of_nonneg (by omega)
      have hdv : (q' - thr (36 * ((p : Int) + 1)) b).tdiv (36 - thr (36 * ((p : Int) + 1)) b) = lft q' (thr (36 * ((p : Int) + 1)) b) := Int.tdiv_eq_ediv_of_nonneg (by omega)
      have hr0 := Int.emod_nonneg (q' - thr (36 * ((p : Int) + 1)) b) (show 36 - thr (36 * ((p : Int) + 1)) b ≠ 0 by omega)
      have hr1 := Int.emod_lt_of_pos (q' - thr (36 * ((p : Int) + 1)) b) (show 0 < 36 - thr (36 * ((p : Int) + 1)) b by omega)
      have hdg : dgt q' (thr (36 * ((p : Int) + 1)) b) = thr (36 * ((p : Int) + 1)) b + (q' - thr (36 * ((p : Int) + 1)) b) % (36 - thr (36 * ((p : Int) + 1)) b) := rfl
      have hz : (36 - thr (36 * ((p : Int) + 1)) b == 0) = false := by rw [beq_eq_false_iff_ne]; omega
      have HK36 : Hid (36 * ((p : Int) + 1) + 36 = 36 * (((p + 1 : Nat) : Int) + 1)) := hide (by omega)
      rw [unhide HK36] at HS
      generalize thr (36 * ((p : Int) + 1)) b = t at *
      obtain ⟨t0, t1⟩ := ht
      obtain ⟨l0, l1, _⟩ := hl
      generalize (q' - t) % (36 - t) = r at *
      generalize lft q' t = q2 at *
      generalize dig (dgt q' t) = z at *
      rw [hdg] at CD
      clear hdg hg
      go_wp2_with (first
        | (go_at_call 51; refine (unhide CT).mono ?_; rintro e w' ⟨rfl, hw⟩; obtain rfl := hw.symm; clear hw)
        | (go_at_call 53; refine ((unhide CD) _).mono ?_; rintro e w' ⟨rfl, hw⟩; obtain rfl := hw.symm; clear hw)
        | (go_at_call 52; refine (app_one lo _ _ _ z hd.1 (by omega) _ (unhide HO) (by omega) hBs).mono ?_; rintro e w2 ⟨v2, rfl, ho2, o2, hg2⟩))
      have HO2 := hide (By.snoc (N := [z]) ho2 rfl)
      have HK2 := hide ((unhide HK).app hBs (unhide HO) hg2)
      clear ho2 hg2
      go_roundw
      case rel => exact ⟨X ++ [z], q2, p + 1, rfl, by go_num, l0, by omega, by simp; omega, hide (by rw [← unhide HN, unhide HS]; simp), hide (by rw [← List.append_assoc]; exact unhide HO2), HK2⟩
      case measure => simp [intOf]; omega
/-- What is below lo stays, all blocks there were but A, and A is the bias' box. -/
structure Ka (A : Nat) (w w' : World) : Prop where
  bel : Below A w w'
  oth : ∀ k, k ≠ A → k < w.heap.size → w'.heap[k]? = w.heap[k]?
theorem Ka.two {A : Nat} (w : World) (x y : Value) : Ka A w ((w.setCell ⟨A, 0, none⟩ x).setCell ⟨A, 1, none⟩ y) :=
  ⟨((Below.refl A w).setCell (p := ⟨A, 0, none⟩) (Nat.le_refl _) x).setCell (p := ⟨A, 1, none⟩) (Nat.le_refl _) y, fun k n _ => (heap_setCell_other _ ⟨A, 1, none⟩ k y n).trans (heap_setCell_other w ⟨A, 0, none⟩ k x n)⟩
set_option maxRecDepth 100000 in
set_option maxHeartbeats 2000000 in
theorem anewI (A : Nat) (d h b : Int) (a : Bool) (w : World) (hB : Bx w A b a) (h0 : 0 ≤ d) (h1 : d ≤ 2000000000) (hh0 : 1 ≤ h) (hh1 : h ≤ 100000) :
    Calls Tryd.prog 38 #[.pointer (some ⟨A, 0, none⟩), .int .i64 d, .int .i64 h] w fun e w' => e = .returned (.tuple #[]) ∧ Bx w' A (bsn d h a) true ∧ Ka A w w' := by
  have hb := hlf_bd (a := a) (h := h) h0 hh0
  have HN : Hid (bsn d h a = bs1 (hlf d a + hlf d a / h) 0) := hide rfl
  have e1 : (hlf d a).tdiv h = hlf d a / h := Int.tdiv_eq_ediv_of_nonneg (by omega)
  obtain ⟨b0, b1, b2, b3, b4⟩ := hb
  have HF : Hid (hlf d a = if a then d / 2 else d / 700) := hide rfl
  have q1 : d.tdiv 2 = d / 2 := Int.tdiv_eq_ediv_of_nonneg h0
  have q2 : d.tdiv 700 = d / 700 := Int.tdiv_eq_ediv_of_nonneg h0
  have hz : (h == 0) = false := by rw [beq_eq_false_iff_ne]; omega
  have HBx := hide hB
  obtain ⟨c0, c1, f0, f1⟩ := two_cellsL hB
  clear hB
  have W := hide (fun (x : Int) => (two_cellsL ((unhide HBx).put0 x)))
  cases a with
  | true =>
    have ef : d / 2 = hlf d true := by rw [unhide HF]; rfl
    rw [ef] at q1
    clear ef HF q2
    generalize hlf d true = x at *
    generalize hy : x / h = y at *
    clear hy
    go_enter Tryd.func38, Tryd.ntmps38
    go_wp2
    go_loopw [1, 6] (fun dv kv wr => ∃ (z k : Int), dv = .int .i64 z ∧ kv = .int .i64 k ∧ 0 ≤ z ∧ z ≤ 2000000000 ∧ 0 ≤ k ∧ k + 36 * z ≤ 72000000000 ∧ Hid (bs1 z k = bs1 (x + y) 0) ∧ wr = w) (fun dv _ _ => (intOf dv).toNat)
    case atStart => exact ⟨x + y, 0, rfl, rfl, by omega, by omega, by omega, by omega, hide rfl, rfl⟩
    case round =>
      obtain ⟨z, k, rfl, rfl, z0, z1, k0, k1, HZ, rfl⟩ := hrel
      have q3 : z.tdiv 35 = z / 35 := Int.tdiv_eq_ediv_of_nonneg z0
      by_cases hz5 : 455 < z
      · have HS := hide (bs1_more (k := k) hz5)
        have z2 : 0 ≤ z / 35 := by omega
        have z3 : z / 35 ≤ 2000000000 := by omega
        have z4 : k + 36 + 36 * (z / 35) ≤ 72000000000 := by omega
        have z5 : z / 35 < z := by omega
        generalize z / 35 = z' at *
        go_wp2
        go_roundw
        case rel => exact ⟨z', k + 36, rfl, rfl, z2, z3, by omega, z4, hide ((unhide HS).symm.trans (unhide HZ)), trivial⟩
        case measure => simp [intOf]; omega
      · have HS := hide (bs1_last (k := k) z0 (by omega))
        have hr := rat_bd z0
        have q4 : (36 * z).tdiv (z + 38) = 36 * z / (z + 38) := Int.tdiv_eq_ediv_of_nonneg (by omega)
        have hz9 : (z + 38 == 0) = false := by rw [beq_eq_false_iff_ne]; omega
        generalize 36 * z / (z + 38) = r at *
        obtain ⟨r0, r1⟩ := hr
        obtain ⟨d0, d1, g0, g1⟩ := (unhide W) (k + r)
        have B2 := hide (((unhide HBx).put0 (k + r)).put1 true)
        have K2 := hide (Ka.two (A := A) wr (.int .i64 (k + r)) (.bool true))
        go_wp2
        go_end0
        exact ⟨rfl, by rw [unhide HN, ← unhide HZ, unhide HS]; exact unhide B2, unhide K2⟩
  | false =>
    have ef : d / 700 = hlf d false := by rw [unhide HF]; rfl
    rw [ef] at q2
    clear ef HF q1
    generalize hlf d false = x at *
    generalize hy : x / h = y at *
    clear hy
    go_enter Tryd.func38, Tryd.ntmps38
    go_wp2
    go_loopw [1, 6] (fun dv kv wr => ∃ (z k : Int), dv = .int .i64 z ∧ kv = .int .i64 k ∧ 0 ≤ z ∧ z ≤ 2000000000 ∧ 0 ≤ k ∧ k + 36 * z ≤ 72000000000 ∧ Hid (bs1 z k = bs1 (x + y) 0) ∧ wr = w) (fun dv _ _ => (intOf dv).toNat)
    case atStart => exact ⟨x + y, 0, rfl, rfl, by omega, by omega, by omega, by omega, hide rfl, rfl⟩
    case round =>
      obtain ⟨z, k, rfl, rfl, z0, z1, k0, k1, HZ, rfl⟩ := hrel
      have q3 : z.tdiv 35 = z / 35 := Int.tdiv_eq_ediv_of_nonneg z0
      by_cases hz5 : 455 < z
      · have HS := hide (bs1_more (k := k) hz5)
        have z2 : 0 ≤ z / 35 := by omega
        have z3 : z / 35 ≤ 2000000000 := by omega
        have z4 : k + 36 + 36 * (z / 35) ≤ 72000000000 := by omega
        have z5 : z / 35 < z := by omega
        generalize z / 35 = z' at *
        go_wp2
        go_roundw
        case rel => exact ⟨z', k + 36, rfl, rfl, z2, z3, by omega, z4, hide ((unhide HS).symm.trans (unhide HZ)), trivial⟩
        case measure => simp [intOf]; omega
      · have HS := hide (bs1_last (k := k) z0 (by omega))
        have hr := rat_bd z0
        have q4 : (36 * z).tdiv (z + 38) = 36 * z / (z + 38) := Int.tdiv_eq_ediv_of_nonneg (by omega)
        have hz9 : (z + 38 == 0) = false := by rw [beq_eq_false_iff_ne]; omega
        generalize 36 * z / (z + 38) = r at *
        obtain ⟨r0, r1⟩ := hr
        obtain ⟨d0, d1, g0, g1⟩ := (unhide W) (k + r)
        have B2 := hide (((unhide HBx).put0 (k + r)).put1 true)
        have K2 := hide (Ka.two (A := A) wr (.int .i64 (k + r)) (.bool true))
        go_wp2
        go_end0
        exact ⟨rfl, by rw [unhide HN, ← unhide HZ, unhide HS]; exact unhide B2, unhide K2⟩
end Go.Proofs.YthjjojkabbepdaaDoor.Lab
