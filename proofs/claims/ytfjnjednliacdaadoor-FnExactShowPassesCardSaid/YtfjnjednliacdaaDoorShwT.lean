/- ShowPasses of the specification. -/
import Derived.Test.YtfjnjednliacdaaDoorShwS
namespace Go.Proofs.YtfjnjednliacdaaDoor.Pas
open Go.RowKit
set_option linter.unusedVariables false
set_option linter.unusedSimpArgs false
def brs : Nat → List Int
  | 0 => []
  | n + 1 => brs n ++ (if n = 0 then [32, 124] else [124])
theorem brs_is (c : Nat) : brs c = bars (c : Int) := by
  have h : ∀ n, brs (n + 1) = 32 :: List.replicate (n + 1) 124 := by
    intro n
    induction n with
    | zero => rfl
    | succ n ih =>
      have e : brs (n + 1 + 1) = brs (n + 1) ++ [124] := by
        show brs (n + 1) ++ (if n + 1 = 0 then [32, 124] else [124]) = _
        rw [if_neg (by omega)]
      rw [e, ih, List.replicate_succ' (n := n + 1)]
      simp
  cases c with
  | zero => rfl
  | succ n =>
    rw [h n]
    unfold bars
    rw [if_pos (by omega)]
    rfl
theorem brs_len (n : Nat) : (brs n).length ≤ n + 1 := by
  rw [brs_is]
  unfold bars
  split
  · simp
  · simp
set_option maxRecDepth 100000 in
set_option maxHeartbeats 16000000 in
theorem specS (v : Value) (P : List Pa) (B : Nat) (w : World) (hv : PaAt B w v P) (hs : Small P) :
    Calls Tryd.prog 5 #[v] w fun e w' => e = .returned (.string (strOfNums (shP P))) ∧ Below w.heap.size w w' := by
  have PF := hide (specPF v P B w hv hs)
  have E0 : ({ data := #[] } : ByteArray) = strOfNums [] := rfl
  have E1 : ({ data := #[58] } : ByteArray) = strOfNums [58] := rfl
  have E2 : ({ data := #[10] } : ByteArray) = strOfNums [10] := rfl
  have E3 : ({ data := #[91] } : ByteArray) = strOfNums [91] := rfl
  have E4 : ({ data := #[93] } : ByteArray) = strOfNums [93] := rfl
  have E5 : ({ data := #[32, 62, 32] } : ByteArray) = strOfNums [32, 62, 32] := rfl
  have E6 : ({ data := #[32] } : ByteArray) = strOfNums [32] := rfl
  have E7 : ({ data := #[124] } : ByteArray) = strOfNums [124] := rfl
  obtain ⟨a, cap, rfl, hv⟩ := hv
  have hl := hs.1
  have HV := hide hv
  have hshl := shP_len P
  clear hv hs
  cases hr : right P with
  | false =>
    have hf : flt P = 1 := by unfold flt; rw [hr]; rfl
    have HX : Hid (shP P = []) := hide (by unfold shP; rw [hr]; rfl)
    rw [hf] at PF
    clear hf hr hshl
    generalize shP P = X at *
    go_enter Tryd.func5, Tryd.ntmps5
    go_wp2_with (go_at_call 10; refine (unhide PF).mono ?_; rintro e w1 ⟨rfl, hb1⟩; have B1 := hide hb1; clear hb1)
    go_ret
    exact ⟨by rw [unhide HX]; rfl, unhide B1⟩
  | true =>
    have hf : flt P = 0 := by unfold flt; rw [hr]; rfl
    obtain ⟨h10, hq⟩ := right_parts hr
    have HX : Hid (shP P = txt P P.length) := hide (by unfold shP; rw [hr]; rfl)
    rw [hf] at PF
    have HQ := hide hq
    have CM := hide (fun W => small_any (shP P) W hshl)
    clear hf hr hq hshl
    generalize shP P = X at *
    go_enter Tryd.func5, Tryd.ntmps5
    go_wp2_with fail
    refine (unhide PF).mono ?_
    rintro e w1 ⟨rfl, hb1⟩
    have B1 := hide hb1
    clear hb1 PF
    go_wp2
    go_loopw [3, 4] (fun tv iv wr => ∃ k : Nat, k ≤ P.length ∧ iv = .int .i64 k ∧ tv = .string (strOfNums (txt P k)) ∧ Hid (Below w.heap.size w wr)) (fun _ iv _ => P.length - (intOf iv).toNat)
    case atStart => exact ⟨0, Nat.zero_le _, rfl, rfl, B1⟩
    case round =>
      obtain ⟨k, hk, rfl, rfl, HB⟩ := hrel
      clear B1
      by_cases hlt : k < P.length
      · have hlt' : (k : Int) < (P.length : Int) := by omega
        rcases unhide HV with h' | ⟨b, off, rfl, _, hbs, hc⟩
        · rw [h'] at hlt; simp at hlt
        obtain ⟨u, c1, hu, c2⟩ := hc k hlt
        have d1 := ((unhide HB).cell (p := ⟨b, off + k * 2, none⟩) hbs).trans c1
        have d2 := ((unhide HB).cell (p := ⟨b, off + k * 2 + 1, none⟩) hbs).trans c2
        have hBs := (unhide HB).size
        obtain ⟨⟨hg0, hg4⟩, hcn, hok⟩ := okP_parts (okq_at (unhide HQ) hlt)
        have hcn2 : cnt P (k + 1) = cnt P k + (gp P k).1.length := rfl
        have htl := txt_len (unhide HQ) k hk
        have hLl : (gp P k).1.length ≤ 100 := by omega
        have htot : (txt P k).length + 350 * (gp P k).1.length ≤ 40000 := by omega
        have HOK := hide hok
        have HTX : Hid (txt P (k + 1) = txt P k ++ ([58] ++ nam (gp P k).2 ++ [10] ++ lns (gp P k).1 (gp P k).1.length)) := hide rfl
        have HU := hide hu
        have C1 := hide c1
        obtain ⟨ua, uc, hue⟩ := hu.form
        clear c1 c2 hu hc hok hcn hcn2 htl
        generalize (gp P k).1 = L at *
        obtain ⟨m, hm⟩ : ∃ m : Nat, (gp P k).2 = (m : Int) := ⟨(gp P k).2.toNat, by omega⟩
        rw [hm] at d2 hg0 hg4 HTX
        have hm5 : m < 5 := by omega
        have hnl := nam_len (m : Int)
        have CW := hide (fun W => word_any m hm5 W)
        clear hm
        generalize txt P k = T at *
        generalize nam (m : Int) = Nm at *
        subst hue
        have a1 := fun (W : World) => str_add T [58] (by simp; omega) W
        obtain ⟨M2, hM2⟩ : ∃ N, N = T ++ [58] := ⟨_, rfl⟩
        rw [← hM2] at a1
        have hl2 : M2.length ≤ T.length + 1 := by rw [hM2]; simp
        have a2 := fun (W : World) => str_add M2 Nm (by omega) W
        obtain ⟨M3, hM3⟩ : ∃ N, N = M2 ++ Nm := ⟨_, rfl⟩
        rw [← hM3] at a2
        have hl3 : M3.length ≤ T.length + 5 := by rw [hM3, List.length_append]; omega
        have a3 := fun (W : World) => str_add M3 [10] (by simp; omega) W
        obtain ⟨M4, hM4⟩ : ∃ N, N = M3 ++ [10] := ⟨_, rfl⟩
        rw [← hM4] at a3
        have hl4 : M4.length ≤ T.length + 6 := by rw [hM4, List.length_append]; simp; omega
        have HM2 := hide hM2
        have HM3 := hide hM3
        have HM4 := hide hM4
        clear hM2 hM3 hM4
        obtain ⟨wo, rfl⟩ : ∃ wo : World, wo = wr := ⟨wr, rfl⟩
        go_wp2_with (go_at_call 11; refine ((unhide CW) _).mono ?_; rintro e w2 ⟨rfl, hb2⟩; have B2 := hide ((unhide HB).trans (hb2.mono hBs)); clear hb2)
        go_loopw [3, 5] (fun tv jv wx => ∃ j : Nat, j ≤ L.length ∧ jv = .int .i64 j ∧ tv = .string (strOfNums (M4 ++ lns L j)) ∧ Hid (Below w.heap.size w wx)) (fun _ jv _ => L.length - (intOf jv).toNat)
        case atStart => exact ⟨0, Nat.zero_le _, rfl, by simp [lns], B2⟩
        case round =>
          obtain ⟨j, hj, rfl, rfl, HB5⟩ := hrel
          clear B2 d1 d2 a1 a2 a3
          have hBs5 := (unhide HB5).size
          have e1 := ((unhide HB5).cell (p := ⟨b, off + k * 2, none⟩) hbs).trans (unhide C1)
          by_cases hjl : j < L.length
          · have hjl' : (j : Int) < (L.length : Int) := by omega
            have h0j : (0 : Int) ≤ (j : Int) := by omega
            obtain ⟨_, _, he, hu⟩ := unhide HU
            injection he with he1 he2 he3
            clear he2 he3
            rcases hu with h' | ⟨b2, o2, hua, _, hb2s, hc2⟩
            · rw [h'] at hjl; simp at hjl
            rw [hua] at he1
            subst he1
            obtain ⟨x0, x1, x2, x3, x4⟩ := (hc2 j hjl).block ((unhide HB5).block b2 hb2s)
            obtain ⟨⟨p1, p2, p3, p4⟩, ⟨hp0, hp20⟩, hpl⟩ := okR_parts (okk_at (unhide HOK) hjl)
            have hln := lns_len (unhide HOK) j (by omega)
            have HLN : Hid (M4 ++ lns L (j + 1) = (M4 ++ lns L j) ++ line (gr L j)) := hide (by rw [show lns L (j + 1) = lns L j ++ line (gr L j) from rfl, List.append_assoc])
            have hYl : (M4 ++ lns L j).length ≤ 100000 := by rw [List.length_append]; omega
            clear hc2 hln hpl
            generalize M4 ++ lns L j = Y at *
            generalize gr L j = r0 at *
            obtain ⟨ta, tb, tc, td, tg⟩ := r0
            simp only at x0 x1 x2 x3 x4 p1 p2 p3 p4 hp0 hp20
            obtain ⟨c, rfl⟩ : ∃ c : Nat, tg = (c : Int) := ⟨tg.toNat, by omega⟩
            have HLe : Hid (line (ta, tb, tc, td, (c : Int)) = shw ta ++ [91] ++ shw tb ++ [93] ++ shw tc ++ [32, 62, 32] ++ shw td ++ brs c ++ [10]) := hide (by rw [brs_is]; rfl)
            have CA := hide (fun W => show_any ta W (by omega))
            have CB := hide (fun W => show_any tb W (by omega))
            have CC := hide (fun W => show_any tc W (by omega))
            have CD := hide (fun W => show_any td W (by omega))
            have s1 : (shw ta).length ≤ 160 := by have := shk_len ta ta.size; unfold shw; omega
            have s2 : (shw tb).length ≤ 160 := by have := shk_len tb tb.size; unfold shw; omega
            have s3 : (shw tc).length ≤ 160 := by have := shk_len tc tc.size; unfold shw; omega
            have s4 : (shw td).length ≤ 160 := by have := shk_len td td.size; unfold shw; omega
            generalize shw ta = Sa at *
            generalize shw tb = Sb at *
            generalize shw tc = Sc at *
            generalize shw td = Sd at *
            have g1 := fun (W : World) => str_add Y Sa (by (try simp); omega) W
            obtain ⟨Y1, hY1⟩ : ∃ N, N = Y ++ Sa := ⟨_, rfl⟩
            rw [← hY1] at g1
            have hy1 : Y1.length ≤ 100160 := by rw [hY1, List.length_append]; (try simp); omega
            have HY1 := hide hY1
            clear hY1
            have g2 := fun (W : World) => str_add Y1 [91] (by (try simp); omega) W
            obtain ⟨Y2, hY2⟩ : ∃ N, N = Y1 ++ [91] := ⟨_, rfl⟩
            rw [← hY2] at g2
            have hy2 : Y2.length ≤ 100161 := by rw [hY2, List.length_append]; (try simp); omega
            have HY2 := hide hY2
            clear hY2
            have g3 := fun (W : World) => str_add Y2 Sb (by (try simp); omega) W
            obtain ⟨Y3, hY3⟩ : ∃ N, N = Y2 ++ Sb := ⟨_, rfl⟩
            rw [← hY3] at g3
            have hy3 : Y3.length ≤ 100321 := by rw [hY3, List.length_append]; (try simp); omega
            have HY3 := hide hY3
            clear hY3
            have g4 := fun (W : World) => str_add Y3 [93] (by (try simp); omega) W
            obtain ⟨Y4, hY4⟩ : ∃ N, N = Y3 ++ [93] := ⟨_, rfl⟩
            rw [← hY4] at g4
            have hy4 : Y4.length ≤ 100322 := by rw [hY4, List.length_append]; (try simp); omega
            have HY4 := hide hY4
            clear hY4
            have g5 := fun (W : World) => str_add Y4 Sc (by (try simp); omega) W
            obtain ⟨Y5, hY5⟩ : ∃ N, N = Y4 ++ Sc := ⟨_, rfl⟩
            rw [← hY5] at g5
            have hy5 : Y5.length ≤ 100482 := by rw [hY5, List.length_append]; (try simp); omega
            have HY5 := hide hY5
            clear hY5
            have g6 := fun (W : World) => str_add Y5 [32, 62, 32] (by (try simp); omega) W
            obtain ⟨Y6, hY6⟩ : ∃ N, N = Y5 ++ [32, 62, 32] := ⟨_, rfl⟩
            rw [← hY6] at g6
            have hy6 : Y6.length ≤ 100485 := by rw [hY6, List.length_append]; (try simp); omega
            have HY6 := hide hY6
            clear hY6
            have g7 := fun (W : World) => str_add Y6 Sd (by (try simp); omega) W
            obtain ⟨Y7, hY7⟩ : ∃ N, N = Y6 ++ Sd := ⟨_, rfl⟩
            rw [← hY7] at g7
            have hy7 : Y7.length ≤ 100645 := by rw [hY7, List.length_append]; (try simp); omega
            have HY7 := hide hY7
            clear hY7
            go_upto_region 12 with fail
            have B1 := hide ((unhide HB5).alloc hBs5 (.cells #[.string ta, .string tb, .string tc, .string td, .int .i64 (c : Int)] 39))
            have KQ := hide (heap_new wr (.cells #[.string ta, .string tb, .string tc, .string td, .int .i64 (c : Int)] 39))
            have hq1 : wr.heap.size < (wr.alloc (.cells #[.string ta, .string tb, .string tc, .string td, .int .i64 (c : Int)] 39)).heap.size := by simp
            generalize wr.alloc (.cells #[.string ta, .string tb, .string tc, .string td, .int .i64 (c : Int)] 39) = w1 at *
            generalize wr.heap.size = q at *
            obtain ⟨tg, htg⟩ : ∃ tg, tg = (c : Int) := ⟨_, rfl⟩
            have KS : (fun w' => w'.cell? ⟨q, 0, none⟩ = some (.string ta) ∧ w'.cell? ⟨q, 1, none⟩ = some (.string tb) ∧ w'.cell? ⟨q, 2, none⟩ = some (.string tc) ∧ w'.cell? ⟨q, 3, none⟩ = some (.string td) ∧ w'.cell? ⟨q, 4, none⟩ = some (.int .i64 tg)) w1 := by rw [htg]; exact five_cells (unhide KQ)
            rw [← htg] at KQ
            clear x0 x1 x2 x3 x4 e1
            refine wp_region_held_drew (S := fun w' => w'.cell? ⟨q, 0, none⟩ = some (.string ta) ∧ w'.cell? ⟨q, 1, none⟩ = some (.string tb) ∧ w'.cell? ⟨q, 2, none⟩ = some (.string tc) ∧ w'.cell? ⟨q, 3, none⟩ = some (.string td) ∧ w'.cell? ⟨q, 4, none⟩ = some (.int .i64 tg)) (by kernel_rfl) (by first | go_keep | exact KS) (fun hHeld => ?_)
            refine tkP (i := 0) (d := some 45) (v := ?_) rfl rfl (by kernel_rfl) (by kernel_rfl) (by kernel_rfl) (fun _ _ _ h => h) (Or.inl ⟨by rfl, ?_⟩) (by assumption) ?_
            rotate_left
            · intro w hSw; (try dsimp only at hSw); go_simp; try with_reducible rfl
            try simp only [Act.put, List.setIfInBounds_toArray, List.set_cons_zero, List.set_cons_succ]
            refine tkP (i := 1) (d := some 46) (v := ?_) rfl rfl (by kernel_rfl) (by kernel_rfl) (by kernel_rfl) (fun _ _ _ h => h) (Or.inl ⟨by rfl, ?_⟩) (by assumption) ?_
            rotate_left
            · intro w hSw; (try dsimp only at hSw); go_simp; try with_reducible rfl
            try simp only [Act.put, List.setIfInBounds_toArray, List.set_cons_zero, List.set_cons_succ]
            refine tkP (i := 2) (d := some 47) (v := ?_) rfl rfl (by kernel_rfl) (by kernel_rfl) (by kernel_rfl) (fun _ _ _ h => h) (Or.inl ⟨by rfl, ?_⟩) (by assumption) ?_
            rotate_left
            · intro w hSw; (try dsimp only at hSw); go_simp; try with_reducible rfl
            try simp only [Act.put, List.setIfInBounds_toArray, List.set_cons_zero, List.set_cons_succ]
            refine tkP (i := 6) (d := some 51) (v := ?_) rfl rfl (by kernel_rfl) (by kernel_rfl) (by kernel_rfl) (fun _ _ _ h => h) (Or.inl ⟨by rfl, ?_⟩) (by assumption) ?_
            rotate_left
            · intro w hSw; (try dsimp only at hSw); go_simp; try with_reducible rfl
            try simp only [Act.put, List.setIfInBounds_toArray, List.set_cons_zero, List.set_cons_succ]
            refine tkP (i := 7) (d := some 52) (v := ?_) rfl rfl (by kernel_rfl) (by kernel_rfl) (by kernel_rfl) (fun _ _ _ h => h) (Or.inl ⟨by rfl, ?_⟩) (by assumption) ?_
            rotate_left
            · intro w hSw; (try dsimp only at hSw); go_simp; try with_reducible rfl
            try simp only [Act.put, List.setIfInBounds_toArray, List.set_cons_zero, List.set_cons_succ]
            refine tkP (i := 11) (d := some 56) (v := ?_) rfl rfl (by kernel_rfl) (by kernel_rfl) (by kernel_rfl) (fun _ _ _ h => h) (Or.inl ⟨by rfl, ?_⟩) (by assumption) ?_
            rotate_left
            · intro w hSw; (try dsimp only at hSw); go_simp; try with_reducible rfl
            try simp only [Act.put, List.setIfInBounds_toArray, List.set_cons_zero, List.set_cons_succ]
            refine tkP (i := 12) (d := some 57) (v := ?_) rfl rfl (by kernel_rfl) (by kernel_rfl) (by kernel_rfl) (fun _ _ _ h => h) (Or.inl ⟨by rfl, ?_⟩) (by assumption) ?_
            rotate_left
            · intro w hSw; (try dsimp only at hSw); go_simp; try with_reducible rfl
            try simp only [Act.put, List.setIfInBounds_toArray, List.set_cons_zero, List.set_cons_succ]
            refine tkP (i := 16) (d := some 61) (v := ?_) rfl rfl (by kernel_rfl) (by kernel_rfl) (by kernel_rfl) (fun _ _ _ h => h) (Or.inl ⟨by rfl, ?_⟩) (by assumption) ?_
            rotate_left
            · intro w hSw; (try dsimp only at hSw); go_simp; try with_reducible rfl
            try simp only [Act.put, List.setIfInBounds_toArray, List.set_cons_zero, List.set_cons_succ]
            refine tkP (i := 17) (d := some 62) (v := ?_) rfl rfl (by kernel_rfl) (by kernel_rfl) (by kernel_rfl) (fun _ _ _ h => h) (Or.inl ⟨by rfl, ?_⟩) (by assumption) ?_
            rotate_left
            · intro w hSw; (try dsimp only at hSw); go_simp; try with_reducible rfl
            try simp only [Act.put, List.setIfInBounds_toArray, List.set_cons_zero, List.set_cons_succ]
            refine wpAnyH_ready (rs := [3]) (by kernel_rfl) (by simp) (AllReadyH.cons rfl (fun K hK => ?_) AllReadyH.nil)
            go_simp
            go_at_call 12
            refine ((unhide CA) _).mono ?_
            rintro e v0 ⟨rfl, hb0⟩
            have BB0 := hide ((unhide B1).trans (((drewB w1).trans hb0).mono (unhide B1).size))
            have HQ0 := hide ((((drewB w1).trans hb0).block q hq1).trans (unhide KQ))
            have hql0 : q < v0.heap.size := (Array.getElem?_eq_some_iff.1 (unhide HQ0)).1
            have KS0 : (fun w' => w'.cell? ⟨q, 0, none⟩ = some (.string ta) ∧ w'.cell? ⟨q, 1, none⟩ = some (.string tb) ∧ w'.cell? ⟨q, 2, none⟩ = some (.string tc) ∧ w'.cell? ⟨q, 3, none⟩ = some (.string td) ∧ w'.cell? ⟨q, 4, none⟩ = some (.int .i64 tg)) v0 := five_cells (unhide HQ0)
            clear hb0
            try go_wp2_with fail
            refine hK.out _ _ KS0 (fun hHeldx0 => ?_)
            clear hK K
            try simp only [Act.put, List.setIfInBounds_toArray, List.set_cons_zero, List.set_cons_succ]
            refine tkP (i := 4) (d := some 49) (v := ?_) rfl rfl (by kernel_rfl) (by kernel_rfl) (by kernel_rfl) (fun _ _ _ h => h) (Or.inl ⟨by rfl, ?_⟩) (by assumption) ?_
            rotate_left
            · intro w hSw; (try dsimp only at hSw); go_simp; try with_reducible rfl
            try simp only [Act.put, List.setIfInBounds_toArray, List.set_cons_zero, List.set_cons_succ]
            refine tkP (i := 5) (d := some 50) (v := ?_) rfl rfl (by kernel_rfl) (by kernel_rfl) (by kernel_rfl) (fun _ _ _ h => h) (Or.inl ⟨by rfl, ?_⟩) (by assumption) ?_
            rotate_left
            · intro w hSw; (try dsimp only at hSw); go_simp; try with_reducible rfl
            try simp only [Act.put, List.setIfInBounds_toArray, List.set_cons_zero, List.set_cons_succ]
            refine wpAnyH_ready (rs := [8]) (by kernel_rfl) (by simp) (AllReadyH.cons rfl (fun K hK => ?_) AllReadyH.nil)
            go_simp
            go_at_call 12
            refine ((unhide CB) _).mono ?_
            rintro e v1 ⟨rfl, hb1⟩
            have BB1 := hide ((unhide BB0).trans (hb1.mono (unhide BB0).size))
            have HQ1 := hide ((hb1.block q hql0).trans (unhide HQ0))
            have hql1 : q < v1.heap.size := (Array.getElem?_eq_some_iff.1 (unhide HQ1)).1
            have KS1 : (fun w' => w'.cell? ⟨q, 0, none⟩ = some (.string ta) ∧ w'.cell? ⟨q, 1, none⟩ = some (.string tb) ∧ w'.cell? ⟨q, 2, none⟩ = some (.string tc) ∧ w'.cell? ⟨q, 3, none⟩ = some (.string td) ∧ w'.cell? ⟨q, 4, none⟩ = some (.int .i64 tg)) v1 := five_cells (unhide HQ1)
            clear hb1
            try go_wp2_with fail
            refine hK.out _ _ KS1 (fun hHeldx1 => ?_)
            clear hK K
            try simp only [Act.put, List.setIfInBounds_toArray, List.set_cons_zero, List.set_cons_succ]
            refine tkP (i := 9) (d := some 54) (v := ?_) rfl rfl (by kernel_rfl) (by kernel_rfl) (by kernel_rfl) (fun _ _ _ h => h) (Or.inl ⟨by rfl, ?_⟩) (by assumption) ?_
            rotate_left
            · intro w hSw; (try dsimp only at hSw); go_simp; try with_reducible rfl
            try simp only [Act.put, List.setIfInBounds_toArray, List.set_cons_zero, List.set_cons_succ]
            refine tkP (i := 10) (d := some 55) (v := ?_) rfl rfl (by kernel_rfl) (by kernel_rfl) (by kernel_rfl) (fun _ _ _ h => h) (Or.inl ⟨by rfl, ?_⟩) (by assumption) ?_
            rotate_left
            · intro w hSw; (try dsimp only at hSw); go_simp; try with_reducible rfl
            try simp only [Act.put, List.setIfInBounds_toArray, List.set_cons_zero, List.set_cons_succ]
            refine wpAnyH_ready (rs := [13]) (by kernel_rfl) (by simp) (AllReadyH.cons rfl (fun K hK => ?_) AllReadyH.nil)
            go_simp
            go_at_call 12
            refine ((unhide CC) _).mono ?_
            rintro e v2 ⟨rfl, hb2⟩
            have BB2 := hide ((unhide BB1).trans (hb2.mono (unhide BB1).size))
            have HQ2 := hide ((hb2.block q hql1).trans (unhide HQ1))
            have hql2 : q < v2.heap.size := (Array.getElem?_eq_some_iff.1 (unhide HQ2)).1
            have KS2 : (fun w' => w'.cell? ⟨q, 0, none⟩ = some (.string ta) ∧ w'.cell? ⟨q, 1, none⟩ = some (.string tb) ∧ w'.cell? ⟨q, 2, none⟩ = some (.string tc) ∧ w'.cell? ⟨q, 3, none⟩ = some (.string td) ∧ w'.cell? ⟨q, 4, none⟩ = some (.int .i64 tg)) v2 := five_cells (unhide HQ2)
            clear hb2
            try go_wp2_with fail
            refine hK.out _ _ KS2 (fun hHeldx2 => ?_)
            clear hK K
            try simp only [Act.put, List.setIfInBounds_toArray, List.set_cons_zero, List.set_cons_succ]
            refine tkP (i := 14) (d := some 59) (v := ?_) rfl rfl (by kernel_rfl) (by kernel_rfl) (by kernel_rfl) (fun _ _ _ h => h) (Or.inl ⟨by rfl, ?_⟩) (by assumption) ?_
            rotate_left
            · intro w hSw; (try dsimp only at hSw); go_simp; try with_reducible rfl
            try simp only [Act.put, List.setIfInBounds_toArray, List.set_cons_zero, List.set_cons_succ]
            refine tkP (i := 15) (d := some 60) (v := ?_) rfl rfl (by kernel_rfl) (by kernel_rfl) (by kernel_rfl) (fun _ _ _ h => h) (Or.inl ⟨by rfl, ?_⟩) (by assumption) ?_
            rotate_left
            · intro w hSw; (try dsimp only at hSw); go_simp; try with_reducible rfl
            try simp only [Act.put, List.setIfInBounds_toArray, List.set_cons_zero, List.set_cons_succ]
            refine wpAnyH_ready (rs := [18]) (by kernel_rfl) (by simp) (AllReadyH.cons rfl (fun K hK => ?_) AllReadyH.nil)
            go_simp
            go_at_call 12
            refine ((unhide CD) _).mono ?_
            rintro e v3 ⟨rfl, hb3⟩
            have BB3 := hide ((unhide BB2).trans (hb3.mono (unhide BB2).size))
            have HQ3 := hide ((hb3.block q hql2).trans (unhide HQ2))
            have hql3 : q < v3.heap.size := (Array.getElem?_eq_some_iff.1 (unhide HQ3)).1
            have KS3 : (fun w' => w'.cell? ⟨q, 0, none⟩ = some (.string ta) ∧ w'.cell? ⟨q, 1, none⟩ = some (.string tb) ∧ w'.cell? ⟨q, 2, none⟩ = some (.string tc) ∧ w'.cell? ⟨q, 3, none⟩ = some (.string td) ∧ w'.cell? ⟨q, 4, none⟩ = some (.int .i64 tg)) v3 := five_cells (unhide HQ3)
            clear hb3
            try go_wp2_with fail
            refine hK.out _ _ KS3 (fun hHeldx3 => ?_)
            clear hK K
            try simp only [Act.put, List.setIfInBounds_toArray, List.set_cons_zero, List.set_cons_succ]
            refine tkP (i := 19) (d := some 64) (v := ?_) rfl rfl (by kernel_rfl) (by kernel_rfl) (by kernel_rfl) (fun _ _ _ h => h) (Or.inl ⟨by rfl, ?_⟩) (by assumption) ?_
            rotate_left
            · intro w hSw; (try dsimp only at hSw); go_simp; try with_reducible rfl
            try simp only [Act.put, List.setIfInBounds_toArray, List.set_cons_zero, List.set_cons_succ]
            refine tkP (i := 20) (d := some 3) (v := ?_) rfl rfl (by kernel_rfl) (by kernel_rfl) (by kernel_rfl) (fun _ _ _ h => h) (Or.inl ⟨by rfl, ?_⟩) (by assumption) ?_
            rotate_left
            · intro w hSw; (try dsimp only at hSw); go_simp; try with_reducible rfl
            try simp only [Act.put, List.setIfInBounds_toArray, List.set_cons_zero, List.set_cons_succ]
            refine wpAnyH_done (by kernel_rfl) ?_ _
            subst htg
            obtain ⟨_, _, _, _, z4⟩ := five_cells (unhide HQ3)
            clear g1 g2 g3 g4 g5 g6 g7 CA CB CC CD KS KS0 KS1 KS2 KS3 HQ0 HQ1 HQ2
            go_wp2
            go_loopw [3, 7] (fun tv nv wy => ∃ n : Nat, n ≤ c ∧ nv = .int .i64 n ∧ tv = .string (strOfNums (Y7 ++ brs n)) ∧ wy = v3) (fun _ nv _ => c - (intOf nv).toNat)
            case atStart => exact ⟨0, Nat.zero_le _, rfl, by simp [brs], rfl⟩
            case round =>
              obtain ⟨n, hn, rfl, rfl, rfl⟩ := hrel
              by_cases hnc : n < c
              · have hnc' : (n : Int) < (c : Int) := by omega
                have hbl := brs_len n
                have hZl : (Y7 ++ brs n).length ≤ 102000 := by rw [List.length_append]; omega
                have HBr : Hid (Y7 ++ brs (n + 1) = Y7 ++ brs n ++ (if n = 0 then [32, 124] else [124])) := hide (by rw [show brs (n + 1) = brs n ++ (if n = 0 then [32, 124] else [124]) from rfl, List.append_assoc])
                generalize Y7 ++ brs n = Z at *
                clear hbl
                by_cases hn0 : n = 0
                · have g1 := fun (W : World) => str_add Z [32] (by simp; omega) W
                  obtain ⟨Z1, hZ1⟩ : ∃ N, N = Z ++ [32] := ⟨_, rfl⟩
                  rw [← hZ1] at g1
                  have hz1 : Z1.length ≤ 102001 := by rw [hZ1, List.length_append]; simp; omega
                  have g2 := fun (W : World) => str_add Z1 [124] (by simp; omega) W
                  have HF : Hid (Y7 ++ brs (n + 1) = Z1 ++ [124]) := hide (by rw [unhide HBr, if_pos hn0, hZ1]; simp)
                  have hn0' : ((n : Int) == 0) = true := by rw [hn0]; rfl
                  clear hZ1 HBr hn0
                  go_wp2
                  go_roundw
                  case rel => exact ⟨n + 1, by omega, by go_num, by rw [unhide HF], trivial⟩
                  case measure => simp [intOf]; omega
                · have g1 := fun (W : World) => str_add Z [124] (by simp; omega) W
                  have HF : Hid (Y7 ++ brs (n + 1) = Z ++ [124]) := hide (by rw [unhide HBr, if_neg hn0])
                  have hn0' : ((n : Int) == 0) = false := by rw [beq_eq_false_iff_ne]; omega
                  clear HBr hn0
                  go_wp2
                  go_roundw
                  case rel => exact ⟨n + 1, by omega, by go_num, by rw [unhide HF], trivial⟩
                  case measure => simp [intOf]; omega
              · obtain rfl : n = c := by omega
                have hnc' : ¬ (n : Int) < (n : Int) := by omega
                have hbl := brs_len n
                have g1 := fun (W : World) => str_add (Y7 ++ brs n) [10] (by simp; omega) W
                have HF : Hid (M4 ++ lns L (j + 1) = Y7 ++ brs n ++ [10]) := hide (by rw [unhide HLN, unhide HLe, unhide HY7, unhide HY6, unhide HY5, unhide HY4, unhide HY3, unhide HY2, unhide HY1]; simp [List.append_assoc])
                generalize Y7 ++ brs n = Z at *
                clear hbl
                go_wp2
                go_roundw
                case rel => exact ⟨j + 1, by omega, by go_num, by rw [unhide HF], BB3⟩
                case measure => simp [intOf]; omega
          · obtain rfl : j = L.length := by omega
            have hjl' : ¬ (L.length : Int) < (L.length : Int) := by omega
            have HF : Hid (txt P (k + 1) = M4 ++ lns L L.length) := hide (by rw [unhide HTX, unhide HM4, unhide HM3, unhide HM2]; simp [List.append_assoc])
            go_wp2
            go_roundw
            case rel => exact ⟨k + 1, by omega, by go_num, by rw [unhide HF], HB5⟩
            case measure => simp [intOf]; omega
      · obtain rfl : k = P.length := by omega
        rw [← unhide HX]
        go_wp2_with (go_at_call 13; refine ((unhide CM) _).mono ?_; rintro e w' ⟨rfl, hw⟩; obtain rfl := hw.symm; clear hw)
        go_ret
        exact ⟨rfl, unhide HB⟩
end Go.Proofs.YtfjnjednliacdaaDoor.Pas
