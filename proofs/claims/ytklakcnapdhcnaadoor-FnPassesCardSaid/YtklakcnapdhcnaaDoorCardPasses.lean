/- For every two codes the law FnPasses returns true, where the package variables unicode/utf8.acceptRanges, unicode/utf8.first and impl.normNames read as their texts lay them (the card ties that). -/
import Derived.Test.YtklakcnapdhcnaaDoorShwS
import Derived.Test.YtklakcnapdhcnaaDoorMM
import Derived.Test.YtklakcnapdhcnaaDoorRdpL
import Derived.Test.YtklakcnapdhcnaaDoorShwQ
import Derived.Test.YtklakcnapdhcnaaDoorRdpN
import Derived.Test.YtklakcnapdhcnaaDoorMR
import Derived.Test.YtklakcnapdhcnaaDoorShwK
import Derived.ProofKit
import Derived.OpenShut
import Derived.LaidMore
import Derived.Lib.LaidU8T
import Derived.OpenVars
import Derived.PinnedBridge
import Derived.Test.YtklakcnapdhcnaaDoorTie
import Derived.Test.YtklakcnapdhcnaaDoorCards
import Derived.WalkKit
import Derived.ShutString
import Derived.ChangeOld
import Derived.Below
import Derived.Lay
import Derived.SevenTiedAt
import Derived.Stop.Joined
/- Several texts in one. -/
/- ShowPasses of the specification. -/
namespace Go.Proofs.YtklakcnapdhcnaaDoor.Pas
open Go.RowKit
set_option linter.unusedVariables false
set_option linter.unusedSimpArgs false
def brsT : Nat → List Int
  | 0 => []
  | n + 1 => brsT n ++ (if n = 0 then [32, 124] else [124])
theorem brs_is (c : Nat) : brsT c = bars (c : Int) := by
  have h : ∀ n, brsT (n + 1) = 32 :: List.replicate (n + 1) 124 := by
    intro n
    induction n with
    | zero => rfl
    | succ n ih =>
      have e : brsT (n + 1 + 1) = brsT (n + 1) ++ [124] := by
        show brsT (n + 1) ++ (if n + 1 = 0 then [32, 124] else [124]) = _
        rw [if_neg (by omega)]
      rw [e, ih, List.replicate_succ' (n := n + 1)]
      simp
  cases c with
  | zero => rfl
  | succ n =>
    rw [h n]
    unfold bars
    rw [if_pos (by omega)]
    rfl
theorem brs_len (n : Nat) : (brsT n).length ≤ n + 1 := by
  rw [brs_is]
  unfold bars
  split
  · simp
  · simp
set_option maxRecDepth 100000 in
set_option maxHeartbeats 16000000 in
theorem specS (v : Value) (P : List Pa) (B : Nat) (w : World) (hv : PaAt B w v P) (hs : Small P) :
    Calls Tryd.prog 6 #[v] w fun e w' => e = .returned (.string (strOfNums (shP P))) ∧ Below w.heap.size w w' := by
  have PF := hide (specPF v P B w hv hs)
  have E0 : ({ data := #[] } : ByteArray) = strOfNums [] := rfl
  have E1 : ({ data := #[58] } : ByteArray) = strOfNums [58] := rfl
  have E2 : ({ data := #[10] } : ByteArray) = strOfNums [10] := rfl
  have E3 : ({ data := #[91] } : ByteArray) = strOfNums [91] := rfl
  have E4 : ({ data := #[93] } : ByteArray) = strOfNums [93] := rfl
  have E5 : ({ data := #[32, 62, 32] } : ByteArray) = strOfNums [32, 62, 32] := rfl
  have E6 : ({ data := #[32] } : ByteArray) = strOfNums [32] := rfl
  have E7 : ({ data := #[124] } : ByteArray) = strOfNums [124] := rfl
  obtain ⟨a, cap, rfl, hv⟩ := hv
  have hl := hs.1
  have HV := hide hv
  have hshl := shP_len P
  clear hv hs
  cases hr : right P with
  | false =>
    have hf : flt P = 1 := by unfold flt; rw [hr]; rfl
    have HX : Hid (shP P = []) := hide (by unfold shP; rw [hr]; rfl)
    rw [hf] at PF
    clear hf hr hshl
    generalize shP P = X at *
    go_enter Tryd.func6, Tryd.ntmps6
    go_wp2_with (go_at_call 8; refine (unhide PF).mono ?_; rintro e w1 ⟨rfl, hb1⟩; have B1 := hide hb1; clear hb1)
    go_ret
    exact ⟨by rw [unhide HX]; rfl, unhide B1⟩
  | true =>
    have hf : flt P = 0 := by unfold flt; rw [hr]; rfl
    obtain ⟨h10, hq⟩ := right_parts hr
    have HX : Hid (shP P = txt P P.length) := hide (by unfold shP; rw [hr]; rfl)
    rw [hf] at PF
    have HQ := hide hq
    have CM := hide (fun W => small_any (shP P) W hshl)
    clear hf hr hq hshl
    generalize shP P = X at *
    go_enter Tryd.func6, Tryd.ntmps6
    go_wp2_with fail
    refine (unhide PF).mono ?_
    rintro e w1 ⟨rfl, hb1⟩
    have B1 := hide hb1
    clear hb1 PF
    go_wp2
    go_loopw [3, 4] (fun tv iv wr => ∃ k : Nat, k ≤ P.length ∧ iv = .int .i64 k ∧ tv = .string (strOfNums (txt P k)) ∧ Hid (Below w.heap.size w wr)) (fun _ iv _ => P.length - (intOf iv).toNat)
    case atStart => exact ⟨0, Nat.zero_le _, rfl, rfl, B1⟩
    case round =>
      obtain ⟨k, hk, rfl, rfl, HB⟩ := hrel
      clear B1
      by_cases hlt : k < P.length
      · have hlt' : (k : Int) < (P.length : Int) := by omega
        rcases unhide HV with h' | ⟨b, off, rfl, _, hbs, hc⟩
        · rw [h'] at hlt; simp at hlt
        obtain ⟨u, c1, hu, c2⟩ := hc k hlt
        have d1 := ((unhide HB).cell (p := ⟨b, off + k * 2, none⟩) hbs).trans c1
        have d2 := ((unhide HB).cell (p := ⟨b, off + k * 2 + 1, none⟩) hbs).trans c2
        have hBs := (unhide HB).size
        obtain ⟨⟨hg0, hg4⟩, hcn, hok⟩ := okP_parts (okq_at (unhide HQ) hlt)
        have hcn2 : cnt P (k + 1) = cnt P k + (gp P k).1.length := rfl
        have htl := txt_len (unhide HQ) k hk
        have hLl : (gp P k).1.length ≤ 100 := by omega
        have htot : (txt P k).length + 350 * (gp P k).1.length ≤ 40000 := by omega
        have HOK := hide hok
        have HTX : Hid (txt P (k + 1) = txt P k ++ ([58] ++ nam (gp P k).2 ++ [10] ++ lns (gp P k).1 (gp P k).1.length)) := hide rfl
        have HU := hide hu
        have C1 := hide c1
        obtain ⟨ua, uc, hue⟩ := hu.form
        clear c1 c2 hu hc hok hcn hcn2 htl
        generalize (gp P k).1 = L at *
        obtain ⟨m, hm⟩ : ∃ m : Nat, (gp P k).2 = (m : Int) := ⟨(gp P k).2.toNat, by omega⟩
        rw [hm] at d2 hg0 hg4 HTX
        have hm5 : m < 5 := by omega
        have hnl := nam_len (m : Int)
        have CW := hide (fun W => word_any m hm5 W)
        clear hm
        generalize txt P k = T at *
        generalize nam (m : Int) = Nm at *
        subst hue
        have a1 := fun (W : World) => str_add T [58] (by simp; omega) W
        obtain ⟨M2, hM2⟩ : ∃ N, N = T ++ [58] := ⟨_, rfl⟩
        rw [← hM2] at a1
        have hl2 : M2.length ≤ T.length + 1 := by rw [hM2]; simp
        have a2 := fun (W : World) => str_add M2 Nm (by omega) W
        obtain ⟨M3, hM3⟩ : ∃ N, N = M2 ++ Nm := ⟨_, rfl⟩
        rw [← hM3] at a2
        have hl3 : M3.length ≤ T.length + 5 := by rw [hM3, List.length_append]; omega
        have a3 := fun (W : World) => str_add M3 [10] (by simp; omega) W
        obtain ⟨M4, hM4⟩ : ∃ N, N = M3 ++ [10] := ⟨_, rfl⟩
        rw [← hM4] at a3
        have hl4 : M4.length ≤ T.length + 6 := by rw [hM4, List.length_append]; simp; omega
        have HM2 := hide hM2
        have HM3 := hide hM3
        have HM4 := hide hM4
        clear hM2 hM3 hM4
        obtain ⟨wo, rfl⟩ : ∃ wo : World, wo = wr := ⟨wr, rfl⟩
        go_wp2_with (go_at_call 15; refine ((unhide CW) _).mono ?_; rintro e w2 ⟨rfl, hb2⟩; have B2 := hide ((unhide HB).trans (hb2.mono hBs)); clear hb2)
        go_loopw [3, 5] (fun tv jv wx => ∃ j : Nat, j ≤ L.length ∧ jv = .int .i64 j ∧ tv = .string (strOfNums (M4 ++ lns L j)) ∧ Hid (Below w.heap.size w wx)) (fun _ jv _ => L.length - (intOf jv).toNat)
        case atStart => exact ⟨0, Nat.zero_le _, rfl, by simp [lns], B2⟩
        case round =>
          obtain ⟨j, hj, rfl, rfl, HB5⟩ := hrel
          clear B2 d1 d2 a1 a2 a3
          have hBs5 := (unhide HB5).size
          have e1 := ((unhide HB5).cell (p := ⟨b, off + k * 2, none⟩) hbs).trans (unhide C1)
          by_cases hjl : j < L.length
          · have hjl' : (j : Int) < (L.length : Int) := by omega
            have h0j : (0 : Int) ≤ (j : Int) := by omega
            obtain ⟨_, _, he, hu⟩ := unhide HU
            injection he with he1 he2 he3
            clear he2 he3
            rcases hu with h' | ⟨b2, o2, hua, _, hb2s, hc2⟩
            · rw [h'] at hjl; simp at hjl
            rw [hua] at he1
            subst he1
            obtain ⟨x0, x1, x2, x3, x4⟩ := (hc2 j hjl).block ((unhide HB5).block b2 hb2s)
            obtain ⟨⟨p1, p2, p3, p4⟩, ⟨hp0, hp20⟩, hpl⟩ := okR_parts (okk_at (unhide HOK) hjl)
            have hln := lns_len (unhide HOK) j (by omega)
            have HLN : Hid (M4 ++ lns L (j + 1) = (M4 ++ lns L j) ++ line (gr L j)) := hide (by rw [show lns L (j + 1) = lns L j ++ line (gr L j) from rfl, List.append_assoc])
            have hYl : (M4 ++ lns L j).length ≤ 100000 := by rw [List.length_append]; omega
            clear hc2 hln hpl
            generalize M4 ++ lns L j = Y at *
            generalize gr L j = r0 at *
            obtain ⟨ta, tb, tc, td, tg⟩ := r0
            simp only at x0 x1 x2 x3 x4 p1 p2 p3 p4 hp0 hp20
            obtain ⟨c, rfl⟩ : ∃ c : Nat, tg = (c : Int) := ⟨tg.toNat, by omega⟩
            have HLe : Hid (line (ta, tb, tc, td, (c : Int)) = shw ta ++ [91] ++ shw tb ++ [93] ++ shw tc ++ [32, 62, 32] ++ shw td ++ brsT c ++ [10]) := hide (by rw [brs_is]; rfl)
            have CA := hide (fun W => show_any ta W (by omega))
            have CB := hide (fun W => show_any tb W (by omega))
            have CC := hide (fun W => show_any tc W (by omega))
            have CD := hide (fun W => show_any td W (by omega))
            have s1 : (shw ta).length ≤ 160 := by have := shk_len ta ta.size; unfold shw; omega
            have s2 : (shw tb).length ≤ 160 := by have := shk_len tb tb.size; unfold shw; omega
            have s3 : (shw tc).length ≤ 160 := by have := shk_len tc tc.size; unfold shw; omega
            have s4 : (shw td).length ≤ 160 := by have := shk_len td td.size; unfold shw; omega
            generalize shw ta = Sa at *
            generalize shw tb = Sb at *
            generalize shw tc = Sc at *
            generalize shw td = Sd at *
            have g1 := fun (W : World) => str_add Y Sa (by (try simp); omega) W
            obtain ⟨Y1, hY1⟩ : ∃ N, N = Y ++ Sa := ⟨_, rfl⟩
            rw [← hY1] at g1
            have hy1 : Y1.length ≤ 100160 := by rw [hY1, List.length_append]; (try simp); omega
            have HY1 := hide hY1
            clear hY1
            have g2 := fun (W : World) => str_add Y1 [91] (by (try simp); omega) W
            obtain ⟨Y2, hY2⟩ : ∃ N, N = Y1 ++ [91] := ⟨_, rfl⟩
            rw [← hY2] at g2
            have hy2 : Y2.length ≤ 100161 := by rw [hY2, List.length_append]; (try simp); omega
            have HY2 := hide hY2
            clear hY2
            have g3 := fun (W : World) => str_add Y2 Sb (by (try simp); omega) W
            obtain ⟨Y3, hY3⟩ : ∃ N, N = Y2 ++ Sb := ⟨_, rfl⟩
            rw [← hY3] at g3
            have hy3 : Y3.length ≤ 100321 := by rw [hY3, List.length_append]; (try simp); omega
            have HY3 := hide hY3
            clear hY3
            have g4 := fun (W : World) => str_add Y3 [93] (by (try simp); omega) W
            obtain ⟨Y4, hY4⟩ : ∃ N, N = Y3 ++ [93] := ⟨_, rfl⟩
            rw [← hY4] at g4
            have hy4 : Y4.length ≤ 100322 := by rw [hY4, List.length_append]; (try simp); omega
            have HY4 := hide hY4
            clear hY4
            have g5 := fun (W : World) => str_add Y4 Sc (by (try simp); omega) W
            obtain ⟨Y5, hY5⟩ : ∃ N, N = Y4 ++ Sc := ⟨_, rfl⟩
            rw [← hY5] at g5
            have hy5 : Y5.length ≤ 100482 := by rw [hY5, List.length_append]; (try simp); omega
            have HY5 := hide hY5
            clear hY5
            have g6 := fun (W : World) => str_add Y5 [32, 62, 32] (by (try simp); omega) W
            obtain ⟨Y6, hY6⟩ : ∃ N, N = Y5 ++ [32, 62, 32] := ⟨_, rfl⟩
            rw [← hY6] at g6
            have hy6 : Y6.length ≤ 100485 := by rw [hY6, List.length_append]; (try simp); omega
            have HY6 := hide hY6
            clear hY6
            have g7 := fun (W : World) => str_add Y6 Sd (by (try simp); omega) W
            obtain ⟨Y7, hY7⟩ : ∃ N, N = Y6 ++ Sd := ⟨_, rfl⟩
            rw [← hY7] at g7
            have hy7 : Y7.length ≤ 100645 := by rw [hY7, List.length_append]; (try simp); omega
            have HY7 := hide hY7
            clear hY7
            go_upto_region 12 with fail
            have B1 := hide ((unhide HB5).alloc hBs5 (.cells #[.string ta, .string tb, .string tc, .string td, .int .i64 (c : Int)] 40))
            have KQ := hide (heap_new wr (.cells #[.string ta, .string tb, .string tc, .string td, .int .i64 (c : Int)] 40))
            have hq1 : wr.heap.size < (wr.alloc (.cells #[.string ta, .string tb, .string tc, .string td, .int .i64 (c : Int)] 40)).heap.size := by simp
            generalize wr.alloc (.cells #[.string ta, .string tb, .string tc, .string td, .int .i64 (c : Int)] 40) = w1 at *
            generalize wr.heap.size = q at *
            obtain ⟨tg, htg⟩ : ∃ tg, tg = (c : Int) := ⟨_, rfl⟩
            have KS : (fun w' => w'.cell? ⟨q, 0, none⟩ = some (.string ta) ∧ w'.cell? ⟨q, 1, none⟩ = some (.string tb) ∧ w'.cell? ⟨q, 2, none⟩ = some (.string tc) ∧ w'.cell? ⟨q, 3, none⟩ = some (.string td) ∧ w'.cell? ⟨q, 4, none⟩ = some (.int .i64 tg)) w1 := by rw [htg]; exact five_cells (unhide KQ)
            rw [← htg] at KQ
            clear x0 x1 x2 x3 x4 e1
            refine wp_region_held_drew (S := fun w' => w'.cell? ⟨q, 0, none⟩ = some (.string ta) ∧ w'.cell? ⟨q, 1, none⟩ = some (.string tb) ∧ w'.cell? ⟨q, 2, none⟩ = some (.string tc) ∧ w'.cell? ⟨q, 3, none⟩ = some (.string td) ∧ w'.cell? ⟨q, 4, none⟩ = some (.int .i64 tg)) (by kernel_rfl) (by first | go_keep | exact KS) (fun hHeld => ?_)
            refine tkP (i := 0) (d := some 45) (v := ?_) rfl rfl (by kernel_rfl) (by kernel_rfl) (by kernel_rfl) (fun _ _ _ h => h) (Or.inl ⟨by rfl, ?_⟩) (by assumption) ?_
            rotate_left
            · intro w hSw; (try dsimp only at hSw); go_simp; try with_reducible rfl
            try simp only [Act.put, List.setIfInBounds_toArray, List.set_cons_zero, List.set_cons_succ]
            refine tkP (i := 1) (d := some 46) (v := ?_) rfl rfl (by kernel_rfl) (by kernel_rfl) (by kernel_rfl) (fun _ _ _ h => h) (Or.inl ⟨by rfl, ?_⟩) (by assumption) ?_
            rotate_left
            · intro w hSw; (try dsimp only at hSw); go_simp; try with_reducible rfl
            try simp only [Act.put, List.setIfInBounds_toArray, List.set_cons_zero, List.set_cons_succ]
            refine tkP (i := 2) (d := some 47) (v := ?_) rfl rfl (by kernel_rfl) (by kernel_rfl) (by kernel_rfl) (fun _ _ _ h => h) (Or.inl ⟨by rfl, ?_⟩) (by assumption) ?_
            rotate_left
            · intro w hSw; (try dsimp only at hSw); go_simp; try with_reducible rfl
            try simp only [Act.put, List.setIfInBounds_toArray, List.set_cons_zero, List.set_cons_succ]
            refine tkP (i := 6) (d := some 51) (v := ?_) rfl rfl (by kernel_rfl) (by kernel_rfl) (by kernel_rfl) (fun _ _ _ h => h) (Or.inl ⟨by rfl, ?_⟩) (by assumption) ?_
            rotate_left
            · intro w hSw; (try dsimp only at hSw); go_simp; try with_reducible rfl
            try simp only [Act.put, List.setIfInBounds_toArray, List.set_cons_zero, List.set_cons_succ]
            refine tkP (i := 7) (d := some 52) (v := ?_) rfl rfl (by kernel_rfl) (by kernel_rfl) (by kernel_rfl) (fun _ _ _ h => h) (Or.inl ⟨by rfl, ?_⟩) (by assumption) ?_
            rotate_left
            · intro w hSw; (try dsimp only at hSw); go_simp; try with_reducible rfl
            try simp only [Act.put, List.setIfInBounds_toArray, List.set_cons_zero, List.set_cons_succ]
            refine tkP (i := 11) (d := some 56) (v := ?_) rfl rfl (by kernel_rfl) (by kernel_rfl) (by kernel_rfl) (fun _ _ _ h => h) (Or.inl ⟨by rfl, ?_⟩) (by assumption) ?_
            rotate_left
            · intro w hSw; (try dsimp only at hSw); go_simp; try with_reducible rfl
            try simp only [Act.put, List.setIfInBounds_toArray, List.set_cons_zero, List.set_cons_succ]
            refine tkP (i := 12) (d := some 57) (v := ?_) rfl rfl (by kernel_rfl) (by kernel_rfl) (by kernel_rfl) (fun _ _ _ h => h) (Or.inl ⟨by rfl, ?_⟩) (by assumption) ?_
            rotate_left
            · intro w hSw; (try dsimp only at hSw); go_simp; try with_reducible rfl
            try simp only [Act.put, List.setIfInBounds_toArray, List.set_cons_zero, List.set_cons_succ]
            refine tkP (i := 16) (d := some 61) (v := ?_) rfl rfl (by kernel_rfl) (by kernel_rfl) (by kernel_rfl) (fun _ _ _ h => h) (Or.inl ⟨by rfl, ?_⟩) (by assumption) ?_
            rotate_left
            · intro w hSw; (try dsimp only at hSw); go_simp; try with_reducible rfl
            try simp only [Act.put, List.setIfInBounds_toArray, List.set_cons_zero, List.set_cons_succ]
            refine tkP (i := 17) (d := some 62) (v := ?_) rfl rfl (by kernel_rfl) (by kernel_rfl) (by kernel_rfl) (fun _ _ _ h => h) (Or.inl ⟨by rfl, ?_⟩) (by assumption) ?_
            rotate_left
            · intro w hSw; (try dsimp only at hSw); go_simp; try with_reducible rfl
            try simp only [Act.put, List.setIfInBounds_toArray, List.set_cons_zero, List.set_cons_succ]
            refine wpAnyH_ready (rs := [3]) (by kernel_rfl) (by simp) (AllReadyH.cons rfl (fun K hK => ?_) AllReadyH.nil)
            go_simp
            go_at_call 16
            refine ((unhide CA) _).mono ?_
            rintro e v0 ⟨rfl, hb0⟩
            have BB0 := hide ((unhide B1).trans (((drewB w1).trans hb0).mono (unhide B1).size))
            have HQ0 := hide ((((drewB w1).trans hb0).block q hq1).trans (unhide KQ))
            have hql0 : q < v0.heap.size := (Array.getElem?_eq_some_iff.1 (unhide HQ0)).1
            have KS0 : (fun w' => w'.cell? ⟨q, 0, none⟩ = some (.string ta) ∧ w'.cell? ⟨q, 1, none⟩ = some (.string tb) ∧ w'.cell? ⟨q, 2, none⟩ = some (.string tc) ∧ w'.cell? ⟨q, 3, none⟩ = some (.string td) ∧ w'.cell? ⟨q, 4, none⟩ = some (.int .i64 tg)) v0 := five_cells (unhide HQ0)
            clear hb0
            try go_wp2_with fail
            refine hK.out _ _ KS0 (fun hHeldx0 => ?_)
            clear hK K
            try simp only [Act.put, List.setIfInBounds_toArray, List.set_cons_zero, List.set_cons_succ]
            refine tkP (i := 4) (d := some 49) (v := ?_) rfl rfl (by kernel_rfl) (by kernel_rfl) (by kernel_rfl) (fun _ _ _ h => h) (Or.inl ⟨by rfl, ?_⟩) (by assumption) ?_
            rotate_left
            · intro w hSw; (try dsimp only at hSw); go_simp; try with_reducible rfl
            try simp only [Act.put, List.setIfInBounds_toArray, List.set_cons_zero, List.set_cons_succ]
            refine tkP (i := 5) (d := some 50) (v := ?_) rfl rfl (by kernel_rfl) (by kernel_rfl) (by kernel_rfl) (fun _ _ _ h => h) (Or.inl ⟨by rfl, ?_⟩) (by assumption) ?_
            rotate_left
            · intro w hSw; (try dsimp only at hSw); go_simp; try with_reducible rfl
            try simp only [Act.put, List.setIfInBounds_toArray, List.set_cons_zero, List.set_cons_succ]
            refine wpAnyH_ready (rs := [8]) (by kernel_rfl) (by simp) (AllReadyH.cons rfl (fun K hK => ?_) AllReadyH.nil)
            go_simp
            go_at_call 16
            refine ((unhide CB) _).mono ?_
            rintro e v1 ⟨rfl, hb1⟩
            have BB1 := hide ((unhide BB0).trans (hb1.mono (unhide BB0).size))
            have HQ1 := hide ((hb1.block q hql0).trans (unhide HQ0))
            have hql1 : q < v1.heap.size := (Array.getElem?_eq_some_iff.1 (unhide HQ1)).1
            have KS1 : (fun w' => w'.cell? ⟨q, 0, none⟩ = some (.string ta) ∧ w'.cell? ⟨q, 1, none⟩ = some (.string tb) ∧ w'.cell? ⟨q, 2, none⟩ = some (.string tc) ∧ w'.cell? ⟨q, 3, none⟩ = some (.string td) ∧ w'.cell? ⟨q, 4, none⟩ = some (.int .i64 tg)) v1 := five_cells (unhide HQ1)
            clear hb1
            try go_wp2_with fail
            refine hK.out _ _ KS1 (fun hHeldx1 => ?_)
            clear hK K
            try simp only [Act.put, List.setIfInBounds_toArray, List.set_cons_zero, List.set_cons_succ]
            refine tkP (i := 9) (d := some 54) (v := ?_) rfl rfl (by kernel_rfl) (by kernel_rfl) (by kernel_rfl) (fun _ _ _ h => h) (Or.inl ⟨by rfl, ?_⟩) (by assumption) ?_
            rotate_left
            · intro w hSw; (try dsimp only at hSw); go_simp; try with_reducible rfl
            try simp only [Act.put, List.setIfInBounds_toArray, List.set_cons_zero, List.set_cons_succ]
            refine tkP (i := 10) (d := some 55) (v := ?_) rfl rfl (by kernel_rfl) (by kernel_rfl) (by kernel_rfl) (fun _ _ _ h => h) (Or.inl ⟨by rfl, ?_⟩) (by assumption) ?_
            rotate_left
            · intro w hSw; (try dsimp only at hSw); go_simp; try with_reducible rfl
            try simp only [Act.put, List.setIfInBounds_toArray, List.set_cons_zero, List.set_cons_succ]
            refine wpAnyH_ready (rs := [13]) (by kernel_rfl) (by simp) (AllReadyH.cons rfl (fun K hK => ?_) AllReadyH.nil)
            go_simp
            go_at_call 16
            refine ((unhide CC) _).mono ?_
            rintro e v2 ⟨rfl, hb2⟩
            have BB2 := hide ((unhide BB1).trans (hb2.mono (unhide BB1).size))
            have HQ2 := hide ((hb2.block q hql1).trans (unhide HQ1))
            have hql2 : q < v2.heap.size := (Array.getElem?_eq_some_iff.1 (unhide HQ2)).1
            have KS2 : (fun w' => w'.cell? ⟨q, 0, none⟩ = some (.string ta) ∧ w'.cell? ⟨q, 1, none⟩ = some (.string tb) ∧ w'.cell? ⟨q, 2, none⟩ = some (.string tc) ∧ w'.cell? ⟨q, 3, none⟩ = some (.string td) ∧ w'.cell? ⟨q, 4, none⟩ = some (.int .i64 tg)) v2 := five_cells (unhide HQ2)
            clear hb2
            try go_wp2_with fail
            refine hK.out _ _ KS2 (fun hHeldx2 => ?_)
            clear hK K
            try simp only [Act.put, List.setIfInBounds_toArray, List.set_cons_zero, List.set_cons_succ]
            refine tkP (i := 14) (d := some 59) (v := ?_) rfl rfl (by kernel_rfl) (by kernel_rfl) (by kernel_rfl) (fun _ _ _ h => h) (Or.inl ⟨by rfl, ?_⟩) (by assumption) ?_
            rotate_left
            · intro w hSw; (try dsimp only at hSw); go_simp; try with_reducible rfl
            try simp only [Act.put, List.setIfInBounds_toArray, List.set_cons_zero, List.set_cons_succ]
            refine tkP (i := 15) (d := some 60) (v := ?_) rfl rfl (by kernel_rfl) (by kernel_rfl) (by kernel_rfl) (fun _ _ _ h => h) (Or.inl ⟨by rfl, ?_⟩) (by assumption) ?_
            rotate_left
            · intro w hSw; (try dsimp only at hSw); go_simp; try with_reducible rfl
            try simp only [Act.put, List.setIfInBounds_toArray, List.set_cons_zero, List.set_cons_succ]
            refine wpAnyH_ready (rs := [18]) (by kernel_rfl) (by simp) (AllReadyH.cons rfl (fun K hK => ?_) AllReadyH.nil)
            go_simp
            go_at_call 16
            refine ((unhide CD) _).mono ?_
            rintro e v3 ⟨rfl, hb3⟩
            have BB3 := hide ((unhide BB2).trans (hb3.mono (unhide BB2).size))
            have HQ3 := hide ((hb3.block q hql2).trans (unhide HQ2))
            have hql3 : q < v3.heap.size := (Array.getElem?_eq_some_iff.1 (unhide HQ3)).1
            have KS3 : (fun w' => w'.cell? ⟨q, 0, none⟩ = some (.string ta) ∧ w'.cell? ⟨q, 1, none⟩ = some (.string tb) ∧ w'.cell? ⟨q, 2, none⟩ = some (.string tc) ∧ w'.cell? ⟨q, 3, none⟩ = some (.string td) ∧ w'.cell? ⟨q, 4, none⟩ = some (.int .i64 tg)) v3 := five_cells (unhide HQ3)
            clear hb3
            try go_wp2_with fail
            refine hK.out _ _ KS3 (fun hHeldx3 => ?_)
            clear hK K
            try simp only [Act.put, List.setIfInBounds_toArray, List.set_cons_zero, List.set_cons_succ]
            refine tkP (i := 19) (d := some 64) (v := ?_) rfl rfl (by kernel_rfl) (by kernel_rfl) (by kernel_rfl) (fun _ _ _ h => h) (Or.inl ⟨by rfl, ?_⟩) (by assumption) ?_
            rotate_left
            · intro w hSw; (try dsimp only at hSw); go_simp; try with_reducible rfl
            try simp only [Act.put, List.setIfInBounds_toArray, List.set_cons_zero, List.set_cons_succ]
            refine tkP (i := 20) (d := some 3) (v := ?_) rfl rfl (by kernel_rfl) (by kernel_rfl) (by kernel_rfl) (fun _ _ _ h => h) (Or.inl ⟨by rfl, ?_⟩) (by assumption) ?_
            rotate_left
            · intro w hSw; (try dsimp only at hSw); go_simp; try with_reducible rfl
            try simp only [Act.put, List.setIfInBounds_toArray, List.set_cons_zero, List.set_cons_succ]
            refine wpAnyH_done (by kernel_rfl) ?_ _
            subst htg
            obtain ⟨_, _, _, _, z4⟩ := five_cells (unhide HQ3)
            clear g1 g2 g3 g4 g5 g6 g7 CA CB CC CD KS KS0 KS1 KS2 KS3 HQ0 HQ1 HQ2
            go_wp2
            go_loopw [3, 7] (fun tv nv wy => ∃ n : Nat, n ≤ c ∧ nv = .int .i64 n ∧ tv = .string (strOfNums (Y7 ++ brsT n)) ∧ wy = v3) (fun _ nv _ => c - (intOf nv).toNat)
            case atStart => exact ⟨0, Nat.zero_le _, rfl, by simp [brsT], rfl⟩
            case round =>
              obtain ⟨n, hn, rfl, rfl, rfl⟩ := hrel
              by_cases hnc : n < c
              · have hnc' : (n : Int) < (c : Int) := by omega
                have hbl := brs_len n
                have hZl : (Y7 ++ brsT n).length ≤ 102000 := by rw [List.length_append]; omega
                have HBr : Hid (Y7 ++ brsT (n + 1) = Y7 ++ brsT n ++ (if n = 0 then [32, 124] else [124])) := hide (by rw [show brsT (n + 1) = brsT n ++ (if n = 0 then [32, 124] else [124]) from rfl, List.append_assoc])
                generalize Y7 ++ brsT n = Z at *
                clear hbl
                by_cases hn0 : n = 0
                · have g1 := fun (W : World) => str_add Z [32] (by simp; omega) W
                  obtain ⟨Z1, hZ1⟩ : ∃ N, N = Z ++ [32] := ⟨_, rfl⟩
                  rw [← hZ1] at g1
                  have hz1 : Z1.length ≤ 102001 := by rw [hZ1, List.length_append]; simp; omega
                  have g2 := fun (W : World) => str_add Z1 [124] (by simp; omega) W
                  have HF : Hid (Y7 ++ brsT (n + 1) = Z1 ++ [124]) := hide (by rw [unhide HBr, if_pos hn0, hZ1]; simp)
                  have hn0' : ((n : Int) == 0) = true := by rw [hn0]; rfl
                  clear hZ1 HBr hn0
                  go_wp2
                  go_roundw
                  case rel => exact ⟨n + 1, by omega, by go_num, by rw [unhide HF], trivial⟩
                  case measure => simp [intOf]; omega
                · have g1 := fun (W : World) => str_add Z [124] (by simp; omega) W
                  have HF : Hid (Y7 ++ brsT (n + 1) = Z ++ [124]) := hide (by rw [unhide HBr, if_neg hn0])
                  have hn0' : ((n : Int) == 0) = false := by rw [beq_eq_false_iff_ne]; omega
                  clear HBr hn0
                  go_wp2
                  go_roundw
                  case rel => exact ⟨n + 1, by omega, by go_num, by rw [unhide HF], trivial⟩
                  case measure => simp [intOf]; omega
              · obtain rfl : n = c := by omega
                have hnc' : ¬ (n : Int) < (n : Int) := by omega
                have hbl := brs_len n
                have g1 := fun (W : World) => str_add (Y7 ++ brsT n) [10] (by simp; omega) W
                have HF : Hid (M4 ++ lns L (j + 1) = Y7 ++ brsT n ++ [10]) := hide (by rw [unhide HLN, unhide HLe, unhide HY7, unhide HY6, unhide HY5, unhide HY4, unhide HY3, unhide HY2, unhide HY1]; simp [List.append_assoc])
                generalize Y7 ++ brsT n = Z at *
                clear hbl
                go_wp2
                go_roundw
                case rel => exact ⟨j + 1, by omega, by go_num, by rw [unhide HF], BB3⟩
                case measure => simp [intOf]; omega
          · obtain rfl : j = L.length := by omega
            have hjl' : ¬ (L.length : Int) < (L.length : Int) := by omega
            have HF : Hid (txt P (k + 1) = M4 ++ lns L L.length) := hide (by rw [unhide HTX, unhide HM4, unhide HM3, unhide HM2]; simp [List.append_assoc])
            go_wp2
            go_roundw
            case rel => exact ⟨k + 1, by omega, by go_num, by rw [unhide HF], HB5⟩
            case measure => simp [intOf]; omega
      · obtain rfl : k = P.length := by omega
        rw [← unhide HX]
        go_wp2_with (go_at_call 17; refine ((unhide CM) _).mono ?_; rintro e w' ⟨rfl, hw⟩; obtain rfl := hw.symm; clear hw)
        go_ret
        exact ⟨rfl, unhide HB⟩
end Go.Proofs.YtklakcnapdhcnaaDoor.Pas
/- The draws of FnPasses, whole (written by tools/genfpsg.py). -/
namespace Go.Proofs.YtklakcnapdhcnaaDoor.Dr
open Go.RowKit
set_option linter.unusedVariables false
theorem grown_onP {w w' : World} {src B : Nat} (h : w.grownBy w' (some src)) (hB : B ≤ src) (hs : src < w.heap.size) : Below B w w' :=
  ⟨h.os, h.tape, h.output, by have := h.size; omega, fun k hk => h.block k (by omega) (fun e => by injection e with e; omega)⟩
theorem Sp.small {P : List Pas.Pa} {n : Nat} (h : Sp P n) (hn : n ≤ 1000) : Pas.Small P := ⟨by have := h.1; omega, fun i hi => ⟨by have := (h.2 i hi).1; omega, fun j hj => by have := (h.2 i hi).2 j hj; omega⟩⟩
set_option maxHeartbeats 4000000 in
theorem drawShow_any (w : World) (a : Option Addr) (len cap : Nat) (hl : len ≤ 1048576) (hc : CodeIn w a len) :
    Calls Tryd.prog 4 #[.slice a len cap] w fun e w' => ∃ (v : Value) (P : List Pas.Pa), e = .returned v ∧ Pas.PaAt w.heap.size w' v P ∧ Pas.Small P ∧ Below w.heap.size w w' := by
  have CS := hide (source_any w a len cap hl hc)
  clear hc
  go_enter Tryd.func4, Tryd.ntmps4
  go_wp2_with fail
  refine (unhide CS).mono ?_
  rintro e w1 ⟨rfl, size, hz0, hz1, hs, hb1, hlt⟩
  have B1 := hide hb1
  have CP := hide (passes_any w1 w.heap.size a len cap size hl hs)
  clear CS hs hb1
  go_wp2_with fail
  refine (unhide CP).mono ?_
  rintro e w2 ⟨v, P, rfl, hp, hsp, hs2, hg2⟩
  have B2 := hide ((unhide B1).trans (grown_onP hg2 (Nat.le_refl _) hlt))
  have HP := hide (hp.pa.down (Nat.le_of_lt hlt))
  obtain ⟨va, vc, rfl⟩ := hp.pa.form
  clear CP hs2 hg2 B1 hp
  go_wp2
  go_ret
  exact ⟨_, P, rfl, unhide HP, hsp.small (by omega), unhide B2⟩
theorem lit11 (w : World) : ∀ i, i < 11 → ∃ t : ByteArray, (w.alloc (.cells #[.string ⟨#[58, 110, 111, 110, 101]⟩, .string ⟨#[91, 97, 93, 32, 62, 32, 98, 10]⟩, .string ⟨#[58, 110, 111, 110, 101, 10, 91, 97, 93, 32, 62, 32, 98, 32, 124, 10]⟩, .string ⟨#[58, 110, 111, 110, 101, 10, 91, 97, 93, 32, 62, 32, 98, 32, 124, 124, 10]⟩, .string ⟨#[58, 110, 111, 110, 101, 10, 91, 97, 93, 32, 62, 32, 98, 32, 10]⟩, .string ⟨#[58, 110, 111, 110, 101, 10, 91, 93, 32, 62, 32, 98, 10]⟩, .string ⟨#[58, 110, 111, 110, 101, 10, 91, 97, 93, 62, 98, 10]⟩, .string ⟨#[58, 88, 10]⟩, .string ⟨#[10]⟩, .string ⟨#[58, 68, 10, 120, 91, 92, 110, 93, 92, 32, 62, 32, 92, 113, 10]⟩, .string ⟨#[58, 68, 10, 92, 91, 91, 97, 93, 32, 62, 32, 92, 92, 10]⟩] 9)).cell? ⟨w.heap.size, i, none⟩ = some (.string t) ∧ t.size ≤ 20 := by
  intro i hi
  have hh : (w.alloc (.cells #[.string ⟨#[58, 110, 111, 110, 101]⟩, .string ⟨#[91, 97, 93, 32, 62, 32, 98, 10]⟩, .string ⟨#[58, 110, 111, 110, 101, 10, 91, 97, 93, 32, 62, 32, 98, 32, 124, 10]⟩, .string ⟨#[58, 110, 111, 110, 101, 10, 91, 97, 93, 32, 62, 32, 98, 32, 124, 124, 10]⟩, .string ⟨#[58, 110, 111, 110, 101, 10, 91, 97, 93, 32, 62, 32, 98, 32, 10]⟩, .string ⟨#[58, 110, 111, 110, 101, 10, 91, 93, 32, 62, 32, 98, 10]⟩, .string ⟨#[58, 110, 111, 110, 101, 10, 91, 97, 93, 62, 98, 10]⟩, .string ⟨#[58, 88, 10]⟩, .string ⟨#[10]⟩, .string ⟨#[58, 68, 10, 120, 91, 92, 110, 93, 92, 32, 62, 32, 92, 113, 10]⟩, .string ⟨#[58, 68, 10, 92, 91, 91, 97, 93, 32, 62, 32, 92, 92, 10]⟩] 9)).heap[w.heap.size]? = some (.cells #[.string ⟨#[58, 110, 111, 110, 101]⟩, .string ⟨#[91, 97, 93, 32, 62, 32, 98, 10]⟩, .string ⟨#[58, 110, 111, 110, 101, 10, 91, 97, 93, 32, 62, 32, 98, 32, 124, 10]⟩, .string ⟨#[58, 110, 111, 110, 101, 10, 91, 97, 93, 32, 62, 32, 98, 32, 124, 124, 10]⟩, .string ⟨#[58, 110, 111, 110, 101, 10, 91, 97, 93, 32, 62, 32, 98, 32, 10]⟩, .string ⟨#[58, 110, 111, 110, 101, 10, 91, 93, 32, 62, 32, 98, 10]⟩, .string ⟨#[58, 110, 111, 110, 101, 10, 91, 97, 93, 62, 98, 10]⟩, .string ⟨#[58, 88, 10]⟩, .string ⟨#[10]⟩, .string ⟨#[58, 68, 10, 120, 91, 92, 110, 93, 92, 32, 62, 32, 92, 113, 10]⟩, .string ⟨#[58, 68, 10, 92, 91, 91, 97, 93, 32, 62, 32, 92, 92, 10]⟩] 9 (0, 0)) := Pas.heap_new w _
  obtain rfl | rfl | rfl | rfl | rfl | rfl | rfl | rfl | rfl | rfl | rfl : i = 0 ∨ i = 1 ∨ i = 2 ∨ i = 3 ∨ i = 4 ∨ i = 5 ∨ i = 6 ∨ i = 7 ∨ i = 8 ∨ i = 9 ∨ i = 10 := by omega
  all_goals exact ⟨_, by simp only [World.cell?, hh]; rfl, by decide⟩
set_option maxHeartbeats 4000000 in
set_option maxRecDepth 100000 in
theorem drawRead_any (w : World) (a : Option Addr) (len cap : Nat) (hl : len ≤ 1048576) (hc : CodeIn w a len) :
    Calls Tryd.prog 9 #[.slice a len cap] w fun e w' => ∃ s : ByteArray, e = .returned (.string s) ∧ s.size ≤ 200000 ∧ Below w.heap.size w w' := by
  have CS := hide (source_any w a len cap hl hc)
  clear hc
  go_enter Tryd.func9, Tryd.ntmps9
  go_wp2_with fail
  refine (unhide CS).mono ?_
  rintro e w1 ⟨rfl, size, hz0, hz1, hs, hb1, hlt⟩
  have B1 := hide hb1
  have CP := hide (passes_any w1 w.heap.size a len cap size hl hs)
  clear CS hs hb1
  go_wp2_with fail
  refine (unhide CP).mono ?_
  rintro e w2 ⟨v, P, rfl, hp, hsp, hs2, hg2⟩
  have B2 := hide ((unhide B1).trans (grown_onP hg2 (Nat.le_refl _) hlt))
  have S2 := hide hs2
  have CW := hide (Pas.specS v P _ w2 hp.pa (hsp.small (by omega)))
  have hlt2 := Nat.lt_of_lt_of_le hlt hg2.size
  obtain ⟨va, vc, rfl⟩ := hp.pa.form
  have hts : (strOfNums (Pas.shP P)).size ≤ 65536 := by rw [strOfNums_size]; exact Pas.shP_len P
  clear CP hs2 hg2 B1 hp hlt
  generalize strOfNums (Pas.shP P) = t at *
  go_wp2_with fail
  refine (unhide CW).mono ?_
  rintro e w3 ⟨rfl, hb⟩
  have hlt3 := Nat.lt_of_lt_of_le hlt2 hb.size
  have B3 := hide ((unhide B2).trans (hb.mono (by omega)))
  have S3 := hide (src_below (unhide S2) hb)
  clear CW hb S2 B2
  have CN := hide (n_nat w3 w.heap.size a len cap size 5 (by omega) (by omega) hl (unhide S3))
  go_wp2_with fail
  refine (unhide CN).mono ?_
  rintro e w4 ⟨c, rfl, hc, hs, hg⟩
  have hlt4 := Nat.lt_of_lt_of_le hlt3 hg.size
  have B4 := hide ((unhide B3).trans (grown_onP hg (Nat.le_refl _) hlt3))
  have S4 := hide hs
  clear CN hs hg S3 B3
  obtain rfl | rfl | rfl | hc3 : c = 0 ∨ c = 1 ∨ c = 2 ∨ 3 ≤ c := by omega
  · have CX := hide (spoil_any w4 w.heap.size a len cap size t hl (by omega) (unhide S4))
    go_wp2_with fail
    refine (unhide CX).mono ?_
    rintro e w5 ⟨u, rfl, hu, hs, hg⟩
    have B5 := hide ((unhide B4).trans (grown_onP hg (Nat.le_refl _) hlt4))
    clear CX hs hg
    go_wp2
    go_ret
    exact ⟨u, rfl, by omega, unhide B5⟩
  · have CX := hide (spoil_any w4 w.heap.size a len cap size t hl (by omega) (unhide S4))
    go_wp2_with fail
    refine (unhide CX).mono ?_
    rintro e w5 ⟨u, rfl, hu, hs, hg⟩
    have B5 := hide ((unhide B4).trans (grown_onP hg (Nat.le_refl _) hlt4))
    clear CX hs hg
    go_wp2
    go_ret
    exact ⟨u, rfl, by omega, unhide B5⟩
  · obtain ⟨o, ho⟩ : ∃ o : Obj, o = (.cells #[.string ⟨#[58, 110, 111, 110, 101]⟩, .string ⟨#[91, 97, 93, 32, 62, 32, 98, 10]⟩, .string ⟨#[58, 110, 111, 110, 101, 10, 91, 97, 93, 32, 62, 32, 98, 32, 124, 10]⟩, .string ⟨#[58, 110, 111, 110, 101, 10, 91, 97, 93, 32, 62, 32, 98, 32, 124, 124, 10]⟩, .string ⟨#[58, 110, 111, 110, 101, 10, 91, 97, 93, 32, 62, 32, 98, 32, 10]⟩, .string ⟨#[58, 110, 111, 110, 101, 10, 91, 93, 32, 62, 32, 98, 10]⟩, .string ⟨#[58, 110, 111, 110, 101, 10, 91, 97, 93, 62, 98, 10]⟩, .string ⟨#[58, 88, 10]⟩, .string ⟨#[10]⟩, .string ⟨#[58, 68, 10, 120, 91, 92, 110, 93, 92, 32, 62, 32, 92, 113, 10]⟩, .string ⟨#[58, 68, 10, 92, 91, 91, 97, 93, 32, 62, 32, 92, 92, 10]⟩] 9) := ⟨_, rfl⟩
    have CP := hide (pick_any (w4.alloc o) w.heap.size a len cap size w4.heap.size 11 11 20 (by omega) (by omega) hl (src_alloc (unhide S4) o) (by simp) (by omega) (by rw [ho]; exact lit11 w4))
    have B5 := hide ((unhide B4).alloc (unhide B4).size o)
    subst ho
    go_wp2_with fail
    refine (unhide CP).mono ?_
    rintro e w5 ⟨u, rfl, hu, hs, hg⟩
    have B6 := hide ((unhide B5).trans (grown_onP hg (Nat.le_refl _) (by simp; omega)))
    clear CP hs hg B5
    have hsum : t.size + u.size ≤ 65556 := by omega
    have hsz : (t ++ u).size ≤ 65556 := by rw [ByteArray.size_append]; exact hsum
    go_wp2
    go_ret
    exact ⟨t ++ u, rfl, by omega, unhide B6⟩
  · have c0 : ((c : Int) == 0) = false := by rw [beq_eq_false_iff_ne]; omega
    have c1 : ((c : Int) == 1) = false := by rw [beq_eq_false_iff_ne]; omega
    have c2 : ((c : Int) == 2) = false := by rw [beq_eq_false_iff_ne]; omega
    clear hc3 hc
    go_wp2
    go_ret
    exact ⟨t, rfl, by omega, unhide B4⟩
end Go.Proofs.YtklakcnapdhcnaaDoor.Dr
/- Passes come back from their text. No Go in sight. -/
namespace Go.Proofs.YtklakcnapdhcnaaDoor.Pas
open Go.RowKit
set_option linter.unusedVariables false
def Bys (zs : List Int) : Prop := ∀ x ∈ zs, 0 ≤ x ∧ x < 256
theorem Bys.app {a b : List Int} (ha : Bys a) (hb : Bys b) : Bys (a ++ b) := fun x hx => (List.mem_append.1 hx).elim (ha x) (hb x)
theorem Bys.left {a b : List Int} (h : Bys (a ++ b)) : Bys a := fun x hx => h x (List.mem_append.2 (.inl hx))
theorem Bys.right {a b : List Int} (h : Bys (a ++ b)) : Bys b := fun x hx => h x (List.mem_append.2 (.inr hx))
theorem bt_atL {A C : List Int} {b : Nat} (hz : Bys (A ++ (b : Int) :: C)) : bt (strOfNums (A ++ (b : Int) :: C)) A.length = b := by
  have h := bt_nums (A ++ (b : Int) :: C) A.length (by simp) hz
  have e : (A ++ (b : Int) :: C)[A.length]'(by simp) = (b : Int) := by simp
  rw [e] at h
  omega
theorem bt_atL2 {A C : List Int} {a : Int} {b : Nat} (hz : Bys (A ++ a :: (b : Int) :: C)) : bt (strOfNums (A ++ a :: (b : Int) :: C)) (A.length + 1) = b := by
  have e : A ++ a :: (b : Int) :: C = (A ++ [a]) ++ (b : Int) :: C := by simp
  rw [e] at hz ⊢
  have := bt_atL hz
  simpa using this
/-- The bytes of a text. -/
def bsO (x : ByteArray) : List Nat := (List.range x.size).map (bt x)
theorem shk_flat (x : ByteArray) : ∀ k, shk x k = ((List.range k).map (bt x)).flatMap esc
  | 0 => rfl
  | k + 1 => by
    rw [List.range_succ, List.map_append, List.flatMap_append, ← shk_flat x k]
    show shk x k ++ esc (bt x k) = _
    simp
theorem shw_flat (x : ByteArray) : shw x = (bsO x).flatMap esc := shk_flat x x.size
theorem bsO_back (x : ByteArray) : strOfNums ((bsO x).map (fun b : Nat => (b : Int))) = x := by
  apply ByteArray.ext
  apply Array.ext
  · have : (strOfNums ((bsO x).map (fun b : Nat => (b : Int)))).size = x.size := by rw [strOfNums_size]; simp [bsO]
    exact this
  · intro i h1 h2
    have hi : i < x.size := h2
    have e : (strOfNums ((bsO x).map (fun b : Nat => (b : Int)))).data[i] = UInt8.ofNat (bt x i) := by simp [strOfNums, bsO]
    rw [e, ← bt_get x i hi]
    show UInt8.ofNat (x.data[i]).toNat = x.data[i]
    simp
theorem bsO_lt (x : ByteArray) : ∀ b ∈ bsO x, b < 256 := fun b hb => by
  obtain ⟨i, _, rfl⟩ := List.mem_map.1 hb
  exact bt_lt x i
theorem esc_by {b : Nat} (h : b < 256) : Bys (esc b) := by
  intro x hx
  unfold esc at hx
  split at hx
  · simp at hx; omega
  · split at hx <;> simp at hx <;> omega
theorem esc_no10 {b : Nat} : ∀ x ∈ esc b, x ≠ 10 := by
  intro x hx
  unfold esc at hx
  split at hx
  · simp at hx; omega
  · split at hx <;> simp at hx
    · rcases hx with rfl | rfl <;> omega
    · omega
theorem shw_by (x : ByteArray) : Bys (shw x) := fun y hy => by
  rw [shw_flat] at hy
  obtain ⟨b, hb, hy⟩ := List.mem_flatMap.1 hy
  exact esc_by (bsO_lt x b hb) y hy
theorem shw_no10 (x : ByteArray) : ∀ y ∈ shw x, y ≠ 10 := fun y hy => by
  rw [shw_flat] at hy
  obtain ⟨b, hb, hy⟩ := List.mem_flatMap.1 hy
  exact esc_no10 y hy
/-- What may stand behind a text of a rule. -/
def Stp (C : List Int) : Prop := C = [] ∨ ∃ (c : Nat) (C' : List Int), C = (c : Int) :: C' ∧ sgnB c = true ∧ c ≠ 92
theorem sgn_list {b : Nat} (h : sgnB b = true) : b = 91 ∨ b = 93 ∨ b = 62 ∨ b = 124 ∨ b = 58 ∨ b = 32 ∨ b = 92 := by
  unfold sgnB at h
  simp only [Bool.or_eq_true, beq_iff_eq] at h
  omega
theorem tx_back : ∀ (bs : List Nat) (A C : List Int), (∀ b ∈ bs, b < 256) → Stp C → Bys (A ++ (bs.flatMap esc ++ C)) → txI (strOfNums (A ++ (bs.flatMap esc ++ C))) A.length = (bs.map (fun b : Nat => (b : Int)), A.length + (bs.flatMap esc).length, false)
  | [], A, C, _, hC, hz => by
    rcases hC with rfl | ⟨c, C', rfl, h1, h2⟩
    · rw [txI_end (by rw [strOfNums_size]; simp)]
      simp
    · have hb : bt (strOfNums (A ++ ([].flatMap esc ++ (c : Int) :: C'))) A.length = c := bt_atL (C := C') hz
      rw [txI_sgn (by rw [strOfNums_size]; simp) (by rw [hb]; exact h2) (by rw [hb]; exact h1)]
      simp
  | b :: t, A, C, hb, hC, hz => by
    have hlt := hb b (by simp)
    have e0 : (b :: t).flatMap esc = esc b ++ t.flatMap esc := List.flatMap_cons
    rw [e0] at hz ⊢
    by_cases h10 : b = 10
    · subst h10
      rw [esc_nl rfl] at hz ⊢
      have e1 : A ++ ([92, 110] ++ t.flatMap esc ++ C) = (A ++ [92, 110]) ++ (t.flatMap esc ++ C) := by simp
      have ih := tx_back t (A ++ [92, 110]) C (fun x hx => hb x (by simp [hx])) hC (by rw [← e1]; exact hz)
      rw [← e1] at ih
      have hs : A.length + 1 < (strOfNums (A ++ ([92, 110] ++ t.flatMap esc ++ C))).size := by rw [strOfNums_size]; simp
      have q0 : bt (strOfNums (A ++ ([92, 110] ++ t.flatMap esc ++ C))) A.length = 92 := bt_atL (b := 92) (C := 110 :: (t.flatMap esc ++ C)) (by simpa using hz)
      have q1 : bt (strOfNums (A ++ ([92, 110] ++ t.flatMap esc ++ C))) (A.length + 1) = 110 := bt_atL2 (a := 92) (b := 110) (C := t.flatMap esc ++ C) (by simpa using hz)
      rw [txI_hid (by omega) q0 hs, q1, show A.length + 2 = (A ++ [92, 110]).length by simp, ih]
      have eh : hid 110 = 10 := rfl
      have eb : badB 110 = false := by decide
      rw [eh, eb]
      simp
      omega
    · cases hsg : sgnB b with
      | true =>
        rw [esc_sg h10 hsg] at hz ⊢
        have e1 : A ++ ([92, (b : Int)] ++ t.flatMap esc ++ C) = (A ++ [92, (b : Int)]) ++ (t.flatMap esc ++ C) := by simp
        have ih := tx_back t (A ++ [92, (b : Int)]) C (fun x hx => hb x (by simp [hx])) hC (by rw [← e1]; exact hz)
        rw [← e1] at ih
        have hs : A.length + 1 < (strOfNums (A ++ ([92, (b : Int)] ++ t.flatMap esc ++ C))).size := by rw [strOfNums_size]; simp
        have q0 : bt (strOfNums (A ++ ([92, (b : Int)] ++ t.flatMap esc ++ C))) A.length = 92 := bt_atL (b := 92) (C := (b : Int) :: (t.flatMap esc ++ C)) (by simpa using hz)
        have q1 : bt (strOfNums (A ++ ([92, (b : Int)] ++ t.flatMap esc ++ C))) (A.length + 1) = b := bt_atL2 (a := 92) (b := b) (C := t.flatMap esc ++ C) (by simpa using hz)
        have hh : hid b = b := by unfold hid; rw [if_neg (by rcases sgn_list hsg with h | h | h | h | h | h | h <;> omega)]
        rw [txI_hid (by omega) q0 hs, q1, show A.length + 2 = (A ++ [92, (b : Int)]).length by simp, ih, hh]
        have eb : badB b = false := by unfold badB; rw [hsg]; simp
        rw [eb]
        simp
        omega
      | false =>
        rw [esc_no h10 hsg] at hz ⊢
        have e1 : A ++ ([(b : Int)] ++ t.flatMap esc ++ C) = (A ++ [(b : Int)]) ++ (t.flatMap esc ++ C) := by simp
        have ih := tx_back t (A ++ [(b : Int)]) C (fun x hx => hb x (by simp [hx])) hC (by rw [← e1]; exact hz)
        rw [← e1] at ih
        have q0 : bt (strOfNums (A ++ ([(b : Int)] ++ t.flatMap esc ++ C))) A.length = b := bt_atL (b := b) (C := t.flatMap esc ++ C) (by simpa using hz)
        rw [txI_on (by rw [strOfNums_size]; simp) (by rw [q0]; intro e; rw [e] at hsg; cases hsg) (by rw [q0, hsg]; simp), q0, show A.length + 1 = (A ++ [(b : Int)]).length by simp, ih]
        simp
        omega
theorem tI_back {x : ByteArray} {A C D : List Int} {p : Nat} (hp : A.length = p) (hD : D = A ++ (shw x ++ C)) (hC : Stp C) (hz : Bys D) : tI (strOfNums D) (p, false) = ((bsO x).map (fun b : Nat => (b : Int)), p + (shw x).length, false) := by
  subst hD hp
  rw [shw_flat] at hz ⊢
  unfold tI
  rw [tx_back (bsO x) A C (bsO_lt x) hC hz]
  rfl
theorem sg_back {c : Nat} {A C D : List Int} {p : Nat} (hp : A.length = p) (hD : D = A ++ ((c : Int) :: C)) (hz : Bys D) : sgI (strOfNums D) [c] (p, false) = (p + 1, false) := by
  subst hD hp
  have q := bt_atL hz
  unfold sgI
  rw [if_pos]
  · rfl
  · have hl : A.length < (strOfNums (A ++ ((c : Int) :: C))).size := by rw [strOfNums_size]; simp
    simp [pfx, q, hl]
theorem sg3_back {A C D : List Int} {p : Nat} (hp : A.length = p) (hD : D = A ++ ([32, 62, 32] ++ C)) (hz : Bys D) : sgI (strOfNums D) [32, 62, 32] (p, false) = (p + 3, false) := by
  subst hD hp
  have q0 : bt (strOfNums (A ++ ([32, 62, 32] ++ C))) A.length = 32 := bt_atL (b := 32) (C := 62 :: 32 :: C) (by simpa using hz)
  have q1 : bt (strOfNums (A ++ ([32, 62, 32] ++ C))) (A.length + 1) = 62 := bt_atL2 (a := 32) (b := 62) (C := 32 :: C) (by simpa using hz)
  have q2 : bt (strOfNums (A ++ ([32, 62, 32] ++ C))) (A.length + 1 + 1) = 32 := by
    have e : A ++ ([32, 62, 32] ++ C) = (A ++ [32, 62]) ++ ((32 : Nat) : Int) :: C := by simp
    have := bt_atL (A := A ++ [32, 62]) (b := 32) (C := C) (by rw [← e]; exact hz)
    rw [← e] at this
    simpa using this
  have hl : A.length + 2 < (strOfNums (A ++ ([32, 62, 32] ++ C))).size := by rw [strOfNums_size]; simp
  unfold sgI
  rw [if_pos]
  · rfl
  · have h0 : A.length < (strOfNums (A ++ ([32, 62, 32] ++ C))).size := by omega
    have h1 : A.length + 1 < (strOfNums (A ++ ([32, 62, 32] ++ C))).size := by omega
    have h2 : A.length + 1 + 1 < (strOfNums (A ++ ([32, 62, 32] ++ C))).size := by omega
    simp only [pfx, q0, q1, q2, decide_eq_true h0, decide_eq_true h1, decide_eq_true h2]
    decide
/-- A line without its end. -/
def lin (r : Ru) : List Int := shw r.1 ++ [91] ++ shw r.2.1 ++ [93] ++ shw r.2.2.1 ++ [32, 62, 32] ++ shw r.2.2.2.1 ++ bars r.2.2.2.2
theorem line_lin (r : Ru) : line r = lin r ++ [10] := rfl
theorem bars_by (g : Int) : Bys (bars g) := by
  intro x hx
  unfold bars at hx
  split at hx
  · rcases List.mem_cons.1 hx with rfl | hx
    · omega
    · rw [(List.mem_replicate.1 hx).2]; omega
  · simp at hx
theorem bars_stp (g : Int) : Stp (bars g) := by
  unfold bars
  split
  · exact .inr ⟨32, _, rfl, by decide, by decide⟩
  · exact .inl rfl
theorem lin_by (r : Ru) : Bys (lin r) := by
  unfold lin
  refine ((((((((shw_by _).app ?_).app (shw_by _)).app ?_).app (shw_by _)).app ?_).app (shw_by _)).app (bars_by _))
  all_goals
    intro x hx
    simp at hx
    omega
theorem lin_no10 (r : Ru) : ∀ x ∈ lin r, x ≠ 10 := by
  intro x hx
  unfold lin at hx
  simp only [List.mem_append] at hx
  rcases hx with ((((((hx | hx) | hx) | hx) | hx) | hx) | hx) | hx
  · exact shw_no10 _ x hx
  · simp at hx; omega
  · exact shw_no10 _ x hx
  · simp at hx; omega
  · exact shw_no10 _ x hx
  · simp at hx; omega
  · exact shw_no10 _ x hx
  · unfold bars at hx
    split at hx
    · rcases List.mem_cons.1 hx with rfl | hx
      · omega
      · rw [(List.mem_replicate.1 hx).2]; omega
    · simp at hx
theorem ru_back (r : Ru) (hg : 0 ≤ r.2.2.2.2) : ruI (strOfNums (lin r)) = (r, true) := by
  obtain ⟨x, y, z, u, g⟩ := r
  simp only at hg
  have hz := lin_by (x, y, z, u, g)
  have hz' := hz
  obtain ⟨D, hD⟩ : ∃ D, D = lin (x, y, z, u, g) := ⟨_, rfl⟩
  rw [← hD] at hz
  have hD' : D = shw x ++ [91] ++ shw y ++ [93] ++ shw z ++ [32, 62, 32] ++ shw u ++ bars g := hD
  have ea : tI (strOfNums D) (0, false) = ((bsO x).map (fun b : Nat => (b : Int)), 0 + (shw x).length, false) := tI_back (x := x) (A := []) (C := [91] ++ shw y ++ [93] ++ shw z ++ [32, 62, 32] ++ shw u ++ bars g) rfl (by rw [hD']; simp) (.inr ⟨91, _, rfl, by decide, by decide⟩) hz
  rw [Nat.zero_add] at ea
  have eb0 : sgI (strOfNums D) [91] ((shw x).length, false) = ((shw x).length + 1, false) := sg_back (c := 91) (A := shw x) (C := shw y ++ [93] ++ shw z ++ [32, 62, 32] ++ shw u ++ bars g) rfl (by rw [hD']; simp) hz
  have eb : tI (strOfNums D) ((shw x).length + 1, false) = ((bsO y).map (fun b : Nat => (b : Int)), (shw x).length + 1 + (shw y).length, false) := tI_back (x := y) (A := shw x ++ [91]) (C := [93] ++ shw z ++ [32, 62, 32] ++ shw u ++ bars g) (by simp) (by rw [hD']; simp) (.inr ⟨93, _, rfl, by decide, by decide⟩) hz
  have ec0 : sgI (strOfNums D) [93] ((shw x).length + 1 + (shw y).length, false) = ((shw x).length + 1 + (shw y).length + 1, false) := sg_back (c := 93) (A := shw x ++ [91] ++ shw y) (C := shw z ++ [32, 62, 32] ++ shw u ++ bars g) (by simp; omega) (by rw [hD']; simp) hz
  have ec : tI (strOfNums D) ((shw x).length + 1 + (shw y).length + 1, false) = ((bsO z).map (fun b : Nat => (b : Int)), (shw x).length + 1 + (shw y).length + 1 + (shw z).length, false) := tI_back (x := z) (A := shw x ++ [91] ++ shw y ++ [93]) (C := [32, 62, 32] ++ shw u ++ bars g) (by simp; omega) (by rw [hD']; simp) (.inr ⟨32, _, rfl, by decide, by decide⟩) hz
  have ed0 : sgI (strOfNums D) [32, 62, 32] ((shw x).length + 1 + (shw y).length + 1 + (shw z).length, false) = ((shw x).length + 1 + (shw y).length + 1 + (shw z).length + 3, false) := sg3_back (A := shw x ++ [91] ++ shw y ++ [93] ++ shw z) (C := shw u ++ bars g) (by simp; omega) (by rw [hD']; simp) hz
  have ed : tI (strOfNums D) ((shw x).length + 1 + (shw y).length + 1 + (shw z).length + 3, false) = ((bsO u).map (fun b : Nat => (b : Int)), (shw x).length + 1 + (shw y).length + 1 + (shw z).length + 3 + (shw u).length, false) := tI_back (x := u) (A := shw x ++ [91] ++ shw y ++ [93] ++ shw z ++ [32, 62, 32]) (C := bars g) (by simp; omega) (by rw [hD']; simp) (bars_stp g) hz
  have hsz : (strOfNums D).size = (shw x).length + 1 + (shw y).length + 1 + (shw z).length + 3 + (shw u).length + (bars g).length := by
    rw [strOfNums_size, hD']
    simp
    omega
  rw [← hD]
  unfold ruI
  simp only [ea, eb0, eb, ec0, ec, ed0, ed, bsO_back]
  generalize hm : (shw x).length + 1 + (shw y).length + 1 + (shw z).length + 3 + (shw u).length = m at *
  by_cases h0 : 0 < g
  · have hb : (bars g).length = g.toNat + 1 := by unfold bars; rw [if_pos h0]; simp
    have hA : (shw x ++ [91] ++ shw y ++ [93] ++ shw z ++ [32, 62, 32] ++ shw u).length = m := by rw [← hm]; simp; omega
    have hall : ∀ k, m + 1 ≤ k → k < (strOfNums D).size → bt (strOfNums D) k = 124 := fun k h1 h2 => by
      have hk : k < D.length := by rw [strOfNums_size] at h2; exact h2
      have := bt_nums D k hk hz
      have e : D[k] = 124 := by
        have e2 : D = (shw x ++ [91] ++ shw y ++ [93] ++ shw z ++ [32, 62, 32] ++ shw u ++ [32]) ++ List.replicate g.toNat 124 := by
          rw [hD']
          unfold bars
          rw [if_pos h0]
          simp
        simp only [e2]
        rw [List.getElem_append_right (by rw [List.length_append, hA]; exact h1)]
        simp
      rw [e] at this
      omega
    have h32 : bt (strOfNums D) m = 32 := by
      have e2 : D = (shw x ++ [91] ++ shw y ++ [93] ++ shw z ++ [32, 62, 32] ++ shw u) ++ ((32 : Nat) : Int) :: List.replicate g.toNat 124 := by
        rw [hD']
        unfold bars
        rw [if_pos h0]
        rfl
      have := bt_atL (A := shw x ++ [91] ++ shw y ++ [93] ++ shw z ++ [32, 62, 32] ++ shw u) (b := 32) (C := List.replicate g.toNat 124) (by rw [← e2]; exact hz)
      rw [← e2, hA] at this
      exact this
    have hbt : barsTo (strOfNums D) (m + 1) = (strOfNums D).size := (barsTo_le _ _ (m + 1) (Nat.le_refl _) (by omega)).2.2.2 hall
    have hend : endB (strOfNums D) m = true := by
      unfold endB
      rw [h32, hbt, decide_eq_true (show m + 1 < (strOfNums D).size by omega)]
      simp
    rw [if_neg (by omega), hend]
    have hgg : (((strOfNums D).size - m - 1 : Nat) : Int) = g := by omega
    rw [hgg]
    rfl
  · have hb : bars g = [] := by unfold bars; rw [if_neg h0]
    rw [hb] at hsz
    have hm2 : m = (strOfNums D).size := by simpa using hsz.symm
    have hend : endB (strOfNums D) m = true := by unfold endB; rw [decide_eq_true hm2]; rfl
    rw [if_pos hm2, hend, show g = 0 by omega]
    rfl
theorem lin_col (r : Ru) : ¬ colB (strOfNums (lin r)) := by
  rintro ⟨_, h⟩
  have hz := lin_by r
  have hr := tI_back (p := 0) (x := r.1) (A := []) (C := [91] ++ shw r.2.1 ++ [93] ++ shw r.2.2.1 ++ [32, 62, 32] ++ shw r.2.2.2.1 ++ bars r.2.2.2.2) (D := lin r) rfl (by unfold lin; simp) (.inr ⟨91, _, rfl, by decide, by decide⟩) hz
  unfold tI at hr
  simp only [Nat.zero_add] at hr
  by_cases hs : 0 < (strOfNums (lin r)).size
  · rw [txI_sgn hs (by omega) (by rw [h]; decide)] at hr
    have hl : (shw r.1).length = 0 := by
      have := congrArg (fun q => q.2.1) hr
      simp at this
      rw [this]
    have e : shw r.1 = [] := List.length_eq_zero_iff.1 hl
    have e2 : lin r = [] ++ ((91 : Nat) : Int) :: (shw r.2.1 ++ [93] ++ shw r.2.2.1 ++ [32, 62, 32] ++ shw r.2.2.2.1 ++ bars r.2.2.2.2) := by unfold lin; rw [e]; simp
    have := bt_atL (A := []) (b := 91) (C := shw r.2.1 ++ [93] ++ shw r.2.2.1 ++ [32, 62, 32] ++ shw r.2.2.2.1 ++ bars r.2.2.2.2) (by rw [← e2]; exact hz)
    rw [← e2] at this
    simp at this
    omega
  · omega
theorem ext_mid (A l C : List Int) : (strOfNums (A ++ (l ++ C))).extract A.length (A.length + l.length) = strOfNums l := by
  apply ByteArray.ext
  simp only [strOfNums, ByteArray.data_extract]
  simp
theorem rd_line {s : ByteArray} {A l B : List Int} {Q Q' : List Pa} (hs : s = strOfNums (A ++ (l ++ 10 :: B))) (hsz : s.size ≤ 65536) (hz : Bys (A ++ (l ++ 10 :: B))) (hn : ∀ x ∈ l, x ≠ 10) (r : ∃ n k, Rd s A.length Q n k) (hw : wl (strOfNums l) Q = some Q') : ∃ n k, Rd s (A.length + l.length + 1) Q' n k := by
  have hlen : s.size = A.length + (l.length + (B.length + 1)) := by rw [hs, strOfNums_size]; simp
  have hat : bt s (A.length + l.length) = 10 := by
    have e : A ++ (l ++ 10 :: B) = (A ++ l) ++ ((10 : Nat) : Int) :: B := by simp
    have := bt_atL (A := A ++ l) (b := 10) (C := B) (by rw [← e]; exact hz)
    rw [← e, ← hs] at this
    simpa using this
  have hf : fnl s A.length = A.length + l.length := by
    refine fnl_is s _ (by omega) (fun _ => hat) _ A.length (Nat.le_refl _) (by omega) (fun k h1 h2 h3 => ?_)
    have hk : k < (A ++ (l ++ 10 :: B)).length := by simp; omega
    have := bt_nums (A ++ (l ++ 10 :: B)) k hk hz
    rw [← hs, h3] at this
    have e : (A ++ (l ++ 10 :: B))[k] = l[k - A.length]'(by omega) := by
      rw [List.getElem_append_right (by omega), List.getElem_append_left (by omega)]
    rw [e] at this
    exact hn _ (List.getElem_mem (by omega)) this.symm
  obtain ⟨n, k, r⟩ := r
  have hx : s.extract A.length (fnl s A.length) = strOfNums l := by rw [hf, hs]; exact ext_mid A l (10 :: B)
  obtain ⟨k', r'⟩ := r.next hsz (by omega) (by omega) (by rw [hx]; exact hw)
  rw [hf] at r'
  exact ⟨_, _, r'⟩
theorem addR_snoc (P0 : List Pa) (M : List Ru) (g : Int) (r : Ru) : addR (P0 ++ [(M, g)]) r = P0 ++ [(M ++ [r], g)] := by
  unfold addR
  have e : (P0 ++ [(M, g)]).length - 1 = P0.length := by simp
  rw [e, gp_last]
  simp
theorem lns_by (L : List Ru) : ∀ k, Bys (lns L k)
  | 0 => fun x hx => by cases hx
  | k + 1 => by
    refine (lns_by L k).app ?_
    rw [line_lin]
    refine (lin_by _).app (fun x hx => ?_)
    simp at hx
    omega
theorem rd_rules {s : ByteArray} {P0 : List Pa} {g : Int} {L : List Ru} (hg : ∀ i, i < L.length → 0 ≤ (gr L i).2.2.2.2) (hsz : s.size ≤ 65536) : ∀ (j : Nat), j ≤ L.length → ∀ (A B : List Int), s = strOfNums (A ++ (lns L j ++ B)) → Bys (A ++ (lns L j ++ B)) → (∃ n k, Rd s A.length (P0 ++ [([], g)]) n k) → ∃ n k, Rd s (A.length + (lns L j).length) (P0 ++ [(L.take j, g)]) n k
  | 0, _, A, B, hs, hz, r => by simpa [lns] using r
  | j + 1, hj, A, B, hs, hz, r => by
    have e1 : A ++ (lns L (j + 1) ++ B) = A ++ (lns L j ++ (line (gr L j) ++ B)) := by show A ++ ((lns L j ++ line (gr L j)) ++ B) = _; simp
    rw [e1] at hs hz
    have ih := rd_rules hg hsz j (by omega) A (line (gr L j) ++ B) hs hz r
    have e2 : A ++ (lns L j ++ (line (gr L j) ++ B)) = (A ++ lns L j) ++ (lin (gr L j) ++ 10 :: B) := by rw [line_lin]; simp
    rw [e2] at hs hz
    have hrb := ru_back (gr L j) (hg j (by omega))
    have hw : wl (strOfNums (lin (gr L j))) (P0 ++ [(L.take j, g)]) = some (P0 ++ [(L.take (j + 1), g)]) := by
      rw [wl_rule (lin_col _) (by rw [hrb]) (by simp), hrb, addR_snoc]
      have e3 : L.take (j + 1) = L.take j ++ [gr L j] := by
        rw [List.take_add_one]
        simp [gr, List.getD, show j < L.length by omega]
      rw [e3]
    have := rd_line (A := A ++ lns L j) hs hsz hz (lin_no10 _) (by rw [List.length_append]; exact ih) hw
    have e4 : A.length + (lns L (j + 1)).length = (A ++ lns L j).length + (lin (gr L j)).length + 1 := by
      show A.length + (lns L j ++ line (gr L j)).length = _
      rw [line_lin]
      simp
      omega
    rw [e4]
    exact this
theorem nam_ok (g : Int) (h0 : 0 ≤ g) (h4 : g ≤ 4) : colB (strOfNums (58 :: nam g)) ∧ nrm ((strOfNums (58 :: nam g)).extract 1 (strOfNums (58 :: nam g)).size) = g ∧ Bys (58 :: nam g) ∧ ∀ x ∈ 58 :: nam g, x ≠ 10 := by
  obtain rfl | rfl | rfl | rfl | rfl : g = 0 ∨ g = 1 ∨ g = 2 ∨ g = 3 ∨ g = 4 := by omega
  all_goals
    refine ⟨by decide +kernel, by decide +kernel, ?_, ?_⟩
    · intro x hx
      simp [nam] at hx
      omega
    · intro x hx
      simp [nam] at hx
      omega
theorem txt_by {P : List Pa} : ∀ (i : Nat), i ≤ P.length → (∀ k, k < P.length → 0 ≤ (gp P k).2 ∧ (gp P k).2 ≤ 4) → Bys (txt P i)
  | 0, _, _ => fun x hx => by cases hx
  | i + 1, hi, hg => by
    refine (txt_by i (by omega) hg).app ((((?_ : Bys [58]).app ?_).app (fun x hx => by simp at hx; omega)).app (lns_by _ _))
    · intro x hx; simp at hx; omega
    · have := (nam_ok _ (hg i (by omega)).1 (hg i (by omega)).2).2.2.1
      exact fun x hx => this x (by simp [hx])
theorem rd_txt {s : ByteArray} {P : List Pa} (hg : ∀ k, k < P.length → 0 ≤ (gp P k).2 ∧ (gp P k).2 ≤ 4) (hr : ∀ k, k < P.length → ∀ i, i < (gp P k).1.length → 0 ≤ (gr (gp P k).1 i).2.2.2.2) (hsz : s.size ≤ 65536) : ∀ (i : Nat), i ≤ P.length → ∀ B : List Int, s = strOfNums (txt P i ++ B) → Bys (txt P i ++ B) → ∃ n k, Rd s (txt P i).length (P.take i) n k
  | 0, _, B, hs, hz => ⟨0, _, Rd.start s⟩
  | i + 1, hi, B, hs, hz => by
    have e1 : txt P (i + 1) ++ B = txt P i ++ ((58 :: nam (gp P i).2) ++ 10 :: (lns (gp P i).1 (gp P i).1.length ++ B)) := by
      show (txt P i ++ ([58] ++ nam (gp P i).2 ++ [10] ++ lns (gp P i).1 (gp P i).1.length)) ++ B = _
      simp
    rw [e1] at hs hz
    have ih := rd_txt hg hr hsz i (by omega) _ hs hz
    obtain ⟨n1, n2, n3, n4⟩ := nam_ok _ (hg i (by omega)).1 (hg i (by omega)).2
    have hw : wl (strOfNums (58 :: nam (gp P i).2)) (P.take i) = some (P.take i ++ [([], (gp P i).2)]) := by
      have := wl_pass (P := P.take i) n1 (by rw [n2]; exact (hg i (by omega)).1)
      rw [n2] at this
      exact this
    have r1 := rd_line hs hsz hz n4 ih hw
    have e2 : txt P i ++ ((58 :: nam (gp P i).2) ++ 10 :: (lns (gp P i).1 (gp P i).1.length ++ B)) = (txt P i ++ (58 :: nam (gp P i).2) ++ [10]) ++ (lns (gp P i).1 (gp P i).1.length ++ B) := by simp
    rw [e2] at hs hz
    have r2 := rd_rules (P0 := P.take i) (g := (gp P i).2) (hr i (by omega)) hsz _ (Nat.le_refl _) _ B hs hz (by
      have e3 : (txt P i ++ (58 :: nam (gp P i).2) ++ [10]).length = (txt P i).length + (58 :: nam (gp P i).2).length + 1 := by simp; omega
      rw [e3]
      exact r1)
    have e4 : (txt P i ++ (58 :: nam (gp P i).2) ++ [10]).length + (lns (gp P i).1 (gp P i).1.length).length = (txt P (i + 1)).length := by
      show _ = (txt P i ++ ([58] ++ nam (gp P i).2 ++ [10] ++ lns (gp P i).1 (gp P i).1.length)).length
      simp
      omega
    have e5 : P.take i ++ [((gp P i).1.take (gp P i).1.length, (gp P i).2)] = P.take (i + 1) := by
      have hp : P[i]? = some (gp P i) := by simp [gp, List.getD, show i < P.length by omega]
      rw [List.take_length, List.take_add_one, hp]
      rfl
    rw [e4, e5] at r2
    exact r2
/-- Passes come back from their text. -/
theorem passes_back {P : List Pa} (h : right P = true) : rdA (strOfNums (shP P)) = (0, 0, P) := by
  obtain ⟨h1, h2⟩ := right_parts h
  have hg : ∀ k, k < P.length → 0 ≤ (gp P k).2 ∧ (gp P k).2 ≤ 4 := fun k hk => (okP_parts (okq_at h2 hk)).1
  have hr : ∀ k, k < P.length → ∀ i, i < (gp P k).1.length → 0 ≤ (gr (gp P k).1 i).2.2.2.2 := fun k hk i hi => (okR_parts (okk_at (okP_parts (okq_at h2 hk)).2.2 hi)).2.1.1
  have hl := shP_len P
  have e : shP P = txt P P.length := by unfold shP; rw [if_pos h]
  rw [e] at hl ⊢
  have hz := txt_by P.length (Nat.le_refl _) hg
  obtain ⟨n, k, r⟩ := rd_txt (s := strOfNums (txt P P.length)) hg hr (by rw [strOfNums_size]; exact hl) P.length (Nat.le_refl _) [] (by rw [List.append_nil]) (by rw [List.append_nil]; exact hz)
  rw [List.take_length] at r
  have := r.last (by rw [strOfNums_size]; omega)
  exact rdA_ok this h
end Go.Proofs.YtklakcnapdhcnaaDoor.Pas
/- The law of passes and their texts. -/
namespace Go.Proofs.YtklakcnapdhcnaaDoor.Pas
open Go.RowKit
set_option linter.unusedVariables false
theorem right_small {P : List Pa} (h : right P = true) : Small P := by
  obtain ⟨h1, h2⟩ := right_parts h
  refine ⟨by omega, fun i hi => ?_⟩
  have hp := okP_parts (okq_at h2 hi)
  have hc : (gp P i).1.length ≤ cnt P (i + 1) := by
    show (gp P i).1.length ≤ cnt P i + (gp P i).1.length
    omega
  refine ⟨by omega, fun j hj => ?_⟩
  have := (okR_parts (okk_at hp.2.2 hj)).1
  show (gr (gp P i).1 j).1.size + (gr (gp P i).1 j).2.1.size + (gr (gp P i).1 j).2.2.1.size + (gr (gp P i).1 j).2.2.2.1.size ≤ 1048576
  omega
theorem rdA_cases (s : ByteArray) : (rdA s).2.2 = [] ∧ (rdA s).1 ≠ 0 ∨ right (rdA s).2.2 = true ∧ (rdA s).1 = 0 := by
  unfold rdA
  split
  · exact .inl ⟨rfl, show (3 : Int) ≠ 0 by decide⟩
  · split
    · rename_i h
      exact .inr ⟨h, rfl⟩
    · exact .inl ⟨rfl, show (1 : Int) ≠ 0 by decide⟩
theorem rdB_cases (s : ByteArray) : ((rdB s).2.2 = [] ∧ (rdB s).1 ≠ 0) ∨ (right (rdB s).2.2 = true ∧ (rdB s).1 = 0) := by
  unfold rdB
  split
  · exact rdA_cases s
  · exact .inl ⟨rfl, show (2 : Int) ≠ 0 by decide⟩
theorem rdB_back {P : List Pa} (h : right P = true) : rdB (strOfNums (shP P)) = (0, 0, P) := by
  unfold rdB
  rw [if_pos (by rw [strOfNums_size]; exact shP_len P)]
  exact passes_back h
theorem rdB_small (s : ByteArray) : Small (rdB s).2.2 := by
  rcases rdB_cases s with h | h
  · rw [h.1]
    exact ⟨Nat.zero_le _, fun i hi => by simp at hi⟩
  · exact right_small h.1
/-- The answer's box. -/
def Rb (w : World) (g : Nat) (c at' : Int) (v : Value) : Prop := w.heap[g]? = some (.cells #[.int .i64 c, .int .i64 at', v] 27 (0, 0))
theorem Rb.below {w w' : World} {g : Nat} {c at' : Int} {v : Value} (h : Rb w g c at' v) (hb : Below w.heap.size w w') : Rb w' g c at' v := (hb.block g (Array.getElem?_eq_some_iff.1 h).1).trans h
theorem Rb.cells {w : World} {g : Nat} {c at' : Int} {v : Value} (h : Rb w g c at' v) : w.cell? ⟨g, 0, none⟩ = some (.int .i64 c) ∧ w.cell? ⟨g, 1, none⟩ = some (.int .i64 at') ∧ w.cell? ⟨g, 2, none⟩ = some v ∧ w.frozen? ⟨g, 0, none⟩ = false ∧ w.frozen? ⟨g, 1, none⟩ = false ∧ w.frozen? ⟨g, 2, none⟩ = false := by
  unfold Rb at h
  refine ⟨?_, ?_, ?_, ?_, ?_, ?_⟩ <;> simp [World.cell?, World.frozen?, h]
theorem Rb.put {w : World} {g : Nat} {c at' : Int} {v : Value} (h : Rb w g c at' v) (c2 a2 : Int) (v2 : Value) : Rb (((w.setCell ⟨g, 0, none⟩ (.int .i64 c2)).setCell ⟨g, 1, none⟩ (.int .i64 a2)).setCell ⟨g, 2, none⟩ v2) g c2 a2 v2 :=
  heap_setCell_same _ g 2 _ 27 _ (heap_setCell_same _ g 1 _ 27 _ (heap_setCell_same w g 0 _ 27 _ h))
theorem pa3 {x : World} {lo g : Nat} {v : Value} {P : List Pa} (h : PaAt lo x v P) (hg : g < lo) (a b c : Value) : PaAt lo (((x.setCell ⟨g, 0, none⟩ a).setCell ⟨g, 1, none⟩ b).setCell ⟨g, 2, none⟩ c) v P := by
  refine h.at ?_ ?_
  · simp
  · intro k h1 h2
    have hk : k ≠ g := by omega
    rw [heap_setCell_other _ ⟨g, 2, none⟩ k _ hk, heap_setCell_other _ ⟨g, 1, none⟩ k _ hk, heap_setCell_other _ ⟨g, 0, none⟩ k _ hk]
theorem code_onL {w W : World} {a : Option Addr} {len : Nat} (h : Dr.CodeIn w a len) (hb : Below w.heap.size w W) : Dr.CodeIn W a len := by
  rcases h with h | ⟨cb, off, e, hl, hc⟩
  · exact .inl h
  · refine .inr ⟨cb, off, e, Nat.lt_of_lt_of_le hl hb.size, fun i hi => ?_⟩
    obtain ⟨z, h1, h2⟩ := hc i hi
    exact ⟨z, (hb.cell (p := ⟨cb, off + i, none⟩) hl).trans h1, h2⟩
set_option maxHeartbeats 8000000 in
set_option maxRecDepth 100000 in
theorem lawPasses (a1 : Option Addr) (len1 cap1 : Nat) (a2 : Option Addr) (len2 cap2 : Nat) (w : World) (hc1 : Dr.CodeIn w a1 len1) (hc2 : Dr.CodeIn w a2 len2) (hl1 : len1 ≤ maxLen) (hl2 : len2 ≤ maxLen) (hT : Tabs w) (hN : NamAt w) :
    Calls Tryd.prog 3 #[.slice a1 len1 cap1, .slice a2 len2 cap2] w fun e w' => e = .returned (.bool true) ∧ Below w.heap.size w w' := by
  unfold maxLen at hl1 hl2
  by_cases g1 : 1048576 < len1
  · have g1' : (1048576 : Int) < (len1 : Int) := by omega
    go_enter Tryd.func3, Tryd.ntmps3
    go_wp2
    go_ret
    exact ⟨rfl, Below.refl _ _⟩
  have g1' : ¬ (1048576 : Int) < (len1 : Int) := by omega
  by_cases g2 : 1048576 < len2
  · have g2' : (1048576 : Int) < (len2 : Int) := by omega
    go_enter Tryd.func3, Tryd.ntmps3
    go_wp2
    go_ret
    exact ⟨rfl, Below.refl _ _⟩
  have g2' : ¬ (1048576 : Int) < (len2 : Int) := by omega
  have CD := hide (Dr.drawShow_any w a1 len1 cap1 (by omega) hc1)
  have HC := hide hc2
  have HT := hide hT
  have HN := hide hN
  clear hc1 hc2 hT hN
  go_enter Tryd.func3, Tryd.ntmps3
  go_wp2_with fail
  refine (unhide CD).mono ?_
  rintro e w1 ⟨v, P, rfl, hv, hs, hb⟩
  have BB := hide hb
  have HV := hide hv
  obtain ⟨va, vc, rfl⟩ := hv.form
  clear CD hb hv
  have CI := hide (implS _ P _ w1 (unhide HV) hs (Utf8Tabs_below (unhide HT) (unhide BB)) ((unhide HN).below (unhide BB)))
  have CS := hide (fun W (h : Below w1.heap.size w1 W) => specS _ P _ W ((unhide HV).below h) hs)
  have CF := hide (fun W (h : Below w1.heap.size w1 W) => specPF _ P _ W ((unhide HV).below h) hs)
  have BK := hide (fun h => rdB_back (P := P) h)
  have hTs : (strOfNums (shP P)).size ≤ 65536 := by rw [strOfNums_size]; exact shP_len P
  obtain ⟨T, hTT⟩ : ∃ T, T = strOfNums (shP P) := ⟨_, rfl⟩
  rw [← hTT] at CI CS BK hTs
  have HTT := hide hTT
  clear hTT
  go_wp2_with fail
  refine (unhide CI).mono ?_
  rintro e w2 ⟨rfl, hb⟩
  have B1 := hide hb
  replace BB := hide ((unhide BB).trans (hb.mono (unhide BB).size))
  clear hb CI
  have tt : (T.toList != T.toList) = false := by simp
  go_wp2_with fail
  refine ((unhide CS) _ (unhide B1)).mono ?_
  rintro e w3 ⟨rfl, hb⟩
  replace B1 := hide ((unhide B1).trans (hb.mono (unhide B1).size))
  replace BB := hide ((unhide BB).trans (hb.mono (unhide BB).size))
  clear hb CS
  have CR := hide (implR T w3 (by omega) ((unhide HN).below (unhide BB)) (Utf8Tabs_below (unhide HT) (unhide BB)))
  have RS := hide (rdB_small T)
  obtain ⟨D, hD⟩ : ∃ D, D = rdB T := ⟨_, rfl⟩
  have CR' : Hid (Calls Tryd.prog 7 #[.string T] w3 fun e w' => Below w3.heap.size w3 w' ∧ ∃ v, e = .returned (.agg #[.int .i64 D.1, .int .i64 D.2.1, v]) ∧ PaG w3.heap.size w'.heap.size w' v D.2.2) := hide (by rw [hD]; exact unhide CR)
  rw [← hD] at BK RS
  clear hD CR
  obtain ⟨c0, c1, DP⟩ := D
  simp only at CR' RS
  go_wp2_with fail
  refine (unhide CR').mono ?_
  rintro e w4 ⟨hb, rv, rfl, hp⟩
  obtain ⟨qa, qc, rfl⟩ := hp.pa.form
  have hbA : Below w4.heap.size w4 (w4.alloc (.cells #[.int .i64 c0, .int .i64 c1, .slice qa DP.length qc] 27)) := (Below.refl _ _).alloc (Nat.le_refl _) _
  have PR := hide (hp.pa.below hbA)
  replace B1 := hide (((unhide B1).trans (hb.mono (unhide B1).size)).trans (hbA.mono (by have := (unhide B1).size; have := hb.size; omega)))
  have hg7 : w.heap.size ≤ w4.heap.size := by have := (unhide BB).size; have := hb.size; omega
  replace BB := hide (((unhide BB).trans (hb.mono (unhide BB).size)).trans (hbA.mono hg7))
  have RB : Hid (Rb (w4.alloc (.cells #[.int .i64 c0, .int .i64 c1, .slice qa DP.length qc] 27)) w4.heap.size c0 c1 (.slice qa DP.length qc)) := hide (heap_new w4 _)
  clear hb hbA hp CR'
  go_upto_region 8 with fail
  generalize w4.heap.size = g7 at *
  generalize w4.alloc (.cells #[.int .i64 c0, .int .i64 c1, .slice qa DP.length qc] 27) = w5 at *
  obtain ⟨f0, f1, f2, f3, f4, f5⟩ := (unhide RB).cells
  go_wp2_with fail
  refine ((unhide CF) _ (unhide B1)).mono ?_
  rintro e w6 ⟨rfl, hb⟩
  replace RB := hide ((unhide RB).below hb)
  replace PR := hide ((unhide PR).below hb)
  replace BB := hide ((unhide BB).trans (hb.mono (unhide BB).size))
  clear hb CF f0 f1 f2 f3 f4 f5 B1
  obtain ⟨f0, f1, f2, f3, f4, f5⟩ := (unhide RB).cells
  rcases flt_iff P with ⟨hf, hr⟩ | ⟨hf, hr⟩
  · rw [hf]
    have hbk := (unhide BK) hr
    injection hbk with e1 e2
    injection e2 with e2 e3
    subst e1 e2 e3
    by_cases h0 : T.size = 0
    · have h0' : ¬ (0 : Int) < (T.size : Int) := by omega
      clear BK hf hr PR RS h0
      go_upto_region 10 with fail
      clear f0 f1 f2 f3 f4 f5
      have hg7l : g7 < w6.heap.size := (Array.getElem?_eq_some_iff.1 (unhide RB)).1
      have CX := hide (Dr.drawRead_any w6 a2 len2 cap2 (by omega) (code_onL (unhide HC) (unhide BB)))
      obtain ⟨k0, k1, k2, k3, k4, k5⟩ := (unhide RB).cells
      go_wp2_with fail
      refine (unhide CX).mono ?_
      rintro e x1 ⟨s, rfl, hs, hb⟩
      replace RB := hide ((unhide RB).below hb)
      replace BB := hide ((unhide BB).trans (hb.mono (unhide BB).size))
      clear hb CX k0 k1 k2 k3 k4 k5
      obtain ⟨k0, k1, k2, k3, k4, k5⟩ := (unhide RB).cells
      have hg7x : g7 < x1.heap.size := (Array.getElem?_eq_some_iff.1 (unhide RB)).1
      obtain ⟨D, hD⟩ : ∃ D, D = rdB s := ⟨_, rfl⟩
      have CR : Hid (Calls Tryd.prog 7 #[.string s] x1 fun e w' => Below x1.heap.size x1 w' ∧ ∃ v, e = .returned (.agg #[.int .i64 D.1, .int .i64 D.2.1, v]) ∧ PaG x1.heap.size w'.heap.size w' v D.2.2) := hide (by rw [hD]; exact implR s x1 (by omega) ((unhide HN).below (unhide BB)) (Utf8Tabs_below (unhide HT) (unhide BB)))
      have CQ : Hid (∀ W : World, Calls Tryd.prog 10 #[.string s] W fun e w' => Below W.heap.size W w' ∧ ∃ v, e = .returned (.agg #[.int .i64 D.1, .int .i64 D.2.1, v]) ∧ PaG W.heap.size w'.heap.size w' v D.2.2) := hide (by intro W; rw [hD]; exact specR s W (by omega))
      have RC : Hid ((D.2.2 = [] ∧ D.1 ≠ 0) ∨ (right D.2.2 = true ∧ D.1 = 0)) := hide (by rw [hD]; exact rdB_cases s)
      have RS : Hid (Small D.2.2) := hide (by rw [hD]; exact rdB_small s)
      clear hD
      obtain ⟨dc, da, DP⟩ := D
      simp only at CR CQ RC RS
      go_wp2_with fail
      refine (unhide CR).mono ?_
      rintro e x2 ⟨hb, rv, rfl, hp⟩
      try simp only at hp
      obtain ⟨ra, rc, rfl⟩ := hp.pa.form
      have PR := hide hp.pa
      replace RB := hide ((unhide RB).below hb)
      replace BB := hide ((unhide BB).trans (hb.mono (unhide BB).size))
      clear hb CR hp k0 k1 k2 k3 k4 k5
      obtain ⟨k0, k1, k2, k3, k4, k5⟩ := (unhide RB).cells
      have RP := hide ((unhide RB).put dc da (.slice ra DP.length rc))
      have hbS : Below w.heap.size x2 (((x2.setCell ⟨g7, 0, none⟩ (.int .i64 dc)).setCell ⟨g7, 1, none⟩ (.int .i64 da)).setCell ⟨g7, 2, none⟩ (.slice ra DP.length rc)) := (((Below.refl _ _).setCell (p := ⟨g7, 0, none⟩) hg7 _).setCell (p := ⟨g7, 1, none⟩) hg7 _).setCell (p := ⟨g7, 2, none⟩) hg7 _
      have BP := hide ((unhide BB).trans hbS)
      have PR3 := hide (pa3 (unhide PR) hg7x (.int .i64 dc) (.int .i64 da) (.slice ra DP.length rc))
      clear hbS PR BB
      go_upto_region 12 with fail
      generalize ((x2.setCell ⟨g7, 0, none⟩ (.int .i64 dc)).setCell ⟨g7, 1, none⟩ (.int .i64 da)).setCell ⟨g7, 2, none⟩ (.slice ra DP.length rc) = x3 at *
      clear k0 k1 k2 k3 k4 k5 RB
      go_wp2_with fail
      refine ((unhide CQ) x3).mono ?_
      rintro e x4 ⟨hb, wv, rfl, hp⟩
      try simp only at hp
      obtain ⟨sa, sc, rfl⟩ := hp.pa.form
      have hb2 : Below x3.heap.size x3 (x4.alloc (.cells #[.int .i64 dc, .int .i64 da, .slice sa DP.length sc] 27)) := hb.alloc hb.size _
      have hbA : Below x4.heap.size x4 (x4.alloc (.cells #[.int .i64 dc, .int .i64 da, .slice sa DP.length sc] 27)) := (Below.refl _ _).alloc (Nat.le_refl _) _
      have PS := hide (hp.pa.below hbA)
      replace RP := hide ((unhide RP).below hb2)
      replace PR3 := hide ((unhide PR3).below hb2)
      replace BP := hide ((unhide BP).trans (hb2.mono (unhide BP).size))
      have R9 : Hid (Rb (x4.alloc (.cells #[.int .i64 dc, .int .i64 da, .slice sa DP.length sc] 27)) x4.heap.size dc da (.slice sa DP.length sc)) := hide (heap_new x4 _)
      clear hb hb2 hbA hp CQ
      go_upto_region 13 with fail
      generalize x4.heap.size = g9 at *
      generalize x4.alloc (.cells #[.int .i64 dc, .int .i64 da, .slice sa DP.length sc] 27) = x5 at *
      obtain ⟨k0, k1, k2, _⟩ := (unhide RP).cells
      obtain ⟨j0, j1, j2, _⟩ := (unhide R9).cells
      have e1 : (dc != dc) = false := by simp
      have e2 : (da != da) = false := by simp
      have e3 : ((DP.length : Int) != (DP.length : Int)) = false := by simp
      rcases unhide RC with ⟨_, hne⟩ | ⟨hr, hz⟩
      · have hne' : (dc != 0) = true := by simpa using hne
        clear hne RC
        go_upto_region 15 with fail
        go_quiet (fail)
        go_wp2
        go_ret
        exact ⟨rfl, bdrew (unhide BP) _⟩
      · try simp only at hr hz
        subst hz
        have hfl : flt DP = 0 := by rcases flt_iff DP with h | h; exact h.1; rw [hr] at h; cases h.2
        have CF := hide (fun W (h : Below x5.heap.size x5 W) => implPF _ DP _ W ((unhide PR3).below h) (unhide RS) (Utf8Tabs_below (unhide HT) ((unhide BP).trans (h.mono (unhide BP).size))))
        have CI := hide (fun W (h : Below x5.heap.size x5 W) => implS _ DP _ W ((unhide PR3).below h) (unhide RS) (Utf8Tabs_below (unhide HT) ((unhide BP).trans (h.mono (unhide BP).size))) ((unhide HN).below ((unhide BP).trans (h.mono (unhide BP).size))))
        have CS := hide (fun W (h : Below x5.heap.size x5 W) => specS _ DP _ W ((unhide PS).below h) (unhide RS))
        rw [hfl] at CF
        clear hfl hr RC
        generalize strOfNums (shP DP) = X at *
        have xx : (X.toList == X.toList) = true := by simp
        go_upto_region 15 with fail
        refine wp_region_held_drew (S := fun w' => (w'.cell? ⟨g7, 0, none⟩ = some (.int .i64 0) ∧ w'.cell? ⟨g7, 2, none⟩ = some (.slice ra DP.length rc)) ∧ w'.cell? ⟨g9, 2, none⟩ = some (.slice sa DP.length sc)) (by kernel_rfl) (by first | go_keep | exact ⟨⟨k0, k2⟩, j2⟩) (fun hHeld => ?_)
        have B0 : Hid (Below x5.heap.size x5 x5.drew) := hide (drewB x5)
        have hK7 : g7 < x5.heap.size := (Array.getElem?_eq_some_iff.1 (unhide RP)).1
        have hK9 : g9 < x5.heap.size := (Array.getElem?_eq_some_iff.1 (unhide R9)).1
        refine Dr.tkF (i := 0) (d := some 83) (v := ?_) rfl rfl (by kernel_rfl) (by kernel_rfl) (by kernel_rfl) (fun _ _ _ h => h) (Or.inl ⟨by rfl, ?_⟩) (by assumption) ?_
        rotate_left
        · intro w hSw; (try dsimp only at hSw); go_simp; try with_reducible rfl
        try simp only [Act.put, List.setIfInBounds_toArray, List.set_cons_zero, List.set_cons_succ]
        refine Dr.tkF (i := 1) (d := some 84) (v := ?_) rfl rfl (by kernel_rfl) (by kernel_rfl) (by kernel_rfl) (fun _ _ _ h => h) (Or.inl ⟨by rfl, ?_⟩) (by assumption) ?_
        rotate_left
        · intro w hSw; (try dsimp only at hSw); go_simp; try with_reducible rfl
        try simp only [Act.put, List.setIfInBounds_toArray, List.set_cons_zero, List.set_cons_succ]
        refine Dr.tkF (i := 2) (d := some 85) (v := ?_) rfl rfl (by kernel_rfl) (by kernel_rfl) (by kernel_rfl) (fun _ _ _ h => h) (Or.inl ⟨by rfl, ?_⟩) (by assumption) ?_
        rotate_left
        · intro w hSw; (try dsimp only at hSw); go_simp; try with_reducible rfl
        try simp only [Act.put, List.setIfInBounds_toArray, List.set_cons_zero, List.set_cons_succ]
        refine Dr.tkF (i := 3) (d := some 86) (v := ?_) rfl rfl (by kernel_rfl) (by kernel_rfl) (by kernel_rfl) (fun _ _ _ h => h) (Or.inl ⟨by rfl, ?_⟩) (by assumption) ?_
        rotate_left
        · intro w hSw; (try dsimp only at hSw); go_simp; try with_reducible rfl
        try simp only [Act.put, List.setIfInBounds_toArray, List.set_cons_zero, List.set_cons_succ]
        refine Dr.tkF (i := 4) (d := some 87) (v := ?_) rfl rfl (by kernel_rfl) (by kernel_rfl) (by kernel_rfl) (fun _ _ _ h => h) (Or.inl ⟨by rfl, ?_⟩) (by assumption) ?_
        rotate_left
        · intro w hSw; (try dsimp only at hSw); go_simp; try with_reducible rfl
        try simp only [Act.put, List.setIfInBounds_toArray, List.set_cons_zero, List.set_cons_succ]
        refine Dr.tkF (i := 5) (d := some 88) (v := ?_) rfl rfl (by kernel_rfl) (by kernel_rfl) (by kernel_rfl) (fun _ _ _ h => h) (Or.inl ⟨by rfl, ?_⟩) (by assumption) ?_
        rotate_left
        · intro w hSw; (try dsimp only at hSw); go_simp; try with_reducible rfl
        try simp only [Act.put, List.setIfInBounds_toArray, List.set_cons_zero, List.set_cons_succ]
        refine wpAnyH_ready (rs := [6]) (by kernel_rfl) (by simp) (AllReadyH.cons rfl (fun Kq hK => ?_) AllReadyH.nil)
        go_simp
        go_at_call 11
        refine ((unhide CF) _ (unhide B0)).mono ?_
        rintro e y1 ⟨rfl, hb⟩
        replace B0 := hide ((unhide B0).trans (hb.mono (unhide B0).size))
        clear hb CF
        try go_wp2_with fail
        refine hK.out _ _ ⟨⟨((unhide B0).cell (p := ⟨g7, 0, none⟩) hK7).trans k0, ((unhide B0).cell (p := ⟨g7, 2, none⟩) hK7).trans k2⟩, ((unhide B0).cell (p := ⟨g9, 2, none⟩) hK9).trans j2⟩ (fun hHeldZ => ?_)
        clear hK Kq
        try simp only [Act.put, List.setIfInBounds_toArray, List.set_cons_zero, List.set_cons_succ]
        refine Dr.tkF (i := 7) (d := some 90) (v := ?_) rfl rfl (by kernel_rfl) (by kernel_rfl) (by kernel_rfl) (fun _ _ _ h => h) (Or.inl ⟨by rfl, ?_⟩) (by assumption) ?_
        rotate_left
        · intro w hSw; (try dsimp only at hSw); go_simp; try with_reducible rfl
        try simp only [Act.put, List.setIfInBounds_toArray, List.set_cons_zero, List.set_cons_succ]
        refine Dr.tkF (i := 8) (d := some 91) (v := ?_) rfl rfl (by kernel_rfl) (by kernel_rfl) (by kernel_rfl) (fun _ _ _ h => h) (Or.inl ⟨by rfl, ?_⟩) (by assumption) ?_
        rotate_left
        · intro w hSw; (try dsimp only at hSw); go_simp; try with_reducible rfl
        try simp only [Act.put, List.setIfInBounds_toArray, List.set_cons_zero, List.set_cons_succ]
        refine Dr.tkF (i := 9) (d := some 92) (v := ?_) rfl rfl (by kernel_rfl) (by kernel_rfl) (by kernel_rfl) (fun _ _ _ h => h) (Or.inl ⟨by rfl, ?_⟩) (by assumption) ?_
        rotate_left
        · intro w hSw; (try dsimp only at hSw); go_simp; try with_reducible rfl
        try simp only [Act.put, List.setIfInBounds_toArray, List.set_cons_zero, List.set_cons_succ]
        refine Dr.tkF (i := 10) (d := some 93) (v := ?_) rfl rfl (by kernel_rfl) (by kernel_rfl) (by kernel_rfl) (fun _ _ _ h => h) (Or.inl ⟨by rfl, ?_⟩) (by assumption) ?_
        rotate_left
        · intro w hSw; (try dsimp only at hSw); go_simp; try with_reducible rfl
        try simp only [Act.put, List.setIfInBounds_toArray, List.set_cons_zero, List.set_cons_succ]
        refine Dr.tkF (i := 12) (d := some 95) (v := ?_) rfl rfl (by kernel_rfl) (by kernel_rfl) (by kernel_rfl) (fun _ _ _ h => h) (Or.inl ⟨by rfl, ?_⟩) (by assumption) ?_
        rotate_left
        · intro w hSw; (try dsimp only at hSw); go_simp; try with_reducible rfl
        try simp only [Act.put, List.setIfInBounds_toArray, List.set_cons_zero, List.set_cons_succ]
        refine Dr.tkF (i := 13) (d := some 96) (v := ?_) rfl rfl (by kernel_rfl) (by kernel_rfl) (by kernel_rfl) (fun _ _ _ h => h) (Or.inl ⟨by rfl, ?_⟩) (by assumption) ?_
        rotate_left
        · intro w hSw; (try dsimp only at hSw); go_simp; try with_reducible rfl
        try simp only [Act.put, List.setIfInBounds_toArray, List.set_cons_zero, List.set_cons_succ]
        refine wpAnyH_ready (rs := [11]) (by kernel_rfl) (by simp) (AllReadyH.cons rfl (fun Kq hK => ?_) AllReadyH.nil)
        go_simp
        go_at_call 5
        refine ((unhide CI) _ (unhide B0)).mono ?_
        rintro e y2 ⟨rfl, hb⟩
        replace B0 := hide ((unhide B0).trans (hb.mono (unhide B0).size))
        clear hb CI
        try go_wp2_with fail
        refine hK.out _ _ ⟨⟨((unhide B0).cell (p := ⟨g7, 0, none⟩) hK7).trans k0, ((unhide B0).cell (p := ⟨g7, 2, none⟩) hK7).trans k2⟩, ((unhide B0).cell (p := ⟨g9, 2, none⟩) hK9).trans j2⟩ (fun hHeldZ => ?_)
        clear hK Kq
        try simp only [Act.put, List.setIfInBounds_toArray, List.set_cons_zero, List.set_cons_succ]
        refine wpAnyH_ready (rs := [14]) (by kernel_rfl) (by simp) (AllReadyH.cons rfl (fun Kq hK => ?_) AllReadyH.nil)
        go_simp
        go_at_call 6
        refine ((unhide CS) _ (unhide B0)).mono ?_
        rintro e y3 ⟨rfl, hb⟩
        replace B0 := hide ((unhide B0).trans (hb.mono (unhide B0).size))
        clear hb CS
        try go_wp2_with fail
        refine hK.out _ _ ⟨⟨((unhide B0).cell (p := ⟨g7, 0, none⟩) hK7).trans k0, ((unhide B0).cell (p := ⟨g7, 2, none⟩) hK7).trans k2⟩, ((unhide B0).cell (p := ⟨g9, 2, none⟩) hK9).trans j2⟩ (fun hHeldZ => ?_)
        clear hK Kq
        try simp only [Act.put, List.setIfInBounds_toArray, List.set_cons_zero, List.set_cons_succ]
        refine Dr.tkF (i := 15) (d := some 98) (v := ?_) rfl rfl (by kernel_rfl) (by kernel_rfl) (by kernel_rfl) (fun _ _ _ h => h) (Or.inl ⟨by rfl, ?_⟩) (by assumption) ?_
        rotate_left
        · intro w hSw; (try dsimp only at hSw); go_simp; try with_reducible rfl
        try simp only [Act.put, List.setIfInBounds_toArray, List.set_cons_zero, List.set_cons_succ]
        refine Dr.tkF (i := 16) (d := some 99) (v := ?_) rfl rfl (by kernel_rfl) (by kernel_rfl) (by kernel_rfl) (fun _ _ _ h => h) (Or.inl ⟨by rfl, ?_⟩) (by assumption) ?_
        rotate_left
        · intro w hSw; (try dsimp only at hSw); go_simp; try with_reducible rfl
        try simp only [Act.put, List.setIfInBounds_toArray, List.set_cons_zero, List.set_cons_succ]
        refine Dr.tkF (i := 17) (d := some 100) (v := ?_) rfl rfl (by kernel_rfl) (by kernel_rfl) (by kernel_rfl) (fun _ _ _ h => h) (Or.inl ⟨by rfl, ?_⟩) (by assumption) ?_
        rotate_left
        · intro w hSw; (try dsimp only at hSw); go_simp; try with_reducible rfl
        try simp only [Act.put, List.setIfInBounds_toArray, List.set_cons_zero, List.set_cons_succ]
        refine Dr.tkF (i := 18) (d := some 4) (v := ?_) rfl rfl (by kernel_rfl) (by kernel_rfl) (by kernel_rfl) (fun _ _ _ h => h) (Or.inl ⟨by rfl, ?_⟩) (by assumption) ?_
        rotate_left
        · intro w hSw; (try dsimp only at hSw); go_simp; try with_reducible rfl
        try simp only [Act.put, List.setIfInBounds_toArray, List.set_cons_zero, List.set_cons_succ]
        refine wpAnyH_done (by kernel_rfl) ?_ _
        go_wp2
        go_ret
        exact ⟨rfl, (unhide BP).trans ((unhide B0).mono (unhide BP).size)⟩
    · have h0' : (0 : Int) < (T.size : Int) := by omega
      have hg6 : (0 : Nat) ≤ g7 := Nat.zero_le _
      have CJ := hide (implS _ DP _ w6 (unhide PR) (unhide RS) (Utf8Tabs_below (unhide HT) (unhide BB)) ((unhide HN).below (unhide BB)))
      rw [← unhide HTT] at CJ
      have e3 : ((DP.length : Int) != (DP.length : Int)) = false := by simp
      clear BK hf hr PR RS h0
      go_wp2_with fail
      refine (unhide CJ).mono ?_
      rintro e w7 ⟨rfl, hb⟩
      replace RB := hide ((unhide RB).below hb)
      replace BB := hide ((unhide BB).trans (hb.mono (unhide BB).size))
      clear hb CJ f0 f1 f2 f3 f4 f5
      obtain ⟨f0, f1, f2, f3, f4, f5⟩ := (unhide RB).cells
      go_upto_region 10 with fail
      clear f0 f1 f2 f3 f4 f5
      have hg7l : g7 < w7.heap.size := (Array.getElem?_eq_some_iff.1 (unhide RB)).1
      have CX := hide (Dr.drawRead_any w7 a2 len2 cap2 (by omega) (code_onL (unhide HC) (unhide BB)))
      obtain ⟨k0, k1, k2, k3, k4, k5⟩ := (unhide RB).cells
      go_wp2_with fail
      refine (unhide CX).mono ?_
      rintro e x1 ⟨s, rfl, hs, hb⟩
      replace RB := hide ((unhide RB).below hb)
      replace BB := hide ((unhide BB).trans (hb.mono (unhide BB).size))
      clear hb CX k0 k1 k2 k3 k4 k5
      obtain ⟨k0, k1, k2, k3, k4, k5⟩ := (unhide RB).cells
      have hg7x : g7 < x1.heap.size := (Array.getElem?_eq_some_iff.1 (unhide RB)).1
      obtain ⟨D, hD⟩ : ∃ D, D = rdB s := ⟨_, rfl⟩
      have CR : Hid (Calls Tryd.prog 7 #[.string s] x1 fun e w' => Below x1.heap.size x1 w' ∧ ∃ v, e = .returned (.agg #[.int .i64 D.1, .int .i64 D.2.1, v]) ∧ PaG x1.heap.size w'.heap.size w' v D.2.2) := hide (by rw [hD]; exact implR s x1 (by omega) ((unhide HN).below (unhide BB)) (Utf8Tabs_below (unhide HT) (unhide BB)))
      have CQ : Hid (∀ W : World, Calls Tryd.prog 10 #[.string s] W fun e w' => Below W.heap.size W w' ∧ ∃ v, e = .returned (.agg #[.int .i64 D.1, .int .i64 D.2.1, v]) ∧ PaG W.heap.size w'.heap.size w' v D.2.2) := hide (by intro W; rw [hD]; exact specR s W (by omega))
      have RC : Hid ((D.2.2 = [] ∧ D.1 ≠ 0) ∨ (right D.2.2 = true ∧ D.1 = 0)) := hide (by rw [hD]; exact rdB_cases s)
      have RS : Hid (Small D.2.2) := hide (by rw [hD]; exact rdB_small s)
      clear hD
      obtain ⟨dc, da, DP⟩ := D
      simp only at CR CQ RC RS
      go_wp2_with fail
      refine (unhide CR).mono ?_
      rintro e x2 ⟨hb, rv, rfl, hp⟩
      try simp only at hp
      obtain ⟨ra, rc, rfl⟩ := hp.pa.form
      have PR := hide hp.pa
      replace RB := hide ((unhide RB).below hb)
      replace BB := hide ((unhide BB).trans (hb.mono (unhide BB).size))
      clear hb CR hp k0 k1 k2 k3 k4 k5
      obtain ⟨k0, k1, k2, k3, k4, k5⟩ := (unhide RB).cells
      have RP := hide ((unhide RB).put dc da (.slice ra DP.length rc))
      have hbS : Below w.heap.size x2 (((x2.setCell ⟨g7, 0, none⟩ (.int .i64 dc)).setCell ⟨g7, 1, none⟩ (.int .i64 da)).setCell ⟨g7, 2, none⟩ (.slice ra DP.length rc)) := (((Below.refl _ _).setCell (p := ⟨g7, 0, none⟩) hg7 _).setCell (p := ⟨g7, 1, none⟩) hg7 _).setCell (p := ⟨g7, 2, none⟩) hg7 _
      have BP := hide ((unhide BB).trans hbS)
      have PR3 := hide (pa3 (unhide PR) hg7x (.int .i64 dc) (.int .i64 da) (.slice ra DP.length rc))
      clear hbS PR BB
      go_upto_region 12 with fail
      generalize ((x2.setCell ⟨g7, 0, none⟩ (.int .i64 dc)).setCell ⟨g7, 1, none⟩ (.int .i64 da)).setCell ⟨g7, 2, none⟩ (.slice ra DP.length rc) = x3 at *
      clear k0 k1 k2 k3 k4 k5 RB
      go_wp2_with fail
      refine ((unhide CQ) x3).mono ?_
      rintro e x4 ⟨hb, wv, rfl, hp⟩
      try simp only at hp
      obtain ⟨sa, sc, rfl⟩ := hp.pa.form
      have hb2 : Below x3.heap.size x3 (x4.alloc (.cells #[.int .i64 dc, .int .i64 da, .slice sa DP.length sc] 27)) := hb.alloc hb.size _
      have hbA : Below x4.heap.size x4 (x4.alloc (.cells #[.int .i64 dc, .int .i64 da, .slice sa DP.length sc] 27)) := (Below.refl _ _).alloc (Nat.le_refl _) _
      have PS := hide (hp.pa.below hbA)
      replace RP := hide ((unhide RP).below hb2)
      replace PR3 := hide ((unhide PR3).below hb2)
      replace BP := hide ((unhide BP).trans (hb2.mono (unhide BP).size))
      have R9 : Hid (Rb (x4.alloc (.cells #[.int .i64 dc, .int .i64 da, .slice sa DP.length sc] 27)) x4.heap.size dc da (.slice sa DP.length sc)) := hide (heap_new x4 _)
      clear hb hb2 hbA hp CQ
      go_upto_region 13 with fail
      generalize x4.heap.size = g9 at *
      generalize x4.alloc (.cells #[.int .i64 dc, .int .i64 da, .slice sa DP.length sc] 27) = x5 at *
      obtain ⟨k0, k1, k2, _⟩ := (unhide RP).cells
      obtain ⟨j0, j1, j2, _⟩ := (unhide R9).cells
      have e1 : (dc != dc) = false := by simp
      have e2 : (da != da) = false := by simp
      have e3 : ((DP.length : Int) != (DP.length : Int)) = false := by simp
      rcases unhide RC with ⟨_, hne⟩ | ⟨hr, hz⟩
      · have hne' : (dc != 0) = true := by simpa using hne
        clear hne RC
        go_upto_region 15 with fail
        go_quiet (fail)
        go_wp2
        go_ret
        exact ⟨rfl, bdrew (unhide BP) _⟩
      · try simp only at hr hz
        subst hz
        have hfl : flt DP = 0 := by rcases flt_iff DP with h | h; exact h.1; rw [hr] at h; cases h.2
        have CF := hide (fun W (h : Below x5.heap.size x5 W) => implPF _ DP _ W ((unhide PR3).below h) (unhide RS) (Utf8Tabs_below (unhide HT) ((unhide BP).trans (h.mono (unhide BP).size))))
        have CI := hide (fun W (h : Below x5.heap.size x5 W) => implS _ DP _ W ((unhide PR3).below h) (unhide RS) (Utf8Tabs_below (unhide HT) ((unhide BP).trans (h.mono (unhide BP).size))) ((unhide HN).below ((unhide BP).trans (h.mono (unhide BP).size))))
        have CS := hide (fun W (h : Below x5.heap.size x5 W) => specS _ DP _ W ((unhide PS).below h) (unhide RS))
        rw [hfl] at CF
        clear hfl hr RC
        generalize strOfNums (shP DP) = X at *
        have xx : (X.toList == X.toList) = true := by simp
        go_upto_region 15 with fail
        refine wp_region_held_drew (S := fun w' => (w'.cell? ⟨g7, 0, none⟩ = some (.int .i64 0) ∧ w'.cell? ⟨g7, 2, none⟩ = some (.slice ra DP.length rc)) ∧ w'.cell? ⟨g9, 2, none⟩ = some (.slice sa DP.length sc)) (by kernel_rfl) (by first | go_keep | exact ⟨⟨k0, k2⟩, j2⟩) (fun hHeld => ?_)
        have B0 : Hid (Below x5.heap.size x5 x5.drew) := hide (drewB x5)
        have hK7 : g7 < x5.heap.size := (Array.getElem?_eq_some_iff.1 (unhide RP)).1
        have hK9 : g9 < x5.heap.size := (Array.getElem?_eq_some_iff.1 (unhide R9)).1
        refine Dr.tkF (i := 0) (d := some 83) (v := ?_) rfl rfl (by kernel_rfl) (by kernel_rfl) (by kernel_rfl) (fun _ _ _ h => h) (Or.inl ⟨by rfl, ?_⟩) (by assumption) ?_
        rotate_left
        · intro w hSw; (try dsimp only at hSw); go_simp; try with_reducible rfl
        try simp only [Act.put, List.setIfInBounds_toArray, List.set_cons_zero, List.set_cons_succ]
        refine Dr.tkF (i := 1) (d := some 84) (v := ?_) rfl rfl (by kernel_rfl) (by kernel_rfl) (by kernel_rfl) (fun _ _ _ h => h) (Or.inl ⟨by rfl, ?_⟩) (by assumption) ?_
        rotate_left
        · intro w hSw; (try dsimp only at hSw); go_simp; try with_reducible rfl
        try simp only [Act.put, List.setIfInBounds_toArray, List.set_cons_zero, List.set_cons_succ]
        refine Dr.tkF (i := 2) (d := some 85) (v := ?_) rfl rfl (by kernel_rfl) (by kernel_rfl) (by kernel_rfl) (fun _ _ _ h => h) (Or.inl ⟨by rfl, ?_⟩) (by assumption) ?_
        rotate_left
        · intro w hSw; (try dsimp only at hSw); go_simp; try with_reducible rfl
        try simp only [Act.put, List.setIfInBounds_toArray, List.set_cons_zero, List.set_cons_succ]
        refine Dr.tkF (i := 3) (d := some 86) (v := ?_) rfl rfl (by kernel_rfl) (by kernel_rfl) (by kernel_rfl) (fun _ _ _ h => h) (Or.inl ⟨by rfl, ?_⟩) (by assumption) ?_
        rotate_left
        · intro w hSw; (try dsimp only at hSw); go_simp; try with_reducible rfl
        try simp only [Act.put, List.setIfInBounds_toArray, List.set_cons_zero, List.set_cons_succ]
        refine Dr.tkF (i := 4) (d := some 87) (v := ?_) rfl rfl (by kernel_rfl) (by kernel_rfl) (by kernel_rfl) (fun _ _ _ h => h) (Or.inl ⟨by rfl, ?_⟩) (by assumption) ?_
        rotate_left
        · intro w hSw; (try dsimp only at hSw); go_simp; try with_reducible rfl
        try simp only [Act.put, List.setIfInBounds_toArray, List.set_cons_zero, List.set_cons_succ]
        refine Dr.tkF (i := 5) (d := some 88) (v := ?_) rfl rfl (by kernel_rfl) (by kernel_rfl) (by kernel_rfl) (fun _ _ _ h => h) (Or.inl ⟨by rfl, ?_⟩) (by assumption) ?_
        rotate_left
        · intro w hSw; (try dsimp only at hSw); go_simp; try with_reducible rfl
        try simp only [Act.put, List.setIfInBounds_toArray, List.set_cons_zero, List.set_cons_succ]
        refine wpAnyH_ready (rs := [6]) (by kernel_rfl) (by simp) (AllReadyH.cons rfl (fun Kq hK => ?_) AllReadyH.nil)
        go_simp
        go_at_call 11
        refine ((unhide CF) _ (unhide B0)).mono ?_
        rintro e y1 ⟨rfl, hb⟩
        replace B0 := hide ((unhide B0).trans (hb.mono (unhide B0).size))
        clear hb CF
        try go_wp2_with fail
        refine hK.out _ _ ⟨⟨((unhide B0).cell (p := ⟨g7, 0, none⟩) hK7).trans k0, ((unhide B0).cell (p := ⟨g7, 2, none⟩) hK7).trans k2⟩, ((unhide B0).cell (p := ⟨g9, 2, none⟩) hK9).trans j2⟩ (fun hHeldZ => ?_)
        clear hK Kq
        try simp only [Act.put, List.setIfInBounds_toArray, List.set_cons_zero, List.set_cons_succ]
        refine Dr.tkF (i := 7) (d := some 90) (v := ?_) rfl rfl (by kernel_rfl) (by kernel_rfl) (by kernel_rfl) (fun _ _ _ h => h) (Or.inl ⟨by rfl, ?_⟩) (by assumption) ?_
        rotate_left
        · intro w hSw; (try dsimp only at hSw); go_simp; try with_reducible rfl
        try simp only [Act.put, List.setIfInBounds_toArray, List.set_cons_zero, List.set_cons_succ]
        refine Dr.tkF (i := 8) (d := some 91) (v := ?_) rfl rfl (by kernel_rfl) (by kernel_rfl) (by kernel_rfl) (fun _ _ _ h => h) (Or.inl ⟨by rfl, ?_⟩) (by assumption) ?_
        rotate_left
        · intro w hSw; (try dsimp only at hSw); go_simp; try with_reducible rfl
        try simp only [Act.put, List.setIfInBounds_toArray, List.set_cons_zero, List.set_cons_succ]
        refine Dr.tkF (i := 9) (d := some 92) (v := ?_) rfl rfl (by kernel_rfl) (by kernel_rfl) (by kernel_rfl) (fun _ _ _ h => h) (Or.inl ⟨by rfl, ?_⟩) (by assumption) ?_
        rotate_left
        · intro w hSw; (try dsimp only at hSw); go_simp; try with_reducible rfl
        try simp only [Act.put, List.setIfInBounds_toArray, List.set_cons_zero, List.set_cons_succ]
        refine Dr.tkF (i := 10) (d := some 93) (v := ?_) rfl rfl (by kernel_rfl) (by kernel_rfl) (by kernel_rfl) (fun _ _ _ h => h) (Or.inl ⟨by rfl, ?_⟩) (by assumption) ?_
        rotate_left
        · intro w hSw; (try dsimp only at hSw); go_simp; try with_reducible rfl
        try simp only [Act.put, List.setIfInBounds_toArray, List.set_cons_zero, List.set_cons_succ]
        refine Dr.tkF (i := 12) (d := some 95) (v := ?_) rfl rfl (by kernel_rfl) (by kernel_rfl) (by kernel_rfl) (fun _ _ _ h => h) (Or.inl ⟨by rfl, ?_⟩) (by assumption) ?_
        rotate_left
        · intro w hSw; (try dsimp only at hSw); go_simp; try with_reducible rfl
        try simp only [Act.put, List.setIfInBounds_toArray, List.set_cons_zero, List.set_cons_succ]
        refine Dr.tkF (i := 13) (d := some 96) (v := ?_) rfl rfl (by kernel_rfl) (by kernel_rfl) (by kernel_rfl) (fun _ _ _ h => h) (Or.inl ⟨by rfl, ?_⟩) (by assumption) ?_
        rotate_left
        · intro w hSw; (try dsimp only at hSw); go_simp; try with_reducible rfl
        try simp only [Act.put, List.setIfInBounds_toArray, List.set_cons_zero, List.set_cons_succ]
        refine wpAnyH_ready (rs := [11]) (by kernel_rfl) (by simp) (AllReadyH.cons rfl (fun Kq hK => ?_) AllReadyH.nil)
        go_simp
        go_at_call 5
        refine ((unhide CI) _ (unhide B0)).mono ?_
        rintro e y2 ⟨rfl, hb⟩
        replace B0 := hide ((unhide B0).trans (hb.mono (unhide B0).size))
        clear hb CI
        try go_wp2_with fail
        refine hK.out _ _ ⟨⟨((unhide B0).cell (p := ⟨g7, 0, none⟩) hK7).trans k0, ((unhide B0).cell (p := ⟨g7, 2, none⟩) hK7).trans k2⟩, ((unhide B0).cell (p := ⟨g9, 2, none⟩) hK9).trans j2⟩ (fun hHeldZ => ?_)
        clear hK Kq
        try simp only [Act.put, List.setIfInBounds_toArray, List.set_cons_zero, List.set_cons_succ]
        refine wpAnyH_ready (rs := [14]) (by kernel_rfl) (by simp) (AllReadyH.cons rfl (fun Kq hK => ?_) AllReadyH.nil)
        go_simp
        go_at_call 6
        refine ((unhide CS) _ (unhide B0)).mono ?_
        rintro e y3 ⟨rfl, hb⟩
        replace B0 := hide ((unhide B0).trans (hb.mono (unhide B0).size))
        clear hb CS
        try go_wp2_with fail
        refine hK.out _ _ ⟨⟨((unhide B0).cell (p := ⟨g7, 0, none⟩) hK7).trans k0, ((unhide B0).cell (p := ⟨g7, 2, none⟩) hK7).trans k2⟩, ((unhide B0).cell (p := ⟨g9, 2, none⟩) hK9).trans j2⟩ (fun hHeldZ => ?_)
        clear hK Kq
        try simp only [Act.put, List.setIfInBounds_toArray, List.set_cons_zero, List.set_cons_succ]
        refine Dr.tkF (i := 15) (d := some 98) (v := ?_) rfl rfl (by kernel_rfl) (by kernel_rfl) (by kernel_rfl) (fun _ _ _ h => h) (Or.inl ⟨by rfl, ?_⟩) (by assumption) ?_
        rotate_left
        · intro w hSw; (try dsimp only at hSw); go_simp; try with_reducible rfl
        try simp only [Act.put, List.setIfInBounds_toArray, List.set_cons_zero, List.set_cons_succ]
        refine Dr.tkF (i := 16) (d := some 99) (v := ?_) rfl rfl (by kernel_rfl) (by kernel_rfl) (by kernel_rfl) (fun _ _ _ h => h) (Or.inl ⟨by rfl, ?_⟩) (by assumption) ?_
        rotate_left
        · intro w hSw; (try dsimp only at hSw); go_simp; try with_reducible rfl
        try simp only [Act.put, List.setIfInBounds_toArray, List.set_cons_zero, List.set_cons_succ]
        refine Dr.tkF (i := 17) (d := some 100) (v := ?_) rfl rfl (by kernel_rfl) (by kernel_rfl) (by kernel_rfl) (fun _ _ _ h => h) (Or.inl ⟨by rfl, ?_⟩) (by assumption) ?_
        rotate_left
        · intro w hSw; (try dsimp only at hSw); go_simp; try with_reducible rfl
        try simp only [Act.put, List.setIfInBounds_toArray, List.set_cons_zero, List.set_cons_succ]
        refine Dr.tkF (i := 18) (d := some 4) (v := ?_) rfl rfl (by kernel_rfl) (by kernel_rfl) (by kernel_rfl) (fun _ _ _ h => h) (Or.inl ⟨by rfl, ?_⟩) (by assumption) ?_
        rotate_left
        · intro w hSw; (try dsimp only at hSw); go_simp; try with_reducible rfl
        try simp only [Act.put, List.setIfInBounds_toArray, List.set_cons_zero, List.set_cons_succ]
        refine wpAnyH_done (by kernel_rfl) ?_ _
        go_wp2
        go_ret
        exact ⟨rfl, (unhide BP).trans ((unhide B0).mono (unhide BP).size)⟩
  · rw [hf]
    clear BK hf hr PR RS
    go_upto_region 10 with fail
    clear f0 f1 f2 f3 f4 f5
    have hg7l : g7 < w6.heap.size := (Array.getElem?_eq_some_iff.1 (unhide RB)).1
    have CX := hide (Dr.drawRead_any w6 a2 len2 cap2 (by omega) (code_onL (unhide HC) (unhide BB)))
    obtain ⟨k0, k1, k2, k3, k4, k5⟩ := (unhide RB).cells
    go_wp2_with fail
    refine (unhide CX).mono ?_
    rintro e x1 ⟨s, rfl, hs, hb⟩
    replace RB := hide ((unhide RB).below hb)
    replace BB := hide ((unhide BB).trans (hb.mono (unhide BB).size))
    clear hb CX k0 k1 k2 k3 k4 k5
    obtain ⟨k0, k1, k2, k3, k4, k5⟩ := (unhide RB).cells
    have hg7x : g7 < x1.heap.size := (Array.getElem?_eq_some_iff.1 (unhide RB)).1
    obtain ⟨D, hD⟩ : ∃ D, D = rdB s := ⟨_, rfl⟩
    have CR : Hid (Calls Tryd.prog 7 #[.string s] x1 fun e w' => Below x1.heap.size x1 w' ∧ ∃ v, e = .returned (.agg #[.int .i64 D.1, .int .i64 D.2.1, v]) ∧ PaG x1.heap.size w'.heap.size w' v D.2.2) := hide (by rw [hD]; exact implR s x1 (by omega) ((unhide HN).below (unhide BB)) (Utf8Tabs_below (unhide HT) (unhide BB)))
    have CQ : Hid (∀ W : World, Calls Tryd.prog 10 #[.string s] W fun e w' => Below W.heap.size W w' ∧ ∃ v, e = .returned (.agg #[.int .i64 D.1, .int .i64 D.2.1, v]) ∧ PaG W.heap.size w'.heap.size w' v D.2.2) := hide (by intro W; rw [hD]; exact specR s W (by omega))
    have RC : Hid ((D.2.2 = [] ∧ D.1 ≠ 0) ∨ (right D.2.2 = true ∧ D.1 = 0)) := hide (by rw [hD]; exact rdB_cases s)
    have RS : Hid (Small D.2.2) := hide (by rw [hD]; exact rdB_small s)
    clear hD
    obtain ⟨dc, da, DP⟩ := D
    simp only at CR CQ RC RS
    go_wp2_with fail
    refine (unhide CR).mono ?_
    rintro e x2 ⟨hb, rv, rfl, hp⟩
    try simp only at hp
    obtain ⟨ra, rc, rfl⟩ := hp.pa.form
    have PR := hide hp.pa
    replace RB := hide ((unhide RB).below hb)
    replace BB := hide ((unhide BB).trans (hb.mono (unhide BB).size))
    clear hb CR hp k0 k1 k2 k3 k4 k5
    obtain ⟨k0, k1, k2, k3, k4, k5⟩ := (unhide RB).cells
    have RP := hide ((unhide RB).put dc da (.slice ra DP.length rc))
    have hbS : Below w.heap.size x2 (((x2.setCell ⟨g7, 0, none⟩ (.int .i64 dc)).setCell ⟨g7, 1, none⟩ (.int .i64 da)).setCell ⟨g7, 2, none⟩ (.slice ra DP.length rc)) := (((Below.refl _ _).setCell (p := ⟨g7, 0, none⟩) hg7 _).setCell (p := ⟨g7, 1, none⟩) hg7 _).setCell (p := ⟨g7, 2, none⟩) hg7 _
    have BP := hide ((unhide BB).trans hbS)
    have PR3 := hide (pa3 (unhide PR) hg7x (.int .i64 dc) (.int .i64 da) (.slice ra DP.length rc))
    clear hbS PR BB
    go_upto_region 12 with fail
    generalize ((x2.setCell ⟨g7, 0, none⟩ (.int .i64 dc)).setCell ⟨g7, 1, none⟩ (.int .i64 da)).setCell ⟨g7, 2, none⟩ (.slice ra DP.length rc) = x3 at *
    clear k0 k1 k2 k3 k4 k5 RB
    go_wp2_with fail
    refine ((unhide CQ) x3).mono ?_
    rintro e x4 ⟨hb, wv, rfl, hp⟩
    try simp only at hp
    obtain ⟨sa, sc, rfl⟩ := hp.pa.form
    have hb2 : Below x3.heap.size x3 (x4.alloc (.cells #[.int .i64 dc, .int .i64 da, .slice sa DP.length sc] 27)) := hb.alloc hb.size _
    have hbA : Below x4.heap.size x4 (x4.alloc (.cells #[.int .i64 dc, .int .i64 da, .slice sa DP.length sc] 27)) := (Below.refl _ _).alloc (Nat.le_refl _) _
    have PS := hide (hp.pa.below hbA)
    replace RP := hide ((unhide RP).below hb2)
    replace PR3 := hide ((unhide PR3).below hb2)
    replace BP := hide ((unhide BP).trans (hb2.mono (unhide BP).size))
    have R9 : Hid (Rb (x4.alloc (.cells #[.int .i64 dc, .int .i64 da, .slice sa DP.length sc] 27)) x4.heap.size dc da (.slice sa DP.length sc)) := hide (heap_new x4 _)
    clear hb hb2 hbA hp CQ
    go_upto_region 13 with fail
    generalize x4.heap.size = g9 at *
    generalize x4.alloc (.cells #[.int .i64 dc, .int .i64 da, .slice sa DP.length sc] 27) = x5 at *
    obtain ⟨k0, k1, k2, _⟩ := (unhide RP).cells
    obtain ⟨j0, j1, j2, _⟩ := (unhide R9).cells
    have e1 : (dc != dc) = false := by simp
    have e2 : (da != da) = false := by simp
    have e3 : ((DP.length : Int) != (DP.length : Int)) = false := by simp
    rcases unhide RC with ⟨_, hne⟩ | ⟨hr, hz⟩
    · have hne' : (dc != 0) = true := by simpa using hne
      clear hne RC
      go_upto_region 15 with fail
      go_quiet (fail)
      go_wp2
      go_ret
      exact ⟨rfl, bdrew (unhide BP) _⟩
    · try simp only at hr hz
      subst hz
      have hfl : flt DP = 0 := by rcases flt_iff DP with h | h; exact h.1; rw [hr] at h; cases h.2
      have CF := hide (fun W (h : Below x5.heap.size x5 W) => implPF _ DP _ W ((unhide PR3).below h) (unhide RS) (Utf8Tabs_below (unhide HT) ((unhide BP).trans (h.mono (unhide BP).size))))
      have CI := hide (fun W (h : Below x5.heap.size x5 W) => implS _ DP _ W ((unhide PR3).below h) (unhide RS) (Utf8Tabs_below (unhide HT) ((unhide BP).trans (h.mono (unhide BP).size))) ((unhide HN).below ((unhide BP).trans (h.mono (unhide BP).size))))
      have CS := hide (fun W (h : Below x5.heap.size x5 W) => specS _ DP _ W ((unhide PS).below h) (unhide RS))
      rw [hfl] at CF
      clear hfl hr RC
      generalize strOfNums (shP DP) = X at *
      have xx : (X.toList == X.toList) = true := by simp
      go_upto_region 15 with fail
      refine wp_region_held_drew (S := fun w' => (w'.cell? ⟨g7, 0, none⟩ = some (.int .i64 0) ∧ w'.cell? ⟨g7, 2, none⟩ = some (.slice ra DP.length rc)) ∧ w'.cell? ⟨g9, 2, none⟩ = some (.slice sa DP.length sc)) (by kernel_rfl) (by first | go_keep | exact ⟨⟨k0, k2⟩, j2⟩) (fun hHeld => ?_)
      have B0 : Hid (Below x5.heap.size x5 x5.drew) := hide (drewB x5)
      have hK7 : g7 < x5.heap.size := (Array.getElem?_eq_some_iff.1 (unhide RP)).1
      have hK9 : g9 < x5.heap.size := (Array.getElem?_eq_some_iff.1 (unhide R9)).1
      refine Dr.tkF (i := 0) (d := some 83) (v := ?_) rfl rfl (by kernel_rfl) (by kernel_rfl) (by kernel_rfl) (fun _ _ _ h => h) (Or.inl ⟨by rfl, ?_⟩) (by assumption) ?_
      rotate_left
      · intro w hSw; (try dsimp only at hSw); go_simp; try with_reducible rfl
      try simp only [Act.put, List.setIfInBounds_toArray, List.set_cons_zero, List.set_cons_succ]
      refine Dr.tkF (i := 1) (d := some 84) (v := ?_) rfl rfl (by kernel_rfl) (by kernel_rfl) (by kernel_rfl) (fun _ _ _ h => h) (Or.inl ⟨by rfl, ?_⟩) (by assumption) ?_
      rotate_left
      · intro w hSw; (try dsimp only at hSw); go_simp; try with_reducible rfl
      try simp only [Act.put, List.setIfInBounds_toArray, List.set_cons_zero, List.set_cons_succ]
      refine Dr.tkF (i := 2) (d := some 85) (v := ?_) rfl rfl (by kernel_rfl) (by kernel_rfl) (by kernel_rfl) (fun _ _ _ h => h) (Or.inl ⟨by rfl, ?_⟩) (by assumption) ?_
      rotate_left
      · intro w hSw; (try dsimp only at hSw); go_simp; try with_reducible rfl
      try simp only [Act.put, List.setIfInBounds_toArray, List.set_cons_zero, List.set_cons_succ]
      refine Dr.tkF (i := 3) (d := some 86) (v := ?_) rfl rfl (by kernel_rfl) (by kernel_rfl) (by kernel_rfl) (fun _ _ _ h => h) (Or.inl ⟨by rfl, ?_⟩) (by assumption) ?_
      rotate_left
      · intro w hSw; (try dsimp only at hSw); go_simp; try with_reducible rfl
      try simp only [Act.put, List.setIfInBounds_toArray, List.set_cons_zero, List.set_cons_succ]
      refine Dr.tkF (i := 4) (d := some 87) (v := ?_) rfl rfl (by kernel_rfl) (by kernel_rfl) (by kernel_rfl) (fun _ _ _ h => h) (Or.inl ⟨by rfl, ?_⟩) (by assumption) ?_
      rotate_left
      · intro w hSw; (try dsimp only at hSw); go_simp; try with_reducible rfl
      try simp only [Act.put, List.setIfInBounds_toArray, List.set_cons_zero, List.set_cons_succ]
      refine Dr.tkF (i := 5) (d := some 88) (v := ?_) rfl rfl (by kernel_rfl) (by kernel_rfl) (by kernel_rfl) (fun _ _ _ h => h) (Or.inl ⟨by rfl, ?_⟩) (by assumption) ?_
      rotate_left
      · intro w hSw; (try dsimp only at hSw); go_simp; try with_reducible rfl
      try simp only [Act.put, List.setIfInBounds_toArray, List.set_cons_zero, List.set_cons_succ]
      refine wpAnyH_ready (rs := [6]) (by kernel_rfl) (by simp) (AllReadyH.cons rfl (fun Kq hK => ?_) AllReadyH.nil)
      go_simp
      go_at_call 11
      refine ((unhide CF) _ (unhide B0)).mono ?_
      rintro e y1 ⟨rfl, hb⟩
      replace B0 := hide ((unhide B0).trans (hb.mono (unhide B0).size))
      clear hb CF
      try go_wp2_with fail
      refine hK.out _ _ ⟨⟨((unhide B0).cell (p := ⟨g7, 0, none⟩) hK7).trans k0, ((unhide B0).cell (p := ⟨g7, 2, none⟩) hK7).trans k2⟩, ((unhide B0).cell (p := ⟨g9, 2, none⟩) hK9).trans j2⟩ (fun hHeldZ => ?_)
      clear hK Kq
      try simp only [Act.put, List.setIfInBounds_toArray, List.set_cons_zero, List.set_cons_succ]
      refine Dr.tkF (i := 7) (d := some 90) (v := ?_) rfl rfl (by kernel_rfl) (by kernel_rfl) (by kernel_rfl) (fun _ _ _ h => h) (Or.inl ⟨by rfl, ?_⟩) (by assumption) ?_
      rotate_left
      · intro w hSw; (try dsimp only at hSw); go_simp; try with_reducible rfl
      try simp only [Act.put, List.setIfInBounds_toArray, List.set_cons_zero, List.set_cons_succ]
      refine Dr.tkF (i := 8) (d := some 91) (v := ?_) rfl rfl (by kernel_rfl) (by kernel_rfl) (by kernel_rfl) (fun _ _ _ h => h) (Or.inl ⟨by rfl, ?_⟩) (by assumption) ?_
      rotate_left
      · intro w hSw; (try dsimp only at hSw); go_simp; try with_reducible rfl
      try simp only [Act.put, List.setIfInBounds_toArray, List.set_cons_zero, List.set_cons_succ]
      refine Dr.tkF (i := 9) (d := some 92) (v := ?_) rfl rfl (by kernel_rfl) (by kernel_rfl) (by kernel_rfl) (fun _ _ _ h => h) (Or.inl ⟨by rfl, ?_⟩) (by assumption) ?_
      rotate_left
      · intro w hSw; (try dsimp only at hSw); go_simp; try with_reducible rfl
      try simp only [Act.put, List.setIfInBounds_toArray, List.set_cons_zero, List.set_cons_succ]
      refine Dr.tkF (i := 10) (d := some 93) (v := ?_) rfl rfl (by kernel_rfl) (by kernel_rfl) (by kernel_rfl) (fun _ _ _ h => h) (Or.inl ⟨by rfl, ?_⟩) (by assumption) ?_
      rotate_left
      · intro w hSw; (try dsimp only at hSw); go_simp; try with_reducible rfl
      try simp only [Act.put, List.setIfInBounds_toArray, List.set_cons_zero, List.set_cons_succ]
      refine Dr.tkF (i := 12) (d := some 95) (v := ?_) rfl rfl (by kernel_rfl) (by kernel_rfl) (by kernel_rfl) (fun _ _ _ h => h) (Or.inl ⟨by rfl, ?_⟩) (by assumption) ?_
      rotate_left
      · intro w hSw; (try dsimp only at hSw); go_simp; try with_reducible rfl
      try simp only [Act.put, List.setIfInBounds_toArray, List.set_cons_zero, List.set_cons_succ]
      refine Dr.tkF (i := 13) (d := some 96) (v := ?_) rfl rfl (by kernel_rfl) (by kernel_rfl) (by kernel_rfl) (fun _ _ _ h => h) (Or.inl ⟨by rfl, ?_⟩) (by assumption) ?_
      rotate_left
      · intro w hSw; (try dsimp only at hSw); go_simp; try with_reducible rfl
      try simp only [Act.put, List.setIfInBounds_toArray, List.set_cons_zero, List.set_cons_succ]
      refine wpAnyH_ready (rs := [11]) (by kernel_rfl) (by simp) (AllReadyH.cons rfl (fun Kq hK => ?_) AllReadyH.nil)
      go_simp
      go_at_call 5
      refine ((unhide CI) _ (unhide B0)).mono ?_
      rintro e y2 ⟨rfl, hb⟩
      replace B0 := hide ((unhide B0).trans (hb.mono (unhide B0).size))
      clear hb CI
      try go_wp2_with fail
      refine hK.out _ _ ⟨⟨((unhide B0).cell (p := ⟨g7, 0, none⟩) hK7).trans k0, ((unhide B0).cell (p := ⟨g7, 2, none⟩) hK7).trans k2⟩, ((unhide B0).cell (p := ⟨g9, 2, none⟩) hK9).trans j2⟩ (fun hHeldZ => ?_)
      clear hK Kq
      try simp only [Act.put, List.setIfInBounds_toArray, List.set_cons_zero, List.set_cons_succ]
      refine wpAnyH_ready (rs := [14]) (by kernel_rfl) (by simp) (AllReadyH.cons rfl (fun Kq hK => ?_) AllReadyH.nil)
      go_simp
      go_at_call 6
      refine ((unhide CS) _ (unhide B0)).mono ?_
      rintro e y3 ⟨rfl, hb⟩
      replace B0 := hide ((unhide B0).trans (hb.mono (unhide B0).size))
      clear hb CS
      try go_wp2_with fail
      refine hK.out _ _ ⟨⟨((unhide B0).cell (p := ⟨g7, 0, none⟩) hK7).trans k0, ((unhide B0).cell (p := ⟨g7, 2, none⟩) hK7).trans k2⟩, ((unhide B0).cell (p := ⟨g9, 2, none⟩) hK9).trans j2⟩ (fun hHeldZ => ?_)
      clear hK Kq
      try simp only [Act.put, List.setIfInBounds_toArray, List.set_cons_zero, List.set_cons_succ]
      refine Dr.tkF (i := 15) (d := some 98) (v := ?_) rfl rfl (by kernel_rfl) (by kernel_rfl) (by kernel_rfl) (fun _ _ _ h => h) (Or.inl ⟨by rfl, ?_⟩) (by assumption) ?_
      rotate_left
      · intro w hSw; (try dsimp only at hSw); go_simp; try with_reducible rfl
      try simp only [Act.put, List.setIfInBounds_toArray, List.set_cons_zero, List.set_cons_succ]
      refine Dr.tkF (i := 16) (d := some 99) (v := ?_) rfl rfl (by kernel_rfl) (by kernel_rfl) (by kernel_rfl) (fun _ _ _ h => h) (Or.inl ⟨by rfl, ?_⟩) (by assumption) ?_
      rotate_left
      · intro w hSw; (try dsimp only at hSw); go_simp; try with_reducible rfl
      try simp only [Act.put, List.setIfInBounds_toArray, List.set_cons_zero, List.set_cons_succ]
      refine Dr.tkF (i := 17) (d := some 100) (v := ?_) rfl rfl (by kernel_rfl) (by kernel_rfl) (by kernel_rfl) (fun _ _ _ h => h) (Or.inl ⟨by rfl, ?_⟩) (by assumption) ?_
      rotate_left
      · intro w hSw; (try dsimp only at hSw); go_simp; try with_reducible rfl
      try simp only [Act.put, List.setIfInBounds_toArray, List.set_cons_zero, List.set_cons_succ]
      refine Dr.tkF (i := 18) (d := some 4) (v := ?_) rfl rfl (by kernel_rfl) (by kernel_rfl) (by kernel_rfl) (fun _ _ _ h => h) (Or.inl ⟨by rfl, ?_⟩) (by assumption) ?_
      rotate_left
      · intro w hSw; (try dsimp only at hSw); go_simp; try with_reducible rfl
      try simp only [Act.put, List.setIfInBounds_toArray, List.set_cons_zero, List.set_cons_succ]
      refine wpAnyH_done (by kernel_rfl) ?_ _
      go_wp2
      go_ret
      exact ⟨rfl, (unhide BP).trans ((unhide B0).mono (unhide BP).size)⟩
end Go.Proofs.YtklakcnapdhcnaaDoor.Pas
/- What the row's list says of the names of the forms. -/
namespace Go.Proofs.YtklakcnapdhcnaaDoor.Pas
open Go.ChangeShapes Go.WideShapes Go.ChangeAt Go.RowKit
theorem gNam : Tryd.prog.globalNamed "loop.example/g00044/impl.normNames" = some 0 := by kernel_rfl
theorem gNamType : (Tryd.prog.globals[0]?).map (·.type) = some 38 := by kernel_rfl
theorem cellsNam : Tryd.prog.cellsOf 38 = 5 := by kernel_rfl
theorem cellsStr : Tryd.prog.cellsOf 9 = 1 := by kernel_rfl
theorem laid_nam : (Rows.laid_loop_example_g00044_impl_normNames : DataW Unit) = .agg [.lit (.string [110, 111, 110, 101]), .lit (.string [68]), .lit (.string [67]), .lit (.string [75, 68]), .lit (.string [75, 67])] := by kernel_rfl
set_option maxRecDepth 100000 in
theorem namAt_of {W : World} (h : Lib.VarReads Tryd.prog W "loop.example/g00044/impl.normNames" Rows.laid_loop_example_g00044_impl_normNames) : NamAt W := by
  rw [laid_nam] at h
  obtain ⟨g', t', cs, fuel, p, hg', ht', hvar, hd⟩ := h
  obtain rfl := Option.some.inj (gNam.symm.trans hg')
  obtain rfl := Option.some.inj (gNamType.symm.trans ht')
  obtain ⟨xs, m, _, hx, hl, hn, hel⟩ := DataW.trod_array Tryd.underlying38 hd
  rw [cellsStr] at hel
  rw [cellsNam] at hl
  simp only [Prod.mk.injEq, DataW.agg.injEq] at hx
  have hmap := hx.1
  clear hx hd
  have hpos : 0 < W.heap.size := by
    unfold World.var? at hvar
    rw [hg'] at hvar
    simp only [Option.bind_some] at hvar
    cases hh : W.heap[0]? with
    | none => rw [hh] at hvar; cases hvar
    | some o => exact (Array.getElem?_eq_some_iff.1 hh).1
  refine ⟨hpos, fun i hi => ?_⟩
  have hxi := hel i (by omega)
  have hlx : i < xs.length := by omega
  rw [List.getElem?_eq_getElem hlx] at hxi
  obtain ⟨s, c0, e0, _⟩ := DataW.trod_string Tryd.underlying9 hxi
  have h1 : (xs.map (·.1))[i]? = some xs[i].1 := by simp [hlx]
  rw [← hmap, e0] at h1
  have k0 : cs.toList[i]? = some (.string s) := by
    have := congrArg (·[0]?) c0
    simpa [List.getElem?_take, List.getElem?_drop] using this
  have cell := fun j => World.var?_cell hg' hvar j
  rw [cell, ← Array.getElem?_toList, k0]
  have hs : s = nmS i := by
    have : i = 0 ∨ i = 1 ∨ i = 2 ∨ i = 3 ∨ i = 4 := by omega
    rcases this with rfl | rfl | rfl | rfl | rfl
    all_goals
      simp at h1
      apply Go.WideShapes.bytes_inj
      rw [← h1]
      rfl
  rw [hs]
end Go.Proofs.YtklakcnapdhcnaaDoor.Pas

namespace Go.Proofs.YtklakcnapdhcnaaDoor.fnPasses
open Go.ChangeShapes Go.WideShapes Go.ChangeAt Go.RowKit
open Go.ChangeMaps (open_string shut_string)
set_option linter.unusedVariables false

theorem own : ownKnob Tryd.prog.godebug = none := by kernel_rfl
theorem laidOut : laidOutB Tryd.prog = true := by kernel_rfl
theorem rowed : varsRowed Tryd.prog Rows.fnPassesSpec.vars = true := by kernel_rfl
theorem acc_eq : (Rows.laid_unicode_utf8_acceptRanges : DataW Unit) = Lib.acceptData := by kernel_rfl
set_option maxRecDepth 100000 in
theorem lifted (os : Os) (started : os.Started) (H : Type) (enc : TypeId × Value → H) :
    ReturnsInHanded {} Tryd.checked os 3 .any (fun w args => (Rows.fnPassesSpec.pre enc Tryd.prog Tryd.f3 [] false w args ∧ laidMetH Tryd.prog Rows.fnPassesRow.laid w) ∧ sizedMet enc Tryd.prog Tryd.f3 (OpenSpec.ofChange Rows.fnPassesSpec) false w args)
      (Rows.fnPassesSpec.post enc Tryd.prog Tryd.f3 false true false false) := by
  refine returnsInHanded_of_change_and (C := Tryd.checked) (X := fun w _ => laidMetH Tryd.prog Rows.fnPassesRow.laid w) (fun _ _ _ hh h => h.of_heap hh) own started (by kernel_rfl) Tryd.func3
    (ChangeSpec.witness_shaped (enc := enc) (C := Tryd.checked) (os := os) (X := fun w _ => laidMetH Tryd.prog Rows.fnPassesRow.laid w) false (World.laidAll Tryd.prog os Rows.fnPassesRow.laid) #[.slice none 0 0, .slice none 0 0] 8 (World.laidAll_os _ _ _)
      (World.shaped_of_ZipB (by kernel_rfl) (by kernel_rfl)) (by kernel_rfl) (by kernel_rfl) (by kernel_rfl)
      (by rw [MakeChecks.laidMetH_plain _ _ _ (by kernel_rfl)]; exact laidMet_laidAll _ (by kernel_rfl) (by kernel_rfl))) ?_
  intro W base args ds gs before hval0 hW _ _ hL _
  have hval : ∀ (j : Nat) t v, Tryd.f3.params[j]? = some t → args[j]? = some v → Value.okWide Tryd.prog W .any base t v := hval0
  have hW' := hW
  obtain ⟨p, q, hA0, hV, rfl, hfz, hnd⟩ := hW
  have hA : DataW.TrodAll enc Tryd.prog W 0 (fun _ => true) true Tryd.f3.params.toList args.toList ds p := hA0
  rw [Tryd.params3] at hA hval
  obtain ⟨v0, vs0, d0, ds0, p0, q0, hargs, rfl, rfl, h0, r0⟩ := trodAll_cons hA
  obtain ⟨v1, vs1, d1, ds1, p1, q1, rfl, rfl, rfl, h1, r1⟩ := trodAll_cons r0
  obtain ⟨rfl, rfl, rfl⟩ := trodAll_nil r1
  obtain rfl : args = #[v0, v1] := by cases args; simp_all
  obtain ⟨gv, tv, csv, fuelv, dv, pv, rfl, _, _, _, _, _⟩ := trodVars_one hV
  have lt0 : ∀ x ∈ p0, x.block < W.heap.size := by obtain ⟨m, hm⟩ := h0; exact DataW.trod_lt m _ _ _ hm
  obtain ⟨a0, len0, cap0, hv0⟩ := okWide_slice Tryd.underlying22 (hval 0 22 v0 rfl rfl)
  subst hv0
  obtain ⟨ci0, cl0⟩ := Dr.open_code h0
  have lt1 : ∀ x ∈ p1, x.block < W.heap.size := by obtain ⟨m, hm⟩ := h1; exact DataW.trod_lt m _ _ _ hm
  obtain ⟨a1, len1, cap1, hv1⟩ := okWide_slice Tryd.underlying22 (hval 1 22 v1 rfl rfl)
  subst hv1
  obtain ⟨ci1, cl1⟩ := Dr.open_code h1
  clear hA0 hval0
  rw [MakeChecks.laidMetH_plain _ _ _ (by kernel_rfl)] at hL
  have hT : Lib.Utf8Tabs (Tryd.laysValid_ren.g 3) (Tryd.laysValid_ren.g 4) W :=
    utf8Tabs_of_readsT (U8Types.of196 Tryd.laysValid) ⟨by kernel_rfl, by kernel_rfl, by kernel_rfl, by kernel_rfl, by kernel_rfl, by kernel_rfl, by kernel_rfl⟩ (Pinned.utf8First_eq ▸ Lib.laidMet.reads hL (.tail _ (.tail _ (.head _)))) (acc_eq ▸ Lib.laidMet.reads hL (.head _))
  have hN : Pas.NamAt W := Pas.namAt_of (Lib.laidMet.reads hL (.tail _ (.head _)))
  refine (Pas.lawPasses a0 len0 cap0 a1 len1 cap1 W ci0 ci1 cl0 cl1 hT hN).mono fun e W' ⟨he, bel⟩ => ?_
  subst he
  exact ⟨_, rfl, _, _, _, [], _, q, hW', trodAll_mk1 (shut_bool Tryd.underlying4 _), (trodAll_cons_mk (Below.trod laidOut (by kernel_rfl) (of_decide_eq_true (by kernel_rfl)) h0 bel lt0) (trodAll_cons_mk (Below.trod laidOut (by kernel_rfl) (of_decide_eq_true (by kernel_rfl)) h1 bel lt1) trodAll_mk0)), Below.trodVars laidOut bel rowed hV, bel.frame _, fun h => by cases h⟩

theorem said : Rows.FnPassesSaid :=
  OpenClaim.holds_of_wide 3 Tryd.f3 rfl rfl rfl rfl rfl rfl rfl ⟨rfl, rfl, rfl, rfl, rfl⟩ rfl rfl rfl rfl rfl (by kernel_rfl) Tryd.func3 (by kernel_rfl)
    (of_decide_eq_true (by kernel_rfl)) (by unfold Func.isWrapper; first | (rw [if_pos (by decide +kernel)]; kernel_rfl) | (rw [if_neg (by decide +kernel)]; exact ⟨rfl, rfl⟩))
    (fun os started H enc _ => lifted os started H enc)

/-- No parameter wants a stand-in; the program's own looks are off. -/
theorem plain (f : FuncId) (fn : Func) (hf : Tryd.pinned.checked.prog.funcNamed "loop.example/g00044/laws.FnPasses" = some f) (hfn : Tryd.pinned.checked.prog.funcs[f]? = some fn) :
    false = Tryd.pinned.checked.prog.looks [] ∧ ∀ (j : Nat) t, fn.params[j]? = some t → Tryd.pinned.checked.prog.wantsStandIn t = false := by
  obtain rfl : f = 3 := Option.some.inj ((show Tryd.prog.funcNamed "loop.example/g00044/laws.FnPasses" = some 3 by kernel_rfl).symm.trans hf) |>.symm
  obtain rfl : fn = Tryd.f3 := (Option.some.inj (Tryd.func3.symm.trans hfn)).symm
  refine ⟨by kernel_rfl, fun j t ht => ?_⟩
  rw [Tryd.params3] at ht
  obtain rfl : t = 22 := by simpa using Array.mem_of_getElem? ht
  exact (show Tryd.prog.wantsStandIn 22 = false by kernel_rfl)

end Go.Proofs.YtklakcnapdhcnaaDoor.fnPasses
namespace Go.Proofs.YtklakcnapdhcnaaDoor
theorem fnPasses_card : Rows.FnPassesCardSaid :=
  Claim7.holds_tied_plain_at .later [] _ _ _ _ fnPasses.said (fun _ h => by cases h) (by kernel_rfl) (fun _ h => by cases h) fnPasses_row_tie rfl ⟨rfl, rfl⟩ (by kernel_rfl) rfl fnPasses.plain (by kernel_rfl)
#print axioms fnPasses_card
end Go.Proofs.YtklakcnapdhcnaaDoor
