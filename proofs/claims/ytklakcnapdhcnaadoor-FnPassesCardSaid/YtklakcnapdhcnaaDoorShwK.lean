/- ShowPasses of the program. -/
import Derived.Test.YtklakcnapdhcnaaDoorShwJ
import Derived.Test.YtklakcnapdhcnaaDoorShwQ
import Derived.Test.YtklakcnapdhcnaaDoorPasK
namespace Go.Proofs.YtklakcnapdhcnaaDoor.Pas
open Go.RowKit
set_option linter.unusedVariables false
/-- The names of the forms, as the program's table has them. -/
def nmS (m : Nat) : ByteArray := if m = 0 then ⟨#[110, 111, 110, 101]⟩ else if m = 1 then ⟨#[68]⟩ else if m = 2 then ⟨#[67]⟩ else if m = 3 then ⟨#[75, 68]⟩ else ⟨#[75, 67]⟩
def NamAt (w : World) : Prop := 0 < w.heap.size ∧ ∀ m : Nat, m < 5 → w.cell? ⟨0, m, none⟩ = some (.string (nmS m))
theorem NamAt.below {w w' : World} (h : NamAt w) (hb : Below w.heap.size w w') : NamAt w' := ⟨Nat.lt_of_lt_of_le h.1 hb.size, fun m hm => (hb.cell (p := ⟨0, m, none⟩) h.1).trans (h.2 m hm)⟩
theorem nmS_is (m : Nat) (h : m < 5) : Lib.strCells (nmS m) = (nam (m : Int)).map (Value.int .u8) ∧ (nmS m).size = (nam (m : Int)).length := by
  have : m = 0 ∨ m = 1 ∨ m = 2 ∨ m = 3 ∨ m = 4 := by omega
  rcases this with rfl | rfl | rfl | rfl | rfl <;> exact ⟨rfl, rfl⟩
theorem nam_str (m : Nat) (h : m < 5) : nmS m = strOfNums (nam (m : Int)) := by
  have : m = 0 ∨ m = 1 ∨ m = 2 ∨ m = 3 ∨ m = 4 := by omega
  rcases this with rfl | rfl | rfl | rfl | rfl <;> rfl
set_option maxRecDepth 100000 in
set_option maxHeartbeats 16000000 in
theorem implS (v : Value) (P : List Pa) (B : Nat) (w : World) (hv : PaAt B w v P) (hs : Small P) (hT : Tabs w) (hN : NamAt w) :
    Calls Tryd.prog 5 #[v] w fun e w' => e = .returned (.string (strOfNums (shP P))) ∧ Below w.heap.size w w' := by
  obtain ⟨i0, hi, hz0, hz1, hz2⟩ := info_parts infoB
  have PF := hide (implPF v P B w hv hs hT)
  obtain ⟨a, cap, rfl, hv⟩ := hv
  have hl := hs.1
  have HV := hide hv
  have HN := hide hN
  clear hv hT hN hs
  cases hr : right P with
  | false =>
    have hf : flt P = 1 := by unfold flt; rw [hr]; rfl
    have HX : Hid (shP P = []) := hide (by unfold shP; rw [hr]; rfl)
    rw [hf] at PF
    clear hf hr
    generalize shP P = X at *
    go_enter Tryd.func5, Tryd.ntmps5
    go_wp2_with (go_at_call 11; refine (unhide PF).mono ?_; rintro e w1 ⟨rfl, hb1⟩; have B1 := hide hb1; clear hb1)
    go_ret
    exact ⟨by rw [unhide HX]; rfl, unhide B1⟩
  | true =>
    have hf : flt P = 0 := by unfold flt; rw [hr]; rfl
    obtain ⟨h10, hq⟩ := right_parts hr
    have HX : Hid (shP P = txt P P.length) := hide (by unfold shP; rw [hr]; rfl)
    rw [hf] at PF
    have HQ := hide hq
    clear hf hr hq
    generalize shP P = X at *
    go_enter Tryd.func5, Tryd.ntmps5
    go_wp2_with fail
    refine (unhide PF).mono ?_
    rintro e w1 ⟨rfl, hb1⟩
    have B1 := hide hb1
    have hw1 := hb1.size
    clear hb1 PF
    go_wp2
    go_loopw [3, 13] (fun tv iv wr => ∃ k : Nat, k ≤ P.length ∧ iv = .int .i64 k ∧ Hid (By w.heap.size wr tv (txt P k)) ∧ Hid (Below w.heap.size w wr)) (fun _ iv _ => P.length - (intOf iv).toNat)
    case atStart => exact ⟨0, Nat.zero_le _, rfl, hide (By.nil _ _), B1⟩
    case round =>
      obtain ⟨k, hk, rfl, HO, HB⟩ := hrel
      by_cases hlt : k < P.length
      · have hlt' : (k : Int) < (P.length : Int) := by omega
        rcases unhide HV with h' | ⟨b, off, rfl, _, hbs, hc⟩
        · rw [h'] at hlt; simp at hlt
        obtain ⟨u, c1, hu, c2⟩ := hc k hlt
        have d1 := ((unhide HB).cell (p := ⟨b, off + k * 2, none⟩) hbs).trans c1
        have d2 := ((unhide HB).cell (p := ⟨b, off + k * 2 + 1, none⟩) hbs).trans c2
        have hBs := (unhide HB).size
        obtain ⟨⟨hg0, hg4⟩, hcn, hok⟩ := okP_parts (okq_at (unhide HQ) hlt)
        have hcn2 : cnt P (k + 1) = cnt P k + (gp P k).1.length := rfl
        have htl := txt_len (unhide HQ) k hk
        have hLl : (gp P k).1.length ≤ 100 := by omega
        have htot : (txt P k).length + 350 * (gp P k).1.length ≤ 40000 := by omega
        have HOK := hide hok
        have HTX : Hid (txt P (k + 1) = txt P k ++ ([58] ++ nam (gp P k).2 ++ [10] ++ lns (gp P k).1 (gp P k).1.length)) := hide rfl
        have HU := hide hu
        obtain ⟨ua, uc, hue⟩ := hu.form
        clear c1 c2 hu hc hok hcn hcn2 htl
        generalize (gp P k).1 = L at *
        obtain ⟨m, hm⟩ : ∃ m : Nat, (gp P k).2 = (m : Int) := ⟨(gp P k).2.toNat, by omega⟩
        rw [hm] at d2 hg0 hg4 HTX
        have hm5 : m < 5 := by omega
        have hm5' : (m : Int) < 5 := by omega
        clear hm
        generalize txt P k = T at *
        subst hue
        obtain ⟨hns, hnz⟩ := nmS_is m hm5
        have hnl := nam_len (m : Int)
        have HNS := hide hns
        have HNZ := hide hnz
        have hnz4 : (nmS m).size ≤ 4 := by omega
        clear hns hnz
        have BX1 := hide (heap_new wr (.cells #[.slice ua L.length uc, .int .i64 (m : Int)] 37))
        have K1 := hide (Kb.of (lo := w.heap.size) (al1 wr (.cells #[.slice ua L.length uc, .int .i64 (m : Int)] 37)) hBs)
        have O1 := hide (By.below (unhide HO) (al1 wr (.cells #[.slice ua L.length uc, .int .i64 (m : Int)] 37)))
        have hsz1 : (wr.alloc (.cells #[.slice ua L.length uc, .int .i64 (m : Int)] 37)).heap.size = wr.heap.size + 1 := by simp
        go_wp2_with (at_builtin; refine wpList_appG _ rfl _ _ 22 rfl w.heap.size 5 i0 (.int .u8 0) 1 1 Tryd.underlying22 hi hz0 hz1 hz2 rfl (by decide) _ _ _ rfl (By.alloc (unhide O1) _) ⟨wr.heap.size + 1, 0, none⟩ 1 1 [.int .u8 58] rfl rfl (by have := one_new (wr.alloc (.cells #[.slice ua L.length uc, .int .i64 (m : Int)] 37)) 58; simpa using this) (one_oneB _) ?c3 ?c4 ?c5 ?_)
        case c3 => unfold maxLen; omega
        case c4 => omega
        case c5 => simp; omega
        intro v2 x2 hown hgrow _
        have O2 := hide (By.snoc (N := [58]) hown rfl)
        have K2 := hide ((Kb.refl w.heap.size (wr.alloc (.cells #[.slice ua L.length uc, .int .i64 (m : Int)] 37))).app (by omega) (unhide O1) hgrow)
        have BX2 := hide ((unhide K2).typ _ _ _ _ (unhide BX1) (by decide))
        have hs2 := (unhide K2).bel.size
        have KW2 := hide ((unhide K1).trans (unhide K2))
        obtain ⟨M2, hM2⟩ : ∃ N, N = T ++ [58] := ⟨_, rfl⟩
        rw [← hM2] at O2
        have hl2 : M2.length ≤ T.length + 1 := by rw [hM2]; simp
        have HM2 := hide hM2
        clear hM2
        obtain ⟨y0, y1, _, _⟩ := two_cells (unhide BX2)
        have n2 := ((unhide HN).below ((unhide HB).trans (unhide KW2).bel)).2 m hm5
        clear hown hgrow O1 BX1 d1 d2
        go_wp2_with (at_builtin; refine Lib.wpList_append_own_string _ rfl _ _ 22 9 rfl w.heap.size 5 i0 Tryd.underlying22 Tryd.underlying9 hi hz0 hz1 hz2 _ _ _ rfl (unhide O2) (nmS m) rfl ?c3 ?c4 ?c5 ?_)
        case c3 => unfold maxLen; omega
        case c4 => omega
        case c5 => omega
        intro v3 x3 hown hgrow _
        rw [unhide HNS] at hown
        have O3 := hide (By.snoc (N := nam (m : Int)) hown (unhide HNZ).symm)
        have st := Kb.row hgrow (unhide O2) (by omega)
        have KW3 := hide ((unhide KW2).trans st)
        have BX3 := hide (st.typ _ _ _ _ (unhide BX2) (by decide))
        have hs3 := st.bel.size
        obtain ⟨M3, hM3⟩ : ∃ N, N = M2 ++ nam (m : Int) := ⟨_, rfl⟩
        rw [← hM3] at O3
        have hl3 : M3.length ≤ T.length + 5 := by rw [hM3, List.length_append]; omega
        have HM3 := hide hM3
        clear hM3 hown hgrow st O2 K2 BX2 KW2 y0 y1 n2
        go_wp2_with (at_builtin; refine wpList_appG _ rfl _ _ 22 rfl w.heap.size 5 i0 (.int .u8 0) 1 1 Tryd.underlying22 hi hz0 hz1 hz2 rfl (by decide) _ _ _ rfl (By.alloc (unhide O3) _) ⟨x3.heap.size, 0, none⟩ 1 1 [.int .u8 10] rfl rfl (one_new _ _) (one_oneB _) ?c3 ?c4 ?c5 ?_)
        case c3 => unfold maxLen; omega
        case c4 => omega
        case c5 => simp; omega
        intro v4 x4 hown hgrow _
        have O4 := hide (By.snoc (N := [10]) hown rfl)
        have st := (Kb.refl w.heap.size x3).app (by omega) (unhide O3) hgrow
        have KW4 := hide ((unhide KW3).trans st)
        have BX4 := hide (st.typ _ _ _ _ (unhide BX3) (by decide))
        have hs4 := st.bel.size
        obtain ⟨M4, hM4⟩ : ∃ N, N = M3 ++ [10] := ⟨_, rfl⟩
        rw [← hM4] at O4
        have hl4 : M4.length ≤ T.length + 6 := by rw [hM4, List.length_append]; simp; omega
        have HM4 := hide hM4
        have BW4 := hide ((unhide HB).trans (unhide KW4).bel)
        obtain ⟨y0, y1, _, _⟩ := two_cells (unhide BX4)
        clear hM4 hown hgrow st O3 BX3 KW3
        go_wp2
        go_loopw [3, 32] (fun tv jv wx => ∃ j : Nat, j ≤ L.length ∧ jv = .int .i64 j ∧ Hid (By w.heap.size wx tv (M4 ++ lns L j)) ∧ Hid (Below w.heap.size w wx)) (fun _ jv _ => L.length - (intOf jv).toNat)
        case atStart => exact ⟨0, Nat.zero_le _, rfl, hide (by simpa [lns] using unhide O4), BW4⟩
        case round =>
          obtain ⟨j, hj, rfl, HO5, HB5⟩ := hrel
          clear O4 BW4 y0 y1 BX4 KW4
          have hBs5 := (unhide HB5).size
          by_cases hjl : j < L.length
          · have hjl' : (j : Int) < (L.length : Int) := by omega
            have h0j : (0 : Int) ≤ (j : Int) := by omega
            obtain ⟨_, _, he, hu⟩ := unhide HU
            injection he with he1 he2 he3
            clear he2 he3
            rcases hu with h' | ⟨b2, o2, hua, _, hb2s, hc2⟩
            · rw [h'] at hjl; simp at hjl
            rw [hua] at he1
            subst he1
            obtain ⟨z0, z1, z2, z3, z4⟩ := (hc2 j hjl).block ((unhide HB5).block b2 hb2s)
            obtain ⟨hp1, hp2, hp3⟩ := okR_parts (okk_at (unhide HOK) hjl)
            have hln := lns_len (unhide HOK) j (by omega)
            have HLN : Hid (M4 ++ lns L (j + 1) = (M4 ++ lns L j) ++ line (gr L j)) := hide (by rw [show lns L (j + 1) = lns L j ++ line (gr L j) from rfl, List.append_assoc])
            have hYl : (M4 ++ lns L j).length ≤ 100000 := by rw [List.length_append]; omega
            have CL := hide (fun V N W h1 h2 h3 => line_any w.heap.size V N (gr L j) W h1 h2 h3 hp1 hp2.2)
            clear hc2 hp1 hp2 hp3 hln
            generalize M4 ++ lns L j = Y at *
            generalize gr L j = r0 at *
            obtain ⟨ta, tb, tc, td, tg⟩ := r0
            unfold rv at CL
            simp only at z0 z1 z2 z3 z4 CL
            have O6 := hide (By.below (unhide HO5) (al1 wr (.cells #[.string ta, .string tb, .string tc, .string td, .int .i64 tg] 40)))
            have B6 := hide ((unhide HB5).alloc hBs5 (.cells #[.string ta, .string tb, .string tc, .string td, .int .i64 tg] 40))
            go_wp2_with (go_at_call 14; refine ((unhide CL) _ _ _ (unhide B6).size (unhide O6) hYl).mono ?_; rintro e x7 ⟨v7, rfl, ho7, hk7⟩; have O7 := hide ho7; have B7 := hide ((unhide B6).trans hk7.bel); clear ho7 hk7)
            rw [← unhide HLN] at O7
            go_roundw
            case rel => exact ⟨j + 1, by omega, by go_num, O7, B7⟩
            case measure => simp [intOf]; omega
          · obtain rfl : j = L.length := by omega
            have hjl' : ¬ (L.length : Int) < (L.length : Int) := by omega
            have HF : Hid (txt P (k + 1) = M4 ++ lns L L.length) := hide (by rw [unhide HTX, unhide HM4, unhide HM3, unhide HM2]; simp [List.append_assoc])
            rw [← unhide HF] at HO5
            go_wp2
            go_roundw
            case rel => exact ⟨k + 1, by omega, by go_num, HO5, HB5⟩
            case measure => simp [intOf]; omega
      · obtain rfl : k = P.length := by omega
        have hcv := conv_owned wr w.heap.size _ _ _ (unhide HO)
        have HX2 := hide (unhide HX).symm
        clear HX
        go_wp2
        go_ret
        exact ⟨by rw [← unhide HX2]; rfl, unhide HB⟩
end Go.Proofs.YtklakcnapdhcnaaDoor.Pas
