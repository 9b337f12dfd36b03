/- A rule's line, as the program writes it. -/
import Derived.Test.YtklakcnapdhcnaaDoorShwI
import Derived.Test.YtklakcnapdhcnaaDoorShelfR
import Derived.Lib.AppendStr
namespace Go.Proofs.YtklakcnapdhcnaaDoor.Pas
open Go.RowKit
set_option linter.unusedVariables false
theorem extraR : Builder.Extra Tryd.prog Tryd.laysRepeat_ren where
  sizeBuilder := by kernel_rfl
  liesBuilder := by kernel_rfl
  t5 := Tryd.laysRepeat.t5
  a5 := Tryd.laysRepeat.a5
  z5 := Tryd.laysRepeat.z5
  v5 := Tryd.laysRepeat.v5
  infoByte := by kernel_rfl
  cellsByte := by kernel_rfl
  sizeByte := by kernel_rfl
  neB5 := by decide
theorem rep_is (c : Nat) : Lib.repeatL [124] c = List.replicate c 124 := by
  have := Lib.repeatL_replicate 124 1 c
  rw [Nat.mul_one] at this
  exact this
theorem repeat_any (c : Nat) (w : World) (hc : c ≤ 20) : Calls Tryd.prog 32 #[.string ⟨#[124]⟩, .int .i64 (c : Int)] w fun e w' => ∃ s : ByteArray, e = .returned (.string s) ∧ Lib.strCells s = (List.replicate c (124 : Int)).map (Value.int .u8) ∧ s.size = c ∧ Below w.heap.size w w' := by
  refine (Any.strings_Repeat Tryd.laysRepeat extraR ⟨#[124]⟩ c w (by omega) (by show 1 * c ≤ _; omega)).mono ?_
  rintro e w' ⟨rfl, hb⟩
  refine ⟨_, rfl, ?_, ?_, hb⟩
  · have e : (⟨#[124]⟩ : ByteArray).data.toList = [124] := rfl
    rw [e, rep_is]
    unfold Lib.strCells
    simp
  · have e : (⟨#[124]⟩ : ByteArray).data.toList = [124] := rfl
    rw [e, rep_is]
    show (List.replicate c (124 : UInt8)).toArray.size = c
    simp
theorem bars_no {g : Int} (h : ¬ 0 < g) : bars g = [] := if_neg h
theorem bars_yes {g : Int} (h : 0 < g) : bars g = [32] ++ List.replicate g.toNat 124 := if_pos h
set_option maxRecDepth 100000 in
set_option maxHeartbeats 16000000 in
theorem line_any (lo : Nat) (v : Value) (M0 : List Int) (r : Ru) (w : World) (hlo : lo ≤ w.heap.size) (hO : By lo w v M0) (hM : M0.length ≤ 100000) (hr : r.1.size ≤ 80 ∧ r.2.1.size ≤ 80 ∧ r.2.2.1.size ≤ 80 ∧ r.2.2.2.1.size ≤ 80) (hg : r.2.2.2.2 ≤ 20) :
    Calls Tryd.prog 14 #[rv r, v] w fun e w' => ∃ v', e = .returned v' ∧ By lo w' v' (M0 ++ line r) ∧ Kb lo w w' := by
  obtain ⟨i0, hi, hz0, hz1, hz2⟩ := info_parts infoB
  obtain ⟨ta, tb, tc, td, tg⟩ := r
  obtain ⟨r1, r2, r3, r4⟩ := hr
  unfold rv
  simp only at r1 r2 r3 r4 hg ⊢
  have CA := hide (fun V N W h1 h2 h3 => art_any lo V N ta W h1 h2 h3 (by omega))
  have CB := hide (fun V N W h1 h2 h3 => art_any lo V N tb W h1 h2 h3 (by omega))
  have CC := hide (fun V N W h1 h2 h3 => art_any lo V N tc W h1 h2 h3 (by omega))
  have CD := hide (fun V N W h1 h2 h3 => art_any lo V N td W h1 h2 h3 (by omega))
  have s1 : (shw ta).length ≤ 160 := by have := shk_len ta ta.size; unfold shw; omega
  have s2 : (shw tb).length ≤ 160 := by have := shk_len tb tb.size; unfold shw; omega
  have s3 : (shw tc).length ≤ 160 := by have := shk_len tc tc.size; unfold shw; omega
  have s4 : (shw td).length ≤ 160 := by have := shk_len td td.size; unfold shw; omega
  have HLn : Hid (line (ta, tb, tc, td, tg) = shw ta ++ [91] ++ shw tb ++ [93] ++ shw tc ++ [32, 62, 32] ++ shw td ++ bars tg ++ [10]) := hide rfl
  have BX1 := hide (heap_new w (.cells #[.string ta, .string tb, .string tc, .string td, .int .i64 tg] 40))
  have K1 := hide (Kb.of (al1 w (.cells #[.string ta, .string tb, .string tc, .string td, .int .i64 tg] 40)) hlo)
  have O1 := hide (By.below hO (al1 w (.cells #[.string ta, .string tb, .string tc, .string td, .int .i64 tg] 40)))
  have hs1 := (unhide K1).bel.size
  obtain ⟨b0, b1, b2, b3, b4⟩ := five_cells (unhide BX1)
  obtain ⟨M1, hM1⟩ : ∃ M1, M1 = M0 := ⟨_, rfl⟩
  rw [← hM1] at O1
  have hl1 : M1.length ≤ 100000 := by rw [hM1]; exact hM
  have HM1 := hide hM1
  generalize shw ta = Sa at *
  generalize shw tb = Sb at *
  generalize shw tc = Sc at *
  generalize shw td = Sd at *
  clear hO hM1 hM r1 r2 r3 r4
  go_enter Tryd.func14, Tryd.ntmps14
  go_wp2_with fail
  generalize w.alloc (.cells #[.string ta, .string tb, .string tc, .string td, .int .i64 tg] 40) = x1 at *
  refine ((unhide CA) _ _ _ (by omega) (unhide O1) (by omega)).mono ?_
  rintro e x2 ⟨v2, rfl, ho, hk⟩
  have st := hk
  have O2 := hide ho
  have K2 := hide ((unhide K1).trans st)
  have hs2 := (unhide K2).bel.size
  have BX2 := hide (st.typ _ _ _ _ (unhide BX1) (by decide))
  obtain ⟨b0, b1, b2, b3, b4⟩ := five_cells (unhide BX2)
  obtain ⟨M2, hM2⟩ : ∃ N, N = M1 ++ Sa := ⟨_, rfl⟩
  rw [← hM2] at O2
  have hl2 : M2.length ≤ 100160 := by rw [hM2, List.length_append]; (try simp); omega
  have HM2 := hide hM2
  clear hM2 st
  clear ho hk
  go_wp2_with (at_builtin; refine wpList_appG _ rfl _ _ 22 rfl lo 5 i0 (.int .u8 0) 1 1 Tryd.underlying22 hi hz0 hz1 hz2 rfl (by decide) _ _ _ rfl (By.alloc (unhide O2) _) ⟨x2.heap.size, 0, none⟩ 1 1 [.int .u8 91] rfl rfl (one_new _ _) (one_oneB _) ?c3 ?c4 ?c5 ?_)
  case c3 => unfold maxLen; omega
  case c4 => omega
  case c5 => simp; omega
  intro v3 x3 hown hgrow _
  have st := (Kb.refl lo x2).app (by omega) (unhide O2) hgrow
  have O3 := hide (By.snoc (N := [91]) hown rfl)
  have K3 := hide ((unhide K2).trans st)
  have hs3 := (unhide K3).bel.size
  have BX3 := hide (st.typ _ _ _ _ (unhide BX2) (by decide))
  obtain ⟨b0, b1, b2, b3, b4⟩ := five_cells (unhide BX3)
  obtain ⟨M3, hM3⟩ : ∃ N, N = M2 ++ [91] := ⟨_, rfl⟩
  rw [← hM3] at O3
  have hl3 : M3.length ≤ 100161 := by rw [hM3, List.length_append]; (try simp); omega
  have HM3 := hide hM3
  clear hM3 st
  clear hown hgrow
  go_wp2_with fail
  refine ((unhide CB) _ _ _ (by omega) (unhide O3) (by omega)).mono ?_
  rintro e x4 ⟨v4, rfl, ho, hk⟩
  have st := hk
  have O4 := hide ho
  have K4 := hide ((unhide K3).trans st)
  have hs4 := (unhide K4).bel.size
  have BX4 := hide (st.typ _ _ _ _ (unhide BX3) (by decide))
  obtain ⟨b0, b1, b2, b3, b4⟩ := five_cells (unhide BX4)
  obtain ⟨M4, hM4⟩ : ∃ N, N = M3 ++ Sb := ⟨_, rfl⟩
  rw [← hM4] at O4
  have hl4 : M4.length ≤ 100321 := by rw [hM4, List.length_append]; (try simp); omega
  have HM4 := hide hM4
  clear hM4 st
  clear ho hk
  go_wp2_with (at_builtin; refine wpList_appG _ rfl _ _ 22 rfl lo 5 i0 (.int .u8 0) 1 1 Tryd.underlying22 hi hz0 hz1 hz2 rfl (by decide) _ _ _ rfl (By.alloc (unhide O4) _) ⟨x4.heap.size, 0, none⟩ 1 1 [.int .u8 93] rfl rfl (one_new _ _) (one_oneB _) ?c3 ?c4 ?c5 ?_)
  case c3 => unfold maxLen; omega
  case c4 => omega
  case c5 => simp; omega
  intro v5 x5 hown hgrow _
  have st := (Kb.refl lo x4).app (by omega) (unhide O4) hgrow
  have O5 := hide (By.snoc (N := [93]) hown rfl)
  have K5 := hide ((unhide K4).trans st)
  have hs5 := (unhide K5).bel.size
  have BX5 := hide (st.typ _ _ _ _ (unhide BX4) (by decide))
  obtain ⟨b0, b1, b2, b3, b4⟩ := five_cells (unhide BX5)
  obtain ⟨M5, hM5⟩ : ∃ N, N = M4 ++ [93] := ⟨_, rfl⟩
  rw [← hM5] at O5
  have hl5 : M5.length ≤ 100322 := by rw [hM5, List.length_append]; (try simp); omega
  have HM5 := hide hM5
  clear hM5 st
  clear hown hgrow
  go_wp2_with fail
  refine ((unhide CC) _ _ _ (by omega) (unhide O5) (by omega)).mono ?_
  rintro e x6 ⟨v6, rfl, ho, hk⟩
  have st := hk
  have O6 := hide ho
  have K6 := hide ((unhide K5).trans st)
  have hs6 := (unhide K6).bel.size
  have BX6 := hide (st.typ _ _ _ _ (unhide BX5) (by decide))
  obtain ⟨b0, b1, b2, b3, b4⟩ := five_cells (unhide BX6)
  obtain ⟨M6, hM6⟩ : ∃ N, N = M5 ++ Sc := ⟨_, rfl⟩
  rw [← hM6] at O6
  have hl6 : M6.length ≤ 100482 := by rw [hM6, List.length_append]; (try simp); omega
  have HM6 := hide hM6
  clear hM6 st
  clear ho hk
  go_wp2_with (at_builtin; refine Lib.wpList_append_own_string _ rfl _ _ 22 9 rfl lo 5 i0 Tryd.underlying22 Tryd.underlying9 hi hz0 hz1 hz2 _ _ _ rfl (unhide O6) ⟨#[32, 62, 32]⟩ rfl ?c3 ?c4 ?c5 ?_)
  case c3 => show _ + 3 ≤ _; unfold maxLen; omega
  case c4 => show _ + 3 ≤ _; omega
  case c5 => omega
  intro v7 x7 hown hgrow _
  have st := Kb.row hgrow (unhide O6) (by omega)
  have O7 := hide (By.snoc (N := [32, 62, 32]) (n := 3) hown rfl)
  have K7 := hide ((unhide K6).trans st)
  have hs7 := (unhide K7).bel.size
  have BX7 := hide (st.typ _ _ _ _ (unhide BX6) (by decide))
  obtain ⟨b0, b1, b2, b3, b4⟩ := five_cells (unhide BX7)
  obtain ⟨M7, hM7⟩ : ∃ N, N = M6 ++ [32, 62, 32] := ⟨_, rfl⟩
  rw [← hM7] at O7
  have hl7 : M7.length ≤ 100485 := by rw [hM7, List.length_append]; (try simp); omega
  have HM7 := hide hM7
  clear hM7 st
  clear hown hgrow
  go_wp2_with fail
  refine ((unhide CD) _ _ _ (by omega) (unhide O7) (by omega)).mono ?_
  rintro e x8 ⟨v8, rfl, ho, hk⟩
  have st := hk
  have O8 := hide ho
  have K8 := hide ((unhide K7).trans st)
  have hs8 := (unhide K8).bel.size
  have BX8 := hide (st.typ _ _ _ _ (unhide BX7) (by decide))
  obtain ⟨b0, b1, b2, b3, b4⟩ := five_cells (unhide BX8)
  obtain ⟨M8, hM8⟩ : ∃ N, N = M7 ++ Sd := ⟨_, rfl⟩
  rw [← hM8] at O8
  have hl8 : M8.length ≤ 100645 := by rw [hM8, List.length_append]; (try simp); omega
  have HM8 := hide hM8
  clear hM8 st
  clear ho hk
  by_cases hg0 : 0 < tg
  · obtain ⟨c, rfl⟩ : ∃ c : Nat, tg = (c : Int) := ⟨tg.toNat, by omega⟩
    have CR := hide (fun W => repeat_any c W (by omega))
    go_wp2_with (at_builtin; refine wpList_appG _ rfl _ _ 22 rfl lo 5 i0 (.int .u8 0) 1 1 Tryd.underlying22 hi hz0 hz1 hz2 rfl (by decide) _ _ _ rfl (By.alloc (unhide O8) _) ⟨x8.heap.size, 0, none⟩ 1 1 [.int .u8 32] rfl rfl (one_new _ _) (one_oneB _) ?c3 ?c4 ?c5 ?_)
    case c3 => unfold maxLen; omega
    case c4 => omega
    case c5 => simp; omega
    intro v9 x9 hown hgrow _
    have st := (Kb.refl lo x8).app (by omega) (unhide O8) hgrow
    have O9 := hide (By.snoc (N := [32]) hown rfl)
    have K9 := hide ((unhide K8).trans st)
    have hs9 := (unhide K9).bel.size
    have BX9 := hide (st.typ _ _ _ _ (unhide BX8) (by decide))
    obtain ⟨b0, b1, b2, b3, b4⟩ := five_cells (unhide BX9)
    obtain ⟨M9, hM9⟩ : ∃ N, N = M8 ++ [32] := ⟨_, rfl⟩
    rw [← hM9] at O9
    have hl9 : M9.length ≤ 100646 := by rw [hM9, List.length_append]; (try simp); omega
    have HM9 := hide hM9
    clear hM9 st
    clear hown hgrow
    go_wp2_with fail
    refine ((unhide CR) _).mono ?_
    rintro e y ⟨rs, rfl, hrs, hrz, hby⟩
    have O9y := hide (By.below (unhide O9) hby)
    have Ky := hide (Kb.of (lo := lo) hby (by omega))
    have hsy := hby.size
    have BXy := hide ((unhide Ky).typ _ _ _ _ (unhide BX9) (by decide))
    clear hby
    have HRS := hide hrs
    have hrz2 : rs.size ≤ 20 := by omega
    have HRZ := hide hrz
    clear hrs hrz
    go_wp2_with (at_builtin; refine Lib.wpList_append_own_string _ rfl _ _ 22 9 rfl lo 5 i0 Tryd.underlying22 Tryd.underlying9 hi hz0 hz1 hz2 _ _ _ rfl (unhide O9y) rs rfl ?c3 ?c4 ?c5 ?_)
    case c3 => unfold maxLen; omega
    case c4 => omega
    case c5 => omega
    intro v10 x10 hown hgrow _
    rw [unhide HRS] at hown
    have st := (unhide Ky).trans (Kb.row hgrow (unhide O9y) (by omega))
    have O10 := hide (By.snoc (N := List.replicate c 124) hown (by simp [unhide HRZ]))
    have K10 := hide ((unhide K9).trans st)
    have hs10 := (unhide K10).bel.size
    have BX10 := hide (st.typ _ _ _ _ (unhide BX9) (by decide))
    obtain ⟨b0, b1, b2, b3, b4⟩ := five_cells (unhide BX10)
    obtain ⟨M10, hM10⟩ : ∃ N, N = M9 ++ List.replicate c (124 : Int) := ⟨_, rfl⟩
    rw [← hM10] at O10
    have hl10 : M10.length ≤ 100666 := by rw [hM10, List.length_append]; (try simp); omega
    have HM10 := hide hM10
    clear hM10 st
    clear hown hgrow
    go_wp2_with (at_builtin; refine wpList_appG _ rfl _ _ 22 rfl lo 5 i0 (.int .u8 0) 1 1 Tryd.underlying22 hi hz0 hz1 hz2 rfl (by decide) _ _ _ rfl (By.alloc (unhide O10) _) ⟨x10.heap.size, 0, none⟩ 1 1 [.int .u8 10] rfl rfl (one_new _ _) (one_oneB _) ?c3 ?c4 ?c5 ?_)
    case c3 => unfold maxLen; omega
    case c4 => omega
    case c5 => simp; omega
    intro v11 x11 hown hgrow _
    have st := (Kb.refl lo x10).app (by omega) (unhide O10) hgrow
    have O11 := hide (By.snoc (N := [10]) hown rfl)
    have K11 := hide ((unhide K10).trans st)
    have hs11 := (unhide K11).bel.size
    have BX11 := hide (st.typ _ _ _ _ (unhide BX10) (by decide))
    obtain ⟨b0, b1, b2, b3, b4⟩ := five_cells (unhide BX11)
    obtain ⟨M11, hM11⟩ : ∃ N, N = M10 ++ [10] := ⟨_, rfl⟩
    rw [← hM11] at O11
    have hl11 : M11.length ≤ 100667 := by rw [hM11, List.length_append]; (try simp); omega
    have HM11 := hide hM11
    clear hM11 st
    clear hown hgrow
    go_wp2
    go_ret
    refine ⟨_, rfl, ?_, unhide K11⟩
    have hf := unhide O11
    rw [unhide HM11, unhide HM10, unhide HM9, unhide HM8, unhide HM7, unhide HM6, unhide HM5, unhide HM4, unhide HM3, unhide HM2, unhide HM1] at hf
    rw [unhide HLn, bars_yes hg0, show ((c : Int)).toNat = c from rfl]
    simpa [List.append_assoc] using hf
  · go_wp2_with (at_builtin; refine wpList_appG _ rfl _ _ 22 rfl lo 5 i0 (.int .u8 0) 1 1 Tryd.underlying22 hi hz0 hz1 hz2 rfl (by decide) _ _ _ rfl (By.alloc (unhide O8) _) ⟨x8.heap.size, 0, none⟩ 1 1 [.int .u8 10] rfl rfl (one_new _ _) (one_oneB _) ?c3 ?c4 ?c5 ?_)
    case c3 => unfold maxLen; omega
    case c4 => omega
    case c5 => simp; omega
    intro v9 x9 hown hgrow _
    have st := (Kb.refl lo x8).app (by omega) (unhide O8) hgrow
    have O9 := hide (By.snoc (N := [10]) hown rfl)
    have K9 := hide ((unhide K8).trans st)
    have hs9 := (unhide K9).bel.size
    have BX9 := hide (st.typ _ _ _ _ (unhide BX8) (by decide))
    obtain ⟨b0, b1, b2, b3, b4⟩ := five_cells (unhide BX9)
    obtain ⟨M9, hM9⟩ : ∃ N, N = M8 ++ [10] := ⟨_, rfl⟩
    rw [← hM9] at O9
    have hl9 : M9.length ≤ 100646 := by rw [hM9, List.length_append]; (try simp); omega
    have HM9 := hide hM9
    clear hM9 st
    clear hown hgrow
    go_wp2
    go_ret
    refine ⟨_, rfl, ?_, unhide K9⟩
    have hf := unhide O9
    rw [unhide HM9, unhide HM8, unhide HM7, unhide HM6, unhide HM5, unhide HM4, unhide HM3, unhide HM2, unhide HM1] at hf
    rw [unhide HLn, bars_no (by omega)]
    simpa [List.append_assoc] using hf
end Go.Proofs.YtklakcnapdhcnaaDoor.Pas
