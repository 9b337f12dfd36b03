/- QuickCheck of the program. -/
import Derived.Test.YtncfjpdbfojfoaaDoorQckS
import Derived.Test.YtncfjpdbfojfoaaDoorShelf
import Derived.Maps.RangeWalk
namespace Go.Proofs.YtncfjpdbfojfoaaDoor
open Go.RowKit Go.Shelf
/-- Whether a point by itself is in its own form, by the book of pairs. -/
def OwnAt (M : Nat) (f p : Int) (w : World) : Ending → World → Prop := fun e w' => e = .returned (.bool (ownB f p)) ∧ ∃ D', BookAt w' M D' ∧ Good D' ∧ w.grownBy w' (some M)
set_option maxRecDepth 100000 in
theorem ownI (M : Nat) (f p : Int) (w : World) (D : List (Int × Int × Int)) (hM : BookAt w M D) (hG : Good D) :
    Calls Tryd.prog 15 #[.map (some M), .int .i64 f, .int .i64 p] w (OwnAt M f p w) := by
  have hk : isK f = true ↔ f = 3 ∨ f = 4 := by simp [isK]
  have CP := hide (partsI f p (isK f) w hk)
  have CC := hide (fun W => isCI f W)
  have HO : Hid (ownB f p = (decide ((pairZ (isK f) p).1 = p) || (isC f && decide (pairP (pairZ (isK f) p).1 (pairZ (isK f) p).2 = p)))) := hide rfl
  obtain ⟨⟨a, b⟩, hq⟩ : ∃ q, pairZ (isK f) p = q := ⟨_, rfl⟩
  rw [hq] at CP HO
  clear hq hk
  have HM := hide hM
  have HGd := hide hG
  have hMl := hM.lt
  clear hM hG
  have CO := hide (fun (W : World) (h : BookAt W M D) => compose_any M a b W D h (unhide HGd))
  generalize hpv : pairP a b = z at *
  clear hpv
  simp only at HO
  by_cases h1 : a = p
  · subst h1
    have HR : Hid (ownB f a = true) := hide (by rw [unhide HO]; simp)
    clear HO CO
    go_enter Tryd.func15, Tryd.ntmps15
    go_wp2_with fail
    refine (unhide CP).mono ?_
    rintro e w1 ⟨rfl, hb1⟩
    have hpv : pairV (a, b) = .agg #[.int .i64 a, .int .i64 b] := rfl
    rw [hpv]
    have HB1 := hide hb1
    clear hb1 CP hpv
    go_wp2
    go_ret
    refine ⟨ret_bool (unhide HR).symm, D, (unhide HM).at ?_, unhide HGd, ?_⟩
    · exact (alloc_block _ _ (Nat.lt_of_lt_of_le hMl (unhide HB1).size)).trans ((unhide HB1).block M hMl)
    · exact (grown_of_below ((unhide HB1).trans ((one_below _ _).mono (unhide HB1).size))).but _
  · have t1 : (a == p) = false := by simpa using h1
    cases hc : isC f with
    | false =>
      have HR : Hid (ownB f p = false) := hide (by rw [unhide HO, hc, decide_eq_false h1]; simp)
      rw [hc] at CC
      clear HO CO h1
      go_enter Tryd.func15, Tryd.ntmps15
      go_wp2_with fail
      refine (unhide CP).mono ?_
      rintro e w1 ⟨rfl, hb1⟩
      have hpv : pairV (a, b) = .agg #[.int .i64 a, .int .i64 b] := rfl
      rw [hpv]
      have HB1 := hide hb1
      clear hb1 CP hpv
      go_wp2_with (go_at_call 16; refine ((unhide CC) _).mono ?_; rintro e w5 ⟨rfl, hw5⟩; subst hw5)
      go_ret
      refine ⟨ret_bool (unhide HR).symm, D, (unhide HM).at ?_, unhide HGd, ?_⟩
      · exact (alloc_block _ _ (Nat.lt_of_lt_of_le hMl (unhide HB1).size)).trans ((unhide HB1).block M hMl)
      · exact (grown_of_below ((unhide HB1).trans ((one_below _ _).mono (unhide HB1).size))).but _
    | true =>
      rw [hc] at CC
      have hz : ((z == p) = true ∧ ownB f p = true) ∨ ((z == p) = false ∧ ownB f p = false) := by
        rw [unhide HO, hc, decide_eq_false h1]
        by_cases h2 : z = p
        · exact .inl ⟨by simpa using h2, by simp [h2]⟩
        · exact .inr ⟨by simpa using h2, by simp [h2]⟩
      clear HO h1
      rcases hz with ⟨t2, hr⟩ | ⟨t2, hr⟩
      all_goals
        have HR := hide hr
        clear hr
        go_enter Tryd.func15, Tryd.ntmps15
        go_wp2_with fail
        refine (unhide CP).mono ?_
        rintro e w1 ⟨rfl, hb1⟩
        have hpv : pairV (a, b) = .agg #[.int .i64 a, .int .i64 b] := rfl
        rw [hpv]
        have HB1 := hide (hb1.trans ((one_below w1 (.cells #[.int .i64 a, .int .i64 b] 54)).mono hb1.size))
        have HK1 : Hid (BookAt (w1.alloc (.cells #[.int .i64 a, .int .i64 b] 54)) M D) := hide ((unhide HM).at ((alloc_block _ _ (Nat.lt_of_lt_of_le hMl hb1.size)).trans (hb1.block M hMl)))
        clear hb1 CP hpv
        go_wp2_with (first | (go_at_call 16; refine ((unhide CC) _).mono ?_; rintro e w5 ⟨rfl, hw5⟩; replace hw5 := hw5.symm; subst hw5) | (go_at_call 31; refine ((unhide CO) _ (unhide HK1)).mono ?_; rintro e w6 ⟨rfl, D', hb6, hg6, hgr⟩; have H6 := hide (And.intro hb6 (And.intro hg6 hgr)); clear hb6 hg6 hgr))
        go_ret
        obtain ⟨h6, h7, h8⟩ := unhide H6
        exact ⟨ret_bool (unhide HR).symm, D', h6, h7, ((grown_of_below (unhide HB1)).but _).trans h8⟩
/-- A row of numbers that lies where it lay. -/
theorem row_kept {w w' : World} {B n M : Nat} {v : Value} {xs : List Value} (h : w.ownsRow B 2 1 v n xs) (hg : w.grownBy w' (some M)) (hM : M < B) : w'.ownsRow B 2 1 v n xs := by
  refine World.ownsRow.kept h hg ?_
  cases hv : v.ownBlock with
  | none => exact .inl rfl
  | some k => exact .inr (fun e => by have := (h.lt k hv).1; simp at e; omega)
set_option maxHeartbeats 4000000 in
set_option maxRecDepth 100000 in
theorem quickI (f : Int) (s : ByteArray) (w : World) (hs : s.size ≤ 65536) (hf : isF f = true) (hT : Lib.Utf8Tabs (Tryd.laysValid_ren.g 3) (Tryd.laysValid_ren.g 4) w) :
    Calls Tryd.prog 5 #[.int .i64 f, .string s] w fun e w' => e = .returned (.int .i64 (qckOut f s)) ∧ Below w.heap.size w w' := by
  have CF := hide (fun W => isFormI f W)
  have cV : Calls Tryd.prog 12 #[.string s] w _ := Any.utf8_ValidString Tryd.laysValid s w (by omega) hT
  have hvb : Lib.validD s.data.toList = vB s := rfl
  rw [hvb] at cV
  have CV := hide cV
  rw [hf] at CF
  cases hv : vB s with
  | false =>
    have HR : Hid (qckOut f s = 2) := hide (qck_no hs hf (.inl hv))
    rw [hv] at CV
    clear hf cV hT hvb hv
    go_enter Tryd.func5, Tryd.ntmps5
    go_wp2_with (first | (go_at_call 11; refine ((unhide CF) _).mono ?_; rintro e w1 ⟨rfl, rfl⟩) | (go_at_call 12; refine (unhide CV).mono ?_; rintro e w2 ⟨rfl, hb⟩))
    go_ret
    exact ⟨ret_int (unhide HR).symm, hb⟩
  | true =>
    rw [hv] at CV
    have HNo := hide (fun (h : qS f (pts s) = none) => qck_no hs hf (.inr h))
    have HYes := hide (fun (a o : Int) (h3 : qS f (pts s) = some (a, o)) => qck_yes hs hf hv h3)
    have CP := hide (fun W => implPoints s W hs)
    have hpl := pts_le s
    have HPt := hide (pts_bd s)
    have CC := hide (fun W => isCI f W)
    have hmm := @run_makeMap Tryd.prog
    clear hf cV hT hvb hv
    generalize qckOut f s = R at *
    generalize pts s = X at *
    go_enter Tryd.func5, Tryd.ntmps5
    go_wp2_with (first | (go_at_call 11; refine ((unhide CF) _).mono ?_; rintro e w1 ⟨rfl, rfl⟩) | (go_at_call 12; refine (unhide CV).mono ?_; rintro e w2 ⟨rfl, hb⟩))
    refine ((unhide CP) _).mono ?_
    rintro e w3 ⟨v, rfl, ho3, hb3⟩
    have hsz : (w2.alloc (.map #[] 0)).heap.size = w2.heap.size + 1 := by simp
    have hb2s := hb.size
    obtain ⟨a, cap, rfl⟩ := form_ownI ho3
    have K0 : Hid (BookAt w3 w2.heap.size [] ∧ Good []) := hide ⟨⟨#[], 0, (hb3.block w2.heap.size (by simp)).trans (heap_alloc_new _ _), rfl⟩, good_nil⟩
    have O0 : Hid (w3.ownsRow (w2.heap.size + 1) 2 1 (.slice a X.length cap) X.length (X.map (Value.int .i64))) := hide (by rw [← hsz]; exact ho3)
    have B0 : Hid (Below w1.heap.size w1 w3) := hide ((hb.trans ((one_below _ _).mono hb2s)).trans (hb3.mono (by omega)))
    have Q0 : Hid (qS f (X.take 0) = some (0, 1)) := hide rfl
    clear ho3 hb3 hb CP CV hsz
    have HX : Hid (∀ i, i < X.length → X.take (i + 1) = X.take i ++ [nth X i]) := hide (fun i hi => (ord_take hi).1)
    have HP0 : Hid (∀ i, i < X.length → 0 ≤ nth X i) := hide (fun i hi => (unhide HPt (nth X i) (by simp [nth, List.getD, hi])).1)
    have HNo2 : Hid (∀ i, i < X.length → qS f (X.take (i + 1)) = none → R = 2) := hide (fun i hi h => by
      refine (unhide HNo) ?_
      have := qS_pre (X.drop (i + 1)) h
      rwa [List.take_append_drop] at this)
    have HYes2 : Hid (∀ za zo, qS f (X.take X.length) = some (za, zo) → R = zo) := hide (fun za zo h => by
      rw [List.take_length] at h
      exact (unhide HYes) za zo h)
    clear HNo HYes HPt
    generalize hn : X.length = n at *
    have hn2 : n ≤ 65536 := by omega
    clear hn hpl
    go_wp2
    go_loopw [6, 7, 26] (fun tv av iv wr => ∃ (i : Nat) (za zo : Int) (D : List (Int × Int × Int)), i ≤ n ∧ tv = .int .i64 zo ∧ av = .int .i64 za ∧ iv = .int .i64 i ∧ Hid (qS f (X.take i) = some (za, zo)) ∧ Hid (BookAt wr w2.heap.size D ∧ Good D) ∧ Hid (wr.ownsRow (w2.heap.size + 1) 2 1 (.slice a n cap) n (X.map (Value.int .i64))) ∧ Hid (Below w1.heap.size w1 wr)) (fun _ _ iv _ => n - (intOf iv).toNat)
    case atStart => exact ⟨0, 0, 1, [], Nat.zero_le _, rfl, rfl, rfl, Q0, K0, O0, B0⟩
    case round =>
      obtain ⟨i, za, zo, D, hin, rfl, rfl, rfl, HQ, HK, HO, HB⟩ := hrel
      clear K0 O0 B0 Q0
      by_cases hlt : i < n
      · have hlt' : (i : Int) < (n : Int) := by omega
        obtain ⟨g, c1, hv⟩ := own_pos (unhide HO) (by omega)
        injection hv with hv1 _ hv3
        subst hv1 hv3
        have c0 := cell_at (unhide HO) i hlt
        have hx := (unhide HX) i hlt
        have HN1 := hide ((unhide HNo2) i hlt)
        have hp0 := (unhide HP0) i hlt
        generalize nth X i = p at *
        have CM := hide (fun W => markI p W)
        have CO := hide (ownI w2.heap.size f p wr D (unhide HK).1 (unhide HK).2)
        have HB1 := hide (fun h => q_bad (p := p) (unhide HQ) (.inl h))
        have HB2 := hide (fun h => q_bad (p := p) (unhide HQ) (.inr h))
        have HG := hide (fun h ho => q_good (p := p) (unhide HQ) h ho)
        have HBe := hide (fun (W : World) (h : wr.grownBy W (some w2.heap.size)) => (unhide HB).grown h (unhide HB).size (fun k e => by cases e; exact hb2s))
        have HRow := hide (fun (W : World) (h : wr.grownBy W (some w2.heap.size)) => row_kept (unhide HO) h (by omega))
        rw [← hx] at HB1 HB2 HG
        clear hx hp0 HQ HK HO
        generalize clsZ p = c at *
        by_cases hbad : c ≠ 0 ∧ c < za
        · have HR := hide ((unhide HN1) ((unhide HB1) hbad))
          have t1 : (c == 0) = false := by simpa using hbad.1
          have t2 : (c != 0) = true := by simpa using hbad.1
          have t3 := hbad.2
          clear HB1 HB2 HG hbad HN1 CO HBe HRow
          go_wp2_with (go_at_call 14; refine ((unhide CM) _).mono ?_; rintro e w4 ⟨rfl, rfl⟩)
          go_ret
          exact ⟨ret_int (unhide HR).symm, unhide HB⟩
        · have HGo := hide ((unhide HG) hbad)
          have htest : (c != 0) = false ∨ ((c != 0) = true ∧ ¬ c < za) := by
            by_cases e : c = 0
            · exact .inl (by simpa using e)
            · exact .inr ⟨by simpa using e, fun h => hbad ⟨e, h⟩⟩
          clear HB1 HG hbad HB
          unfold OwnAt at CO
          cases hob : ownB f p with
          | false =>
            have HR := hide ((unhide HN1) ((unhide HB2) hob))
            rw [hob] at CO
            clear HN1 HB2 HGo hob HRow
            rcases htest with t1 | ⟨t1, t2⟩
            all_goals
              go_wp2_with (first | (go_at_call 14; refine ((unhide CM) _).mono ?_; rintro e w4 ⟨rfl, hw4⟩; replace hw4 := hw4.symm; subst hw4) | (go_at_call 15; refine (unhide CO).mono ?_; rintro e w5 ⟨rfl, D', hb5, hg5, hgr⟩; have B5 := hide ((unhide HBe) _ hgr); clear hb5 hg5 hgr))
              go_ret
              exact ⟨ret_int (unhide HR).symm, unhide B5⟩
          | true =>
            have HF := hide ((unhide HGo) hob)
            rw [hob] at CO
            clear HN1 HB2 HGo hob
            have CS := hide (fun W => isSecI p W)
            cases hc : isC f with
            | false =>
              have HF2 : Hid (qS f (X.take (i + 1)) = some (c, zo)) := hide (by rw [unhide HF, if_neg (by rw [hc]; simp)])
              have CC2 := CC
              rw [hc] at CC2
              clear HF
              rcases htest with t1 | ⟨t1, t2⟩
              all_goals
                go_wp2_with (first | (go_at_call 14; refine ((unhide CM) _).mono ?_; rintro e w4 ⟨rfl, hw4⟩; replace hw4 := hw4.symm; subst hw4) | (go_at_call 15; refine (unhide CO).mono ?_; rintro e w5 ⟨rfl, D', hb5, hg5, hgr⟩; have B5 := hide ((unhide HBe) _ hgr); have O5 := hide ((unhide HRow) _ hgr); have K5 := hide (And.intro hb5 hg5); clear hb5 hg5 hgr) | (go_at_call 16; refine ((unhide CC2) _).mono ?_; rintro e w6 ⟨rfl, hw6⟩; replace hw6 := hw6.symm; subst hw6))
                go_roundw
                case rel => exact ⟨i + 1, c, zo, D', by omega, rfl, rfl, by go_num, HF2, K5, O5, B5⟩
                case measure => simp [intOf]; omega
            | true =>
              have CC2 := CC
              rw [hc] at CC2
              cases hsc : isSec p with
              | false =>
                have HF2 : Hid (qS f (X.take (i + 1)) = some (c, zo)) := hide (by rw [unhide HF, if_neg (by rw [hsc]; simp)])
                rw [hsc] at CS
                clear HF
                rcases htest with t1 | ⟨t1, t2⟩
                all_goals
                  go_wp2_with (first | (go_at_call 14; refine ((unhide CM) _).mono ?_; rintro e w4 ⟨rfl, hw4⟩; replace hw4 := hw4.symm; subst hw4) | (go_at_call 15; refine (unhide CO).mono ?_; rintro e w5 ⟨rfl, D', hb5, hg5, hgr⟩; have B5 := hide ((unhide HBe) _ hgr); have O5 := hide ((unhide HRow) _ hgr); have K5 := hide (And.intro hb5 hg5); clear hb5 hg5 hgr) | (go_at_call 16; refine ((unhide CC2) _).mono ?_; rintro e w6 ⟨rfl, hw6⟩; replace hw6 := hw6.symm; subst hw6) | (go_at_call 17; refine ((unhide CS) _).mono ?_; rintro e w7 ⟨rfl, hw7⟩; replace hw7 := hw7.symm; subst hw7))
                  go_roundw
                  case rel => exact ⟨i + 1, c, zo, D', by omega, rfl, rfl, by go_num, HF2, K5, O5, B5⟩
                  case measure => simp [intOf]; omega
              | true =>
                have HF2 : Hid (qS f (X.take (i + 1)) = some (c, 3)) := hide (by rw [unhide HF, if_pos ⟨hc, hsc⟩])
                rw [hsc] at CS
                clear HF
                rcases htest with t1 | ⟨t1, t2⟩
                all_goals
                  go_wp2_with (first | (go_at_call 14; refine ((unhide CM) _).mono ?_; rintro e w4 ⟨rfl, hw4⟩; replace hw4 := hw4.symm; subst hw4) | (go_at_call 15; refine (unhide CO).mono ?_; rintro e w5 ⟨rfl, D', hb5, hg5, hgr⟩; have B5 := hide ((unhide HBe) _ hgr); have O5 := hide ((unhide HRow) _ hgr); have K5 := hide (And.intro hb5 hg5); clear hb5 hg5 hgr) | (go_at_call 16; refine ((unhide CC2) _).mono ?_; rintro e w6 ⟨rfl, hw6⟩; replace hw6 := hw6.symm; subst hw6) | (go_at_call 17; refine ((unhide CS) _).mono ?_; rintro e w7 ⟨rfl, hw7⟩; replace hw7 := hw7.symm; subst hw7))
                  go_roundw
                  case rel => exact ⟨i + 1, c, 3, D', by omega, rfl, rfl, by go_num, HF2, K5, O5, B5⟩
                  case measure => simp [intOf]; omega
      · obtain rfl : i = n := by omega
        have hge : ¬ (i : Int) < (i : Int) := by omega
        have HR := hide ((unhide HYes2) za zo (unhide HQ))
        clear HQ HK HO HX HP0 HNo2 HYes2
        go_wp2
        go_ret
        exact ⟨ret_int (unhide HR).symm, unhide HB⟩
set_option maxRecDepth 100000 in
theorem implQuick (f : Int) (s : ByteArray) (w : World) (hs1 : s.size ≤ 1048576) (hT : Lib.Utf8Tabs (Tryd.laysValid_ren.g 3) (Tryd.laysValid_ren.g 4) w) :
    Calls Tryd.prog 5 #[.int .i64 f, .string s] w fun e w' => e = .returned (.int .i64 (qckOut f s)) ∧ Below w.heap.size w w' := by
  by_cases hs : 65536 < s.size
  · have HE : Hid (qckOut f s = 0) := hide (by unfold qckOut; rw [if_pos (.inl hs)])
    go_enter Tryd.func5, Tryd.ntmps5
    go_wp2
    go_ret
    exact ⟨ret_int (unhide HE).symm, Below.refl _ _⟩
  · cases hf : isF f with
    | false =>
      have hs2 : s.size ≤ 65536 := by omega
      have HE : Hid (qckOut f s = 0) := hide (by unfold qckOut; rw [if_pos (.inr hf)])
      have CF := hide (fun W => isFormI f W)
      rw [hf] at CF
      clear hf
      go_enter Tryd.func5, Tryd.ntmps5
      go_wp2_with (go_at_call 11; refine ((unhide CF) _).mono ?_; rintro e w1 ⟨rfl, rfl⟩)
      go_ret
      exact ⟨ret_int (unhide HE).symm, Below.refl _ _⟩
    | true => exact quickI f s w (by omega) hf hT
end Go.Proofs.YtncfjpdbfojfoaaDoor
