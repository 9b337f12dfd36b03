/- Scripts and systems of digits, as the program tells them; ScriptsOf and IsMixed of the program. -/
import Derived.Test.YtomgficdlfadaaaDoorRisI
import Derived.Shelf.SortM.SortNone
namespace Go.Proofs.YtomgficdlfadaaaDoor.Ris
open Go.RowKit Go.Shelf
set_option linter.unusedVariables false
theorem cmp_small : ∀ L : List Int, L.length < 2 → cmp L = L
  | [], _ => rfl
  | [x], _ => rfl
  | x :: y :: l, h => by simp only [List.length_cons] at h; omega
theorem row_many {w wr w1 w2 : World} {base n m : Nat} {v v' : Value} {R S : List Int} {o : Obj} {xs : List Value} (hb : Below base w wr) (hb1 : Below base wr w1) (hB : base ≤ w1.heap.size)
    (ho : w1.ownsRow base 2 1 v n xs) (ho2 : w2.ownsRow base 2 1 v' m (R.map (Value.int .i64) ++ S.map (Value.int .i64))) (hm : m = (R ++ S).length) (hg : (w1.alloc o).grownBy w2 v.ownBlock) :
    w2.ownsRow base 2 1 v' (R ++ S).length ((R ++ S).map (Value.int .i64)) ∧ Below base w w2 := by
  refine ⟨?_, ((hb.trans hb1).alloc hB o).grown hg (by simp; omega) (fun j hj => (ho.lt j hj).1)⟩
  rw [← hm, List.map_append]
  exact ho2
theorem one_newR (w : World) (x : Value) (t : TypeId) : ∀ j u, [x][j]? = some u → (w.alloc (.cells #[x] t)).cell? ((⟨w.heap.size, 0, none⟩ : Addr).add j) = some u := by
  intro j u hj
  match j, hj with
  | 0, hj => simp at hj; subst hj; simp [Addr.add]
  | (j + 1), hj => simp at hj
/-- Sorted, whatever the row is. -/
theorem sort_any (w : World) (B : Nat) (v : Value) (T : List Int) (hB : B ≤ w.heap.size) (hn : T.length ≤ 1048576) (ho : w.ownsRow B 2 1 v T.length (T.map (Value.int .i64))) :
    Calls Tryd.prog 25 #[v] w fun e w' => e = .returned (.tuple #[]) ∧ w'.ownsRow B 2 1 v T.length ((srt T).map (Value.int .i64)) ∧ Below B w w' := by
  rcases ho.2 with ⟨rfl, h0⟩ | ⟨g, cap, cur, rfl, hg, hh, r⟩
  · have hT : T = [] := List.length_eq_zero_iff.1 h0
    subst hT
    refine Calls.mono (AnyM.slices_Sort_int_none Tryd.laysSort none 0 w) ?_
    rintro e w' ⟨rfl, rfl⟩
    exact ⟨rfl, by rw [show srt [] = [] by simp [srt]]; exact World.ownsRow_nil _ _ _ _, Below.refl _ _⟩
  · have h : Rw w w B g T.length cap T := ⟨ho, grown_reflC _ _⟩
    refine (sortR w w B g T.length cap T hn h).mono ?_
    rintro e w' ⟨rfl, hr⟩
    exact ⟨rfl, hr.ow, (Below.refl B w).grown hr.gr hB (fun k e => by cases e; exact hg)⟩
theorem compact_any (w : World) (B : Nat) (v : Value) (T : List Int) (hB : B ≤ w.heap.size) (hn : T.length ≤ 1048576) (hs : T.Pairwise (· ≤ ·)) (ho : w.ownsRow B 2 1 v T.length (T.map (Value.int .i64))) :
    Calls Tryd.prog 26 #[v] w fun e w' => ∃ v', e = .returned v' ∧ w'.ownsRow B 2 1 v' (cmp T).length ((cmp T).map (Value.int .i64)) ∧ Below B w w' := by
  by_cases h2 : T.length < 2
  · rw [cmp_small T h2]
    have h2' : (T.length : Int) < 2 := by omega
    obtain ⟨a, cap, rfl, _⟩ := IntsAt.owned ho
    have HO := hide ho
    clear ho
    go_enter Tryd.func26, Tryd.ntmps26
    go_wp2
    go_ret
    exact ⟨_, rfl, unhide HO, Below.refl _ _⟩
  · rcases ho.2 with ⟨rfl, h0⟩ | ⟨g, cap, cur, rfl, hg, hh, r⟩
    · omega
    · have h : Rw w w B g T.length cap T := ⟨ho, grown_reflC _ _⟩
      refine (compactC w w B g T.length cap T (by omega) hn h).mono ?_
      rintro e w' ⟨rfl, hr⟩
      rw [cmk_cmp hs] at hr ⊢
      exact ⟨_, rfl, hr.ow, (Below.refl B w).grown hr.gr hB (fun k e => by cases e; exact hg)⟩
theorem own_monoR {w : World} {B B2 n : Nat} {v : Value} {xs : List Value} (h : w.ownsRow B2 2 1 v n xs) (hb : B ≤ B2) : w.ownsRow B 2 1 v n xs := by
  refine ⟨h.1, ?_⟩
  rcases h.2 with h' | ⟨g, cap, cur, hv, hg, r⟩
  · exact .inl h'
  · exact .inr ⟨g, cap, cur, hv, by omega, r⟩
set_option maxRecDepth 100000 in
set_option maxHeartbeats 2000000 in
theorem ris_a (v : Value) (L : List Int) (w : World) (ht : TabAt w) (hv : IntsAt w v L) (hL : L.length ≤ 131072) :
    Calls Tryd.prog 14 #[v, .func (.func 16) #[] #[], .func (.func 17) #[] #[]] w fun e w' => ∃ v', e = .returned v' ∧ w'.ownsRow w.heap.size 2 1 v' (all (tld let1 scr L L.length)).length ((all (tld let1 scr L L.length)).map (Value.int .i64)) ∧ Below w.heap.size w w' := by
  obtain ⟨i0, hi, hz0, hz1, hz2⟩ := info_parts info2
  have HV := hide hv
  have HT := hide ht
  clear ht
  obtain ⟨va, cap, rfl, _⟩ := hv
  go_enter Tryd.func14, Tryd.ntmps14
  go_wp2
  go_loopw [7, 12] (fun lv iv wr => ∃ k : Nat, k ≤ L.length ∧ iv = .int .i64 k ∧ Hid (wr.ownsRow w.heap.size 2 1 lv (tld let1 scr L k).length ((tld let1 scr L k).map (Value.int .i64))) ∧ Hid (Below w.heap.size w wr)) (fun _ iv _ => L.length - (intOf iv).toNat)
  case atStart => exact ⟨0, Nat.zero_le _, rfl, hide (World.ownsRow_nil w _ _ _), hide (Below.refl _ _)⟩
  case round =>
    obtain ⟨k, hk, rfl, HO, HB⟩ := hrel
    have hBs := (unhide HB).size
    have hkl := tld_len let1 scr L k
    by_cases hlt : k < L.length
    · obtain ⟨b, off, cp, he, hbw, hc⟩ := rd_at (unhide HV) (by omega)
      cases he
      have kc := ((unhide HB).cell (p := ⟨b, off + k, none⟩) hbw).trans (hc k hlt)
      have hbr : b < wr.heap.size := by omega
      have CA := hide (fun W h => letrI (nth L k) W h)
      have CT := hide (fun W h => scrI_any (nth L k) W h)
      have HY := hide (fun h => tld_yes (ask := let1) (tel := scr) hlt h)
      have HN := hide (fun h => tld_no (ask := let1) (tel := scr) hlt h)
      clear hc
      generalize hT : tld let1 scr L k = T at *
      clear hT
      generalize nth L k = p at *
      cases ha : let1 p with
      | true =>
        rw [ha] at CA
        have HS := hide ((unhide HY) ha)
        clear ha HY HN
        generalize scr p = z at *
        go_wp2_with (first
          | (go_at_call 16; refine ((unhide CA) _ ((unhide HT).below (unhide HB))).mono ?_; rintro e w1 ⟨rfl, hb1⟩; have O1 := hide (ownsRow_below (unhide HO) hb1); have B1 := hide (j2 (unhide HB) hb1); clear hb1)
          | (go_at_call 17; refine ((unhide CT) _ ((unhide HT).below (unhide B1))).mono ?_; rintro e w3 ⟨rfl, hb3⟩; have O3 := hide (ownsRow_below (unhide O1) hb3); have B3 := hide (j2 (unhide B1) hb3); have h3s := (unhide B3).size; clear hb3)
          | (at_builtin; refine wpList_appG _ rfl _ _ 22 rfl w.heap.size 2 i0 (.int .i64 0) 1 8 Tryd.underlying22 hi hz0 hz1 hz2 rfl (by decide) _ _ _ rfl ((unhide O3).alloc _) ⟨w3.heap.size, 0, none⟩ 1 1 [.int .i64 z] rfl rfl (one_newR _ _ _) ?c2 ?c3 ?c4 ?c5 ?_))
        case c2 => intro u hu; simp at hu; subst hu; rfl
        case c3 => unfold maxLen; omega
        case c4 => omega
        case c5 => simp; omega
        intro v' w4 hown' hgrow _
        have RR := hide (row_many (R := T) (S := [z]) (unhide B3) (Below.refl _ _) (by omega) (unhide O3) hown' (by simp) hgrow)
        clear hown' hgrow
        go_wp2
        go_roundw
        case rel => exact ⟨k + 1, by omega, by go_num, hide (by rw [unhide HS]; exact (unhide RR).1), hide (unhide RR).2⟩
        case measure => simp [intOf]; omega
      | false =>
        rw [ha] at CA
        have HS := hide ((unhide HN) ha)
        clear ha HY HN
        go_wp2_with (go_at_call 16; refine ((unhide CA) _ ((unhide HT).below (unhide HB))).mono ?_; rintro e w1 ⟨rfl, hb1⟩; have O1 := hide (ownsRow_below (unhide HO) hb1); have B1 := hide (j2 (unhide HB) hb1); clear hb1)
        go_roundw
        case rel => exact ⟨k + 1, by omega, by go_num, hide (by rw [unhide HS]; exact unhide O1), B1⟩
        case measure => simp [intOf]; omega
    · obtain rfl : k = L.length := by omega
      have HA := hide (all_eq (tld let1 scr L L.length))
      have HSL := hide (srt_ok (tld let1 scr L L.length))
      obtain ⟨T, hTe⟩ : ∃ T, tld let1 scr L L.length = T := ⟨_, rfl⟩
      have HTe := hide hTe
      rw [hTe] at HA HSL HO hkl
      clear hTe
      go_wp2_with (first
        | (go_at_call 25; refine (sort_any _ w.heap.size _ T hBs (by omega) (unhide HO)).mono ?_; rintro e w5 ⟨rfl, ho5, hb5⟩; have O5 := hide ho5; have B5 := hide ((unhide HB).trans hb5); have h5s := (unhide B5).size; clear ho5 hb5)
        | (go_at_call 26; refine (compact_any _ w.heap.size _ (srt T) h5s (by rw [(unhide HSL).2.1]; omega) (unhide HSL).1 (by rw [(unhide HSL).2.1]; exact unhide O5)).mono ?_; rintro e w6 ⟨v6, rfl, ho6, hb6⟩; have O6 := hide ho6; have B6 := hide ((unhide B5).trans hb6); clear ho6 hb6))
      go_ret
      exact ⟨_, rfl, by rw [unhide HTe, ← unhide HA]; exact unhide O6, unhide B6⟩
set_option maxRecDepth 100000 in
set_option maxHeartbeats 2000000 in
theorem ris_b (v : Value) (L : List Int) (w : World) (ht : TabAt w) (hv : IntsAt w v L) (hL : L.length ≤ 131072) :
    Calls Tryd.prog 14 #[v, .func (.func 19) #[] #[], .func (.func 20) #[] #[]] w fun e w' => ∃ v', e = .returned v' ∧ w'.ownsRow w.heap.size 2 1 v' (all (tld dgt1 sysI L L.length)).length ((all (tld dgt1 sysI L L.length)).map (Value.int .i64)) ∧ Below w.heap.size w w' := by
  obtain ⟨i0, hi, hz0, hz1, hz2⟩ := info_parts info2
  have HV := hide hv
  have HT := hide ht
  clear ht
  obtain ⟨va, cap, rfl, _⟩ := hv
  go_enter Tryd.func14, Tryd.ntmps14
  go_wp2
  go_loopw [7, 12] (fun lv iv wr => ∃ k : Nat, k ≤ L.length ∧ iv = .int .i64 k ∧ Hid (wr.ownsRow w.heap.size 2 1 lv (tld dgt1 sysI L k).length ((tld dgt1 sysI L k).map (Value.int .i64))) ∧ Hid (Below w.heap.size w wr)) (fun _ iv _ => L.length - (intOf iv).toNat)
  case atStart => exact ⟨0, Nat.zero_le _, rfl, hide (World.ownsRow_nil w _ _ _), hide (Below.refl _ _)⟩
  case round =>
    obtain ⟨k, hk, rfl, HO, HB⟩ := hrel
    have hBs := (unhide HB).size
    have hkl := tld_len dgt1 sysI L k
    by_cases hlt : k < L.length
    · obtain ⟨b, off, cp, he, hbw, hc⟩ := rd_at (unhide HV) (by omega)
      cases he
      have kc := ((unhide HB).cell (p := ⟨b, off + k, none⟩) hbw).trans (hc k hlt)
      have hbr : b < wr.heap.size := by omega
      have CA := hide (fun W h => digB (nth L k) W h)
      have CT := hide (fun W h => sysB (nth L k) W h)
      have HY := hide (fun h => tld_yes (ask := dgt1) (tel := sysI) hlt h)
      have HN := hide (fun h => tld_no (ask := dgt1) (tel := sysI) hlt h)
      clear hc
      generalize hT : tld dgt1 sysI L k = T at *
      clear hT
      generalize nth L k = p at *
      cases ha : dgt1 p with
      | true =>
        rw [ha] at CA
        have HS := hide ((unhide HY) ha)
        clear ha HY HN
        generalize sysI p = z at *
        go_wp2_with (first
          | (go_at_call 19; refine ((unhide CA) _ ((unhide HT).below (unhide HB))).mono ?_; rintro e w1 ⟨rfl, hb1⟩; have O1 := hide (ownsRow_below (unhide HO) hb1); have B1 := hide (j2 (unhide HB) hb1); clear hb1)
          | (go_at_call 20; refine ((unhide CT) _ ((unhide HT).below (unhide B1))).mono ?_; rintro e w3 ⟨rfl, hb3⟩; have O3 := hide (ownsRow_below (unhide O1) hb3); have B3 := hide (j2 (unhide B1) hb3); have h3s := (unhide B3).size; clear hb3)
          | (at_builtin; refine wpList_appG _ rfl _ _ 22 rfl w.heap.size 2 i0 (.int .i64 0) 1 8 Tryd.underlying22 hi hz0 hz1 hz2 rfl (by decide) _ _ _ rfl ((unhide O3).alloc _) ⟨w3.heap.size, 0, none⟩ 1 1 [.int .i64 z] rfl rfl (one_newR _ _ _) ?c2 ?c3 ?c4 ?c5 ?_))
        case c2 => intro u hu; simp at hu; subst hu; rfl
        case c3 => unfold maxLen; omega
        case c4 => omega
        case c5 => simp; omega
        intro v' w4 hown' hgrow _
        have RR := hide (row_many (R := T) (S := [z]) (unhide B3) (Below.refl _ _) (by omega) (unhide O3) hown' (by simp) hgrow)
        clear hown' hgrow
        go_wp2
        go_roundw
        case rel => exact ⟨k + 1, by omega, by go_num, hide (by rw [unhide HS]; exact (unhide RR).1), hide (unhide RR).2⟩
        case measure => simp [intOf]; omega
      | false =>
        rw [ha] at CA
        have HS := hide ((unhide HN) ha)
        clear ha HY HN
        go_wp2_with (go_at_call 19; refine ((unhide CA) _ ((unhide HT).below (unhide HB))).mono ?_; rintro e w1 ⟨rfl, hb1⟩; have O1 := hide (ownsRow_below (unhide HO) hb1); have B1 := hide (j2 (unhide HB) hb1); clear hb1)
        go_roundw
        case rel => exact ⟨k + 1, by omega, by go_num, hide (by rw [unhide HS]; exact unhide O1), B1⟩
        case measure => simp [intOf]; omega
    · obtain rfl : k = L.length := by omega
      have HA := hide (all_eq (tld dgt1 sysI L L.length))
      have HSL := hide (srt_ok (tld dgt1 sysI L L.length))
      obtain ⟨T, hTe⟩ : ∃ T, tld dgt1 sysI L L.length = T := ⟨_, rfl⟩
      have HTe := hide hTe
      rw [hTe] at HA HSL HO hkl
      clear hTe
      go_wp2_with (first
        | (go_at_call 25; refine (sort_any _ w.heap.size _ T hBs (by omega) (unhide HO)).mono ?_; rintro e w5 ⟨rfl, ho5, hb5⟩; have O5 := hide ho5; have B5 := hide ((unhide HB).trans hb5); have h5s := (unhide B5).size; clear ho5 hb5)
        | (go_at_call 26; refine (compact_any _ w.heap.size _ (srt T) h5s (by rw [(unhide HSL).2.1]; omega) (unhide HSL).1 (by rw [(unhide HSL).2.1]; exact unhide O5)).mono ?_; rintro e w6 ⟨v6, rfl, ho6, hb6⟩; have O6 := hide ho6; have B6 := hide ((unhide B5).trans hb6); clear ho6 hb6))
      go_ret
      exact ⟨_, rfl, by rw [unhide HTe, ← unhide HA]; exact unhide O6, unhide B6⟩
def scs (s : ByteArray) : List Int := all (tld let1 scr (ptsOut s) (ptsOut s).length)
def sys (s : ByteArray) : List Int := all (tld dgt1 sysI (ptsOut s) (ptsOut s).length)
theorem out_len (s : ByteArray) (hs : s.size ≤ 1048576) : (ptsOut s).length ≤ 65536 := by
  unfold ptsOut
  split
  · simp
  · have := pts_le s
    omega
set_option maxRecDepth 100000 in
theorem implScs (s : ByteArray) (w : World) (ht : TabAt w) (hs : s.size ≤ 1048576) : Calls Tryd.prog 6 #[.string s] w fun e w' => ∃ v, e = .returned v ∧ w'.ownsRow w.heap.size 2 1 v (scs s).length ((scs s).map (Value.int .i64)) ∧ Below w.heap.size w w' := by
  have HT := hide ht
  clear ht
  have CP := hide (implPointsOf s w hs)
  have hl := out_len s hs
  have CR := hide (fun v W h hv => ris_a v (ptsOut s) W h hv (by omega))
  have HE : Hid (scs s = all (tld let1 scr (ptsOut s) (ptsOut s).length)) := hide rfl
  generalize scs s = Z at *
  generalize all (tld let1 scr (ptsOut s) (ptsOut s).length) = U at *
  generalize ptsOut s = L at *
  go_enter Tryd.func6, Tryd.ntmps6
  go_wp2_with (first
    | (go_at_call 15; refine (unhide CP).mono ?_; rintro e w1 ⟨v1, rfl, ho1, hb1⟩; have I1 := hide (IntsAt.owned ho1); have S1 := hide hb1.size; have B1 := hide hb1; clear ho1 hb1)
    | (go_at_call 14; refine ((unhide CR) _ _ ((unhide HT).below (unhide B1)) (unhide I1)).mono ?_; rintro e w2 ⟨v2, rfl, ho2, hb2⟩; have O2 := hide ho2; have B2 := hide (j2 (unhide B1) hb2); clear ho2 hb2))
  go_ret
  exact ⟨_, rfl, by rw [unhide HE]; exact own_monoR (unhide O2) (unhide S1), unhide B2⟩
def mix (s : ByteArray) : Bool := decide (1 < (scs s).length) || decide (1 < (sys s).length)
set_option maxRecDepth 100000 in
set_option maxHeartbeats 1000000 in
theorem implMix (s : ByteArray) (w : World) (ht : TabAt w) (hs : s.size ≤ 1048576) : Calls Tryd.prog 11 #[.string s] w fun e w' => e = .returned (.bool (mix s)) ∧ Below w.heap.size w w' := by
  have hU : undef = Value.tuple #[] := rfl
  have HT := hide ht
  have CS := hide (implScs s w ht hs)
  clear ht
  have CP := hide (fun W => implPointsOf s W hs)
  have hl := out_len s hs
  have CR := hide (fun v W h hv => ris_b v (ptsOut s) W h hv (by omega))
  have HE : Hid (mix s = (decide (1 < (scs s).length) || decide (1 < (sys s).length))) := hide rfl
  have HY : Hid (sys s = all (tld dgt1 sysI (ptsOut s) (ptsOut s).length)) := hide rfl
  rw [← unhide HY] at CR
  clear HY
  generalize mix s = z at *
  generalize scs s = X at *
  generalize sys s = Y at *
  generalize ptsOut s = L at *
  by_cases h1 : 1 < X.length
  · have h1' : (1 : Int) < (X.length : Int) := by omega
    rw [decide_eq_true h1, Bool.true_or] at HE
    go_enter Tryd.func11, Tryd.ntmps11
    go_wp2_with (go_at_call 6; refine (unhide CS).mono ?_; rintro e w1 ⟨v1, rfl, ho1, hb1⟩; obtain ⟨a1, c1, rfl, _⟩ := IntsAt.owned ho1; have B1 := hide hb1; clear ho1 hb1)
    go_ret
    exact ⟨by rw [unhide HE]; rfl, unhide B1⟩
  · have h1' : ¬ (1 : Int) < (X.length : Int) := by omega
    rw [decide_eq_false h1, Bool.false_or] at HE
    go_enter Tryd.func11, Tryd.ntmps11
    go_wp2_with (first
      | (go_at_call 6; refine (unhide CS).mono ?_; rintro e w1 ⟨v1, rfl, ho1, hb1⟩; obtain ⟨a1, c1, rfl, _⟩ := IntsAt.owned ho1; have B1 := hide hb1; clear ho1 hb1)
      | (go_at_call 15; refine ((unhide CP) _).mono ?_; rintro e w2 ⟨v2, rfl, ho2, hb2⟩; have I2 := hide (IntsAt.owned ho2); have B2 := hide (j2 (unhide B1) hb2); clear ho2 hb2)
      | (go_at_call 14; refine ((unhide CR) _ _ ((unhide HT).below (unhide B2)) (unhide I2)).mono ?_; rintro e w3 ⟨v3, rfl, ho3, hb3⟩; obtain ⟨a3, c3, rfl, _⟩ := IntsAt.owned ho3; have B3 := hide (j2 (unhide B2) hb3); clear ho3 hb3))
    go_ret
    exact ⟨by rw [unhide HE]; show Ending.returned (.bool (decide ((1 : Int) < (X.length : Int)) || decide ((1 : Int) < (Y.length : Int)))) = .returned (.bool (decide (1 < Y.length))); rw [decide_eq_false (show ¬ (1 : Int) < (X.length : Int) by omega), Bool.false_or, show decide ((1 : Int) < (Y.length : Int)) = decide (1 < Y.length) by rw [decide_eq_decide]; omega], unhide B3⟩
end Go.Proofs.YtomgficdlfadaaaDoor.Ris
