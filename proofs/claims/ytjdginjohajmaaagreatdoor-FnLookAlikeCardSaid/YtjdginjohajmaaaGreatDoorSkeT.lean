/- Skeletons, as the specification makes them; SkeletonOf and LookAlike of the specification; the laws. -/
import Derived.Test.YtjdginjohajmaaaGreatDoorSkeS
namespace Go.Proofs.YtjdginjohajmaaaGreatDoor.Ske
open Go.RowKit
set_option linter.unusedVariables false
theorem map_take (X : List Int) (k : Nat) (h : k < X.length) : (X.take (k + 1)).map lk = (X.take k).map lk ++ [lk (nth X k)] := by
  have e : X.take (k + 1) = X.take k ++ [nth X k] := by
    rw [List.take_succ_eq_append_getElem h]
    unfold nth
    rw [List.getD_eq_getElem?_getD, List.getElem?_eq_getElem h]
    rfl
  rw [e, List.map_append]
  rfl
theorem own_read {lo : Nat} {w : World} {v : Value} {M : List Int} (h : w.ownsRow lo 2 1 v M.length (M.map (Value.int .i64))) (hM : M ≠ []) : ∃ g c, v = .slice (some ⟨g, 0, none⟩) M.length c ∧ ∀ (j : Nat) (u : Value), (M.map (Value.int .i64))[j]? = some u → w.cell? ((⟨g, 0, none⟩ : Addr).add j) = some u := by
  rcases h.2 with ⟨_, hn⟩ | ⟨g, cap, cur, hv, hg, hh, r⟩
  · exact absurd (List.length_eq_zero_iff.1 hn) hM
  · refine ⟨g, cap, hv, fun j u hj => ?_⟩
    have hjl : j < M.length := by
      have := (List.getElem?_eq_some_iff.1 hj).1
      simpa using this
    subst hv
    have e : (⟨g, 0, none⟩ : Addr).add j = ⟨g, j, none⟩ := by unfold Addr.add; split <;> simp_all
    have hc := h.cellAt j (by omega)
    rw [e, hc, hj]
theorem ones (M : List Int) : ∀ u ∈ M.map (Value.int .i64), u.oneCell' = true := by
  intro u hu
  obtain ⟨x, _, rfl⟩ := List.mem_map.1 hu
  rfl
/-- An append of a row to a row of one's own. -/
theorem row_app {w wr w1 w2 : World} {base n m : Nat} {v v' : Value} {R S : List Int} {xs : List Value} (hb : Below base w wr) (hb1 : Below base wr w1) (hB : base ≤ w1.heap.size)
    (ho : w1.ownsRow base 2 1 v n xs) (ho2 : w2.ownsRow base 2 1 v' m (R.map (Value.int .i64) ++ S.map (Value.int .i64))) (hm : m = (R ++ S).length) (hg : w1.grownBy w2 v.ownBlock) :
    w2.ownsRow base 2 1 v' (R ++ S).length ((R ++ S).map (Value.int .i64)) ∧ Below base w w2 := by
  refine ⟨?_, (hb.trans hb1).grown hg hB (fun j hj => (ho.lt j hj).1)⟩
  rw [← hm, List.map_append]
  exact ho2
set_option maxRecDepth 100000 in
set_option maxHeartbeats 2000000 in
theorem seenW (X : List Int) (p b c : Int) (w : World) (hXn : X ≠ []) (hXl : X.length ≤ 2) (p0 : 0 ≤ p) (p1 : p ≤ 1114111)
    (CC : Hid (Calls Tryz.prog 53 #[.int .i64 p] w fun e w' => e = .returned (.int .i64 c) ∧ Below w.heap.size w w')) (CB : Hid (∀ W, Calls Tryz.prog 69 #[.int .i64 p] W fun e w' => e = .returned (.int .i64 b) ∧ w' = W)) (CW : Hid (∀ W, Calls Tryz.prog 70 #[.int .i64 p] W fun e w' => NewRow W w' e X))
    (CX : Hid (∀ x ∈ X, ∀ W, Calls Tryz.prog 42 #[.int .i64 x] W fun e w' => Sn W w' e [lk x]))
    (k1 : (c == 1) = false) (k2 : (c == 11) = false) (hb : ¬ 0 < b) (e8 : (c == 8) = false) (r2 : (p == 1280) = false) (r4 : (p == 73) = false) (r5 : (p == 1281) = false) (e2 : (c == 2) = false) :
    Calls Tryz.prog 42 #[.int .i64 p] w fun e w' => Sn w w' e (X.map lk) := by
  obtain ⟨i0, hi, hz0, hz1, hz2⟩ := info_parts info2
  have hXp : 0 < X.length := List.length_pos_iff.2 hXn
  have HXN := hide hXn
  clear hXn
  go_enter Tryz.func42, Tryz.ntmps42
  go_wp2_with (first
    | (go_at_call 53; refine (unhide CC).mono ?_; rintro e w1 ⟨rfl, hb1⟩; have B1 := hide hb1; clear hb1)
    | (go_at_call 69; refine ((unhide CB) _).mono ?_; rintro e w' ⟨rfl, hw⟩; obtain rfl := hw.symm; clear hw)
    | (go_at_call 70; refine ((unhide CW) _).mono ?_; rintro e w2 ⟨v2, rfl, ho2, hb2⟩; have I2 := hide (IntsAt.owned ho2); have B2 := hide (j2 (unhide B1) hb2); obtain ⟨a2, c2, rfl, _⟩ := IntsAt.owned ho2; clear ho2 hb2))
  go_loopw [6, 7] (fun ov iv wr => ∃ k : Nat, k ≤ X.length ∧ iv = .int .i64 k ∧ Hid (wr.ownsRow w2.heap.size 2 1 ov ((X.take k).map lk).length (((X.take k).map lk).map (Value.int .i64))) ∧ Hid (Below w2.heap.size w2 wr)) (fun _ iv _ => X.length - (intOf iv).toNat)
  case atStart => exact ⟨0, Nat.zero_le _, rfl, hide (World.ownsRow_lit w2 #[] 0 (Nat.le_refl _) (by unfold maxLen; omega) rfl), hide (al1 _ _)⟩
  case round =>
    obtain ⟨k, hk, rfl, HO, HB⟩ := hrel
    have hBs := (unhide HB).size
    have hkl : ((X.take k).map lk).length ≤ 2 := by rw [List.length_map, List.length_take]; omega
    by_cases hlt : k < X.length
    · obtain ⟨b', off, cp, he, hbw, hc⟩ := rd_at (unhide I2) (by omega)
      cases he
      have kc := ((unhide HB).cell (p := ⟨b', off + k, none⟩) hbw).trans (hc k hlt)
      have hbr : b' < wr.heap.size := by omega
      have HS := hide (map_take X k hlt)
      have CA := hide ((unhide CX) _ (nth_in hlt))
      obtain ⟨x, hxk⟩ : ∃ x, nth X k = x := ⟨_, rfl⟩
      rw [hxk] at kc HS CA
      clear hc hxk
      generalize hR : (X.take k).map lk = R at *
      clear hR
      go_wp2_with (first
        | (go_at_call 42; refine ((unhide CA) _).mono ?_; rintro e w3 ⟨g3, c3, rfl, hr3, hb3⟩; have O3 := hide (ownsRow_below (unhide HO) hb3); have B3 := hide (j2 (unhide HB) hb3); have h3s := (unhide B3).size; clear hb3)
        | (at_builtin; refine wpList_appG _ rfl _ _ 28 rfl w2.heap.size 2 i0 (.int .i64 0) 1 8 Tryz.underlying28 hi hz0 hz1 hz2 rfl (by decide) _ _ _ rfl (unhide O3) ⟨g3, 0, none⟩ 1 _ [.int .i64 (lk x)] rfl rfl hr3 ?c2 ?c3 ?c4 ?c5 ?_))
      case c2 => intro u hu; simp at hu; subst hu; rfl
      case c3 => unfold maxLen; omega
      case c4 => omega
      case c5 => exact h3s
      intro v' w4 hown' hgrow _
      have RR := hide (row_app (R := R) (S := [lk x]) (unhide B3) (Below.refl _ _) h3s (unhide O3) hown' (by simp) hgrow)
      clear hown' hgrow hr3
      go_wp2
      go_roundw
      case rel => exact ⟨k + 1, by omega, by go_num, hide (by rw [unhide HS]; exact (unhide RR).1), hide (unhide RR).2⟩
      case measure => simp [intOf]; omega
    · obtain rfl : k = X.length := by omega
      rw [List.take_length] at HO
      obtain ⟨g, cc, hv, hr⟩ := own_read (unhide HO) (by have := unhide HXN; simpa using this)
      subst hv
      have HR := hide hr
      clear hr
      go_wp2
      go_ret
      exact ⟨_, _, rfl, unhide HR, j2 (unhide B2) (unhide HB)⟩
/-- l19Seen. -/
theorem seenS (p : Int) (w : World) (p0 : 0 ≤ p) (p1 : p ≤ 1114111) : Calls Tryz.prog 42 #[.int .i64 p] w fun e w' => Sn w w' e (see p) := by
  by_cases hc : wideZ p = [] ∨ catI p ≠ 10
  · exact seen0 p w p0 p1 hc
  · have hw : wideZ p ≠ [] := fun h => hc (.inl h)
    have h10 : catI p = 10 := Classical.byContradiction (fun h => hc (.inr h))
    rw [see_wide h10, show prt p = wideZ p by unfold prt; rw [if_neg hw]]
    have CC := hide (specCat p w)
    rw [cat_eq, h10] at CC
    have hb : Cas.bl p = 0 := by
      apply Classical.byContradiction
      intro h
      apply hw
      unfold Cas.bl at h
      split at h
      · exact absurd rfl h
      · unfold wideZ
        rw [if_neg (by omega), if_neg (by omega), if_neg (by omega), if_neg (by omega), if_neg (by omega), if_neg (by omega), if_neg (by omega)]
    have CB := hide (fun W => blkS p W p0 p1)
    rw [hb] at CB
    have hl : (wideZ p).length ≤ 2 := by
      rcases wide_forms p with e | ⟨x, e, _⟩ | ⟨x, y, e, _⟩ <;> rw [e] <;> simp
    have g : ∀ q : Int, wideZ q = [] → (p == q) = false := fun q hq => bf (fun e => hw (e ▸ hq))
    exact seenW _ p 0 10 w hw hl p0 p1 CC CB (hide (fun W => wideS p W ⟨p0, p1⟩)) (hide (fun x hx W => by
      have := wide_parts p x hx
      rw [← this.2.1]
      exact seen0 x W this.2.2.1 this.2.2.2 (.inl this.1))) rfl rfl (by omega) rfl (g _ (by decide)) (g _ (by decide)) (g _ (by decide)) rfl
set_option maxRecDepth 100000 in
set_option maxHeartbeats 2000000 in
theorem skelS (s : ByteArray) (w : World) (hs : s.size ≤ 65536) : Calls Tryz.prog 22 #[.string s] w fun e w' => ∃ v, e = .returned v ∧ w'.ownsRow w.heap.size 2 1 v (ske s).length ((ske s).map (Value.int .i64)) ∧ Below w.heap.size w w' := by
  obtain ⟨i0, hi, hz0, hz1, hz2⟩ := info_parts info2
  have hpo : ptsOut s = pts s := by unfold ptsOut; rw [if_neg (by omega)]
  have CP := hide (fun W => l01Points s W (by omega))
  have hpl := pts_le s
  have C1 := hide (fun B n v W h hn => normS 1 B n v (pts s) W h (pts_bd s) rfl hn)
  have hbd := d_bd s
  have hfb := fl_bd s
  have HC : Hid (ske s = nrmL 1 ((nrmL 1 (ptsOut s)).flatMap see)) := hide rfl
  rw [hpo] at hbd hfb HC
  have HPT := hide hbd.2
  have hLM := hbd.1
  have HFB : Hid (∀ p ∈ (nrmL 1 (pts s)).flatMap see, 0 ≤ p ∧ p ≤ 1114111) := hide (fun p hp => by
    obtain ⟨q, hq, hx⟩ := List.mem_flatMap.1 hp
    exact see_bd q (hbd.2 q hq) p hx)
  have C2 := hide (fun B n v W h hn => normS 1 B n v ((nrmL 1 (pts s)).flatMap see) W h (unhide HFB) rfl hn)
  have HL2 := hide hfb
  clear hbd hfb hpo HFB
  have HLO : Hid ((pts s).length ≤ 131072) := hide (by omega)
  clear hpl
  generalize ske s = Z at *
  generalize pts s = L at *
  generalize hM : nrmL 1 L = M at *
  clear hM
  go_enter Tryz.func22, Tryz.ntmps22
  go_wp2_with (first
    | (go_at_call 30; refine ((unhide CP) _).mono ?_; clear CP; rintro e w1 ⟨v1, rfl, ho1, hb1⟩; have O1 := hide ho1; have B1 := hide hb1; clear ho1 hb1)
    | (go_at_call_of 41 v1; refine ((unhide C1) _ _ _ _ (unhide O1) (unhide HLO)).mono ?_; rintro e w2 ⟨v2, rfl, ho2, hb2⟩; have I2 := hide (IntsAt.owned ho2); have B2 := hide (j2 (unhide B1) hb2); clear hb2; obtain ⟨a2, c2, rfl, _⟩ := IntsAt.owned ho2; clear ho2))
  go_loopw [4, 5] (fun lv iv wr => ∃ k : Nat, k ≤ M.length ∧ iv = .int .i64 k ∧ Hid (wr.ownsRow w2.heap.size 2 1 lv ((M.take k).flatMap see).length (((M.take k).flatMap see).map (Value.int .i64))) ∧ Hid (Below w2.heap.size w2 wr)) (fun _ iv _ => M.length - (intOf iv).toNat)
  case atStart => exact ⟨0, Nat.zero_le _, rfl, hide (World.ownsRow_lit w2 #[] 0 (Nat.le_refl _) (by unfold maxLen; omega) rfl), hide (al1 _ _)⟩
  case round =>
    obtain ⟨k, hk, rfl, HO, HB⟩ := hrel
    have hBs := (unhide HB).size
    have hkl := fl_take_len M k
    by_cases hlt : k < M.length
    · obtain ⟨b, off, cp, he, hbw, hc⟩ := rd_at (unhide I2) (by omega)
      cases he
      have kc := ((unhide HB).cell (p := ⟨b, off + k, none⟩) hbw).trans (hc k hlt)
      have hbr : b < wr.heap.size := by omega
      have HS := hide (fl_take M k hlt)
      have hpk := (unhide HPT) _ (nth_in hlt)
      have CA := hide (fun W => seenS (nth M k) W hpk.1 hpk.2)
      have hsl := see_len (nth M k)
      clear hpk
      obtain ⟨p, hpk⟩ : ∃ p, nth M k = p := ⟨_, rfl⟩
      rw [hpk] at kc HS CA hsl
      clear hc hpk
      generalize see p = Y at *
      generalize hR : (M.take k).flatMap see = R at *
      clear hR
      go_wp2_with (first
        | (go_at_call 42; refine ((unhide CA) _).mono ?_; rintro e w3 ⟨g3, c3, rfl, hr3, hb3⟩; have O3 := hide (ownsRow_below (unhide HO) hb3); have B3 := hide (j2 (unhide HB) hb3); have h3s := (unhide B3).size; clear hb3)
        | (at_builtin; refine wpList_appG _ rfl _ _ 28 rfl w2.heap.size 2 i0 (.int .i64 0) 1 8 Tryz.underlying28 hi hz0 hz1 hz2 rfl (by decide) _ _ _ rfl (unhide O3) ⟨g3, 0, none⟩ _ _ _ rfl (by rw [List.length_map]; omega) hr3 (ones _) ?c3 ?c4 ?c5 ?_))
      case c3 => unfold maxLen; omega
      case c4 => omega
      case c5 => exact h3s
      intro v' w4 hown' hgrow _
      have RR := hide (row_app (R := R) (S := Y) (unhide B3) (Below.refl _ _) h3s (unhide O3) hown' (by simp) hgrow)
      clear hown' hgrow hr3
      go_wp2
      go_roundw
      case rel => exact ⟨k + 1, by omega, by go_num, hide (by rw [unhide HS]; exact (unhide RR).1), hide (unhide RR).2⟩
      case measure => simp [intOf]; omega
    · obtain rfl : k = M.length := by omega
      rw [List.take_length] at HO
      generalize M.flatMap see = F at *
      go_wp2_with (go_at_call 41; refine ((unhide C2) _ _ _ _ (unhide HO) (unhide HL2)).mono ?_; rintro e w4 ⟨v4, rfl, ho4, hb4⟩; have O4 := hide ho4; have S4 := hide (Nat.le_trans (unhide B2).size hBs); have B4 := hide (j2 (j2 (unhide B2) (unhide HB)) hb4); clear ho4 hb4)
      go_ret
      refine ⟨_, rfl, ?_, unhide B4⟩
      rw [unhide HC]
      exact own_mono (unhide O4) (unhide S4)
end Go.Proofs.YtjdginjohajmaaaGreatDoor.Ske
