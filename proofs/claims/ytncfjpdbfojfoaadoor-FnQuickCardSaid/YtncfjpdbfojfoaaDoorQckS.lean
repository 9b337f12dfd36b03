/- QuickCheck of the specification. -/
import Derived.Test.YtncfjpdbfojfoaaDoorQckP
namespace Go.Proofs.YtncfjpdbfojfoaaDoor
open Go.RowKit
theorem secS (p : Int) (w : World) : Calls Tryd.prog 23 #[.int .i64 p] w fun e w' => e = .returned (.bool (isSec p)) ∧ w' = w := by
  rcases (show p < 1824 ∨ (1824 ≤ p ∧ p ≤ 1844) ∨ (1844 < p ∧ p < 1857) ∨ (1857 ≤ p ∧ p ≤ 1883) ∨ (1883 < p ∧ p < 4096) ∨ (4096 ≤ p ∧ p ≤ 4103) ∨ (4103 < p ∧ p < 4112) ∨ (4112 ≤ p ∧ p ≤ 4119) ∨ 4119 < p by omega) with h | ⟨h, h'⟩ | ⟨h, h'⟩ | ⟨h, h'⟩ | ⟨h, h'⟩ | ⟨h, h'⟩ | ⟨h, h'⟩ | ⟨h, h'⟩ | h
  all_goals
    go_enter Tryd.func23, Tryd.ntmps23
    go_wp2
    go_ret
    refine ⟨ret_bool ?_, rfl⟩
    unfold isSec
    first | exact decide_eq_decide.2 (by omega) | exact (decide_eq_true (by omega)).symm | exact (decide_eq_false (by omega)).symm | (rw [Bool.eq_iff_iff]; simp; omega)
/-- One step of the check. -/
theorem q_bad {f za zo p : Int} {l : List Int} (h : qS f l = some (za, zo)) (hb : (clsZ p ≠ 0 ∧ clsZ p < za) ∨ ownB f p = false) : qS f (l ++ [p]) = none := by
  rw [qS_snoc, h]
  show (if _ then _ else _) = _
  rw [if_pos hb]
theorem q_good {f za zo p : Int} {l : List Int} (h : qS f l = some (za, zo)) (hb : ¬ (clsZ p ≠ 0 ∧ clsZ p < za)) (ho : ownB f p = true) : qS f (l ++ [p]) = some (clsZ p, if isC f = true ∧ isSec p = true then 3 else zo) := by
  rw [qS_snoc, h]
  show (if _ then _ else _) = _
  rw [if_neg (by rintro (h | h); exact hb h; rw [ho] at h; cases h)]
theorem own_lit1 (W : World) (p : Int) : (W.alloc (.cells #[.int .i64 p] 2)).ownsRow W.heap.size 2 1 (.slice (some ⟨W.heap.size, 0, none⟩) 1 1) 1 ([p].map (Value.int .i64)) := World.ownsRow_lit W #[.int .i64 p] 1 (Nat.le_refl _) (by unfold maxLen; omega) rfl
set_option maxHeartbeats 4000000 in
set_option maxRecDepth 100000 in
theorem quickS (f : Int) (s : ByteArray) (w : World) (hs : s.size ≤ 65536) (hf : isF f = true) :
    Calls Tryd.prog 6 #[.int .i64 f, .string s] w fun e w' => e = .returned (.int .i64 (qckOut f s)) ∧ Below w.heap.size w w' := by
  have CF := hide (fun W => isFormS f W)
  have CC := hide (fun W => isCS f W hf)
  have CN := hide (fun (W : World) (B0 : Nat) (v : Value) (p : Int) (ho : W.ownsRow B0 2 1 v 1 ([p].map (Value.int .i64))) (hp : 0 ≤ p ∧ p ≤ 1114111) => normS f B0 1 v [p] W ho (fun q hq => by rw [List.mem_singleton] at hq; rw [hq]; exact hp) hf (by omega))
  have HNo := hide (fun (h : vB s = false ∨ qS f (pts s) = none) => qck_no hs hf h)
  have HYes := hide (fun (a o : Int) (h : vB s = true) (h3 : qS f (pts s) = some (a, o)) => qck_yes hs hf h h3)
  rw [hf] at CF
  clear hf
  generalize qckOut f s = R at *
  go_enter Tryd.func6, Tryd.ntmps6
  go_wp2_with (go_at_call 18; refine ((unhide CF) _).mono ?_; rintro e w1 ⟨rfl, rfl⟩)
  go_loopw [5, 6, 7] (fun av ov iv wr => ∃ (k pos : Nat) (za zo : Int), av = .int .i64 za ∧ ov = .int .i64 zo ∧ iv = .int .i64 pos ∧ pos ≤ s.size ∧ Hid ((steps s k).2 = pos ∧ okTo s k ∧ qS f (steps s k).1 = some (za, zo)) ∧ Hid (Below w1.heap.size w1 wr)) (fun _ _ iv _ => s.size - (intOf iv).toNat)
  case atStart => exact ⟨0, 0, 0, 1, rfl, rfl, rfl, Nat.zero_le _, hide ⟨rfl, okTo_zero s, rfl⟩, hide (Below.refl _ _)⟩
  case round =>
    obtain ⟨k, pos, za, zo, rfl, rfl, rfl, hpos, HI, HB⟩ := hrel
    by_cases hlt : pos < s.size
    · have hlt' : (pos : Int) < (s.size : Int) := by omega
      have hpd := dN_bd s pos hlt
      have CX := hide (fun W => NB.next_any s pos W hlt (by omega))
      have HSt : Hid (steps s (k + 1) = ((steps s k).1 ++ [(dP s pos : Int)], pos + dN s pos)) := hide (by
        obtain ⟨e, _⟩ := unhide HI
        have := steps_next s k (by rw [e]; exact hlt)
        rw [e] at this
        exact this)
      have HPre := hide (pts_pre s (k + 1))
      cases hok : NB.okB (dP s pos : Int) (dN s pos : Int) with
      | false =>
        have HR : Hid (R = 2) := hide ((unhide HNo) (.inl (by
          obtain ⟨e, h1, _⟩ := unhide HI
          exact valid_bad h1 (by rw [e]; exact hlt) (by rw [e]; exact hok))))
        clear HI HSt HPre HNo HYes
        generalize dP s pos = p at *
        generalize dN s pos = d at *
        go_wp2_with fail
        refine ((unhide CX) _).mono ?_
        rintro e w2 ⟨he, hb2⟩
        unfold NB.Ok3 at he
        rw [hok] at he
        subst he
        have B2 := hide ((unhide HB).trans (hb2.mono (unhide HB).size))
        clear hb2 HB CX hok
        go_wp2_with (go_at_call 20; refine (clsS _ _).mono ?_; rintro e w3 ⟨rfl, rfl⟩)
        go_ret
        exact ⟨ret_int (unhide HR).symm, unhide B2⟩
      | true =>
        have HK : Hid (okTo s (k + 1)) := hide (by
          obtain ⟨e, h1, _⟩ := unhide HI
          exact okTo_succ h1 (fun _ => by rw [e]; exact hok))
        have HQ : Hid (∀ (q : Option (Int × Int)), qS f ((steps s k).1 ++ [(dP s pos : Int)]) = q → qS f (steps s (k + 1)).1 = q) := hide (fun q h => by rw [unhide HSt]; exact h)
        have HNone : Hid (qS f ((steps s k).1 ++ [(dP s pos : Int)]) = none → R = 2) := hide (fun h => by
          refine (unhide HNo) (.inr ?_)
          obtain ⟨m, e⟩ := unhide HPre
          rw [e]
          exact qS_pre m ((unhide HQ) _ h))
        have H2 : Hid ((steps s (k + 1)).2 = pos + dN s pos) := hide (by rw [unhide HSt])
        have HS0 : Hid (qS f (steps s k).1 = some (za, zo)) := hide (unhide HI).2.2
        have hown := own_iff f (dP s pos : Int) (by omega)
        have HOw := hide hown
        have hp0 : (0 : Int) ≤ (dP s pos : Int) ∧ (dP s pos : Int) ≤ 1114111 := by omega
        have hd1 : 1 ≤ dN s pos := hpd.1
        have hd2 : pos + dN s pos ≤ s.size := hpd.2.1
        clear HI HSt HPre HNo HYes hown hpd
        generalize (dP s pos : Int) = p at *
        generalize dN s pos = d at *
        go_wp2_with fail
        refine ((unhide CX) _).mono ?_
        rintro e w2 ⟨he, hb2⟩
        unfold NB.Ok3 at he
        rw [hok] at he
        subst he
        have B2 := hide ((unhide HB).trans (hb2.mono (unhide HB).size))
        clear hb2 HB CX hok
        have CL := hide (clsS p w2)
        have HB1 := hide (fun h => q_bad (p := p) (unhide HS0) (.inl h))
        have HB2 := hide (fun h => q_bad (p := p) (unhide HS0) (.inr h))
        have HG := hide (fun h ho => q_good (p := p) (unhide HS0) h ho)
        generalize clsZ p = c at *
        by_cases hbad : c ≠ 0 ∧ c < za
        · have HR := hide ((unhide HNone) ((unhide HB1) hbad))
          have t1 : (c == 0) = false := by simpa using hbad.1
          have t2 : (c != 0) = true := by simpa using hbad.1
          have t3 := hbad.2
          clear HNone HB1 HB2 HG hbad
          go_wp2_with (go_at_call 20; refine (unhide CL).mono ?_; rintro e w3 ⟨rfl, rfl⟩)
          go_ret
          exact ⟨ret_int (unhide HR).symm, unhide B2⟩
        · have HGo := hide ((unhide HG) hbad)
          have htest : (c != 0) = false ∨ ((c != 0) = true ∧ ¬ c < za) := by
            by_cases e : c = 0
            · exact .inl (by simpa using e)
            · exact .inr ⟨by simpa using e, fun h => hbad ⟨e, h⟩⟩
          clear HB1 HG hbad
          have CNp := hide (fun (W : World) => (unhide CN) (W.alloc (.cells #[.int .i64 p] 2)) W.heap.size _ p (own_lit1 W p) hp0)
          clear CN
          have CS := hide (fun W => secS p W)
          generalize nrmL f [p] = Y at *
          rcases htest with t1 | ⟨t1, t2⟩
          all_goals
            go_wp2_with (go_at_call 20; refine (unhide CL).mono ?_; rintro e w3 ⟨rfl, rfl⟩)
            refine ((unhide CNp) _).mono ?_
            rintro e w4 ⟨v, rfl, ho4, hb4⟩
            have B4 := hide (((unhide B2).trans ((one_below w3 _).mono (unhide B2).size)).trans (hb4.mono (by have := (unhide B2).size; simp; omega)))
            have O4 := hide ho4
            clear ho4 hb4 CNp CL B2
            cases hob : ownB f p with
            | false =>
              have HR := hide ((unhide HNone) ((unhide HB2) hob))
              by_cases hm : Y.length = 1
              · obtain ⟨y, rfl⟩ := List.length_eq_one_iff.1 hm
                have hy : ¬ y = p := fun e => by
                  have := (unhide HOw).1 (by rw [e])
                  rw [hob] at this
                  cases this
                obtain ⟨g, cap, hv⟩ := own_pos (unhide O4) (by simp)
                subst hv
                have c0 : w4.cell? ⟨g, 0, none⟩ = some (.int .i64 y) := cell_at (unhide O4) 0 (by simp)
                have t5 : (y != p) = true := by simpa using hy
                clear HOw HNone HB2 HGo O4 hm hob
                go_wp2
                go_ret
                exact ⟨ret_int (unhide HR).symm, unhide B4⟩
              · obtain ⟨a, cap, hv⟩ := form_ownI (unhide O4)
                subst hv
                have t5 : ((Y.length : Int) != 1) = true := by simp; omega
                clear HOw HNone HB2 HGo O4 hm hob
                generalize Y.length = yl at *
                go_wp2
                go_ret
                exact ⟨ret_int (unhide HR).symm, unhide B4⟩
            | true =>
              have hY := (unhide HOw).2 hob
              subst hY
              obtain ⟨g, cap, hv⟩ := own_pos (unhide O4) (by simp)
              subst hv
              have c0 : w4.cell? ⟨g, 0, none⟩ = some (.int .i64 p) := cell_at (unhide O4) 0 (by simp)
              have HF := hide ((unhide HQ) _ ((unhide HGo) hob))
              have hbs : w3.heap.size ≤ w4.heap.size := by have := (unhide O4).lt g rfl; simp at this; omega
              clear HOw HNone HB2 HGo O4 hob HQ
              cases hc : isC f with
              | false =>
                have HF2 : Hid (qS f (steps s (k + 1)).1 = some (c, zo)) := hide (by rw [unhide HF, if_neg (by rw [hc]; simp)])
                rw [hc] at CC
                go_wp2_with (go_at_call 22; refine ((unhide CC) _).mono ?_; rintro e w5 ⟨rfl, rfl⟩)
                go_roundw
                case rel => exact ⟨k + 1, pos + d, c, zo, rfl, rfl, by go_num, hd2, hide ⟨unhide H2, unhide HK, unhide HF2⟩, B4⟩
                case measure => simp [intOf]; omega
              | true =>
                rw [hc] at CC
                cases hsc : isSec p with
                | false =>
                  have HF2 : Hid (qS f (steps s (k + 1)).1 = some (c, zo)) := hide (by rw [unhide HF, if_neg (by rw [hsc]; simp)])
                  rw [hsc] at CS
                  go_wp2_with (first | (go_at_call 22; refine ((unhide CC) _).mono ?_; rintro e w5 ⟨rfl, rfl⟩) | (go_at_call 23; refine ((unhide CS) _).mono ?_; rintro e w6 ⟨rfl, rfl⟩))
                  go_roundw
                  case rel => exact ⟨k + 1, pos + d, c, zo, rfl, rfl, by go_num, hd2, hide ⟨unhide H2, unhide HK, unhide HF2⟩, B4⟩
                  case measure => simp [intOf]; omega
                | true =>
                  have HF2 : Hid (qS f (steps s (k + 1)).1 = some (c, 3)) := hide (by rw [unhide HF, if_pos ⟨hc, hsc⟩])
                  rw [hsc] at CS
                  go_wp2_with (first | (go_at_call 22; refine ((unhide CC) _).mono ?_; rintro e w5 ⟨rfl, rfl⟩) | (go_at_call 23; refine ((unhide CS) _).mono ?_; rintro e w6 ⟨rfl, rfl⟩))
                  go_roundw
                  case rel => exact ⟨k + 1, pos + d, c, 3, rfl, rfl, by go_num, hd2, hide ⟨unhide H2, unhide HK, unhide HF2⟩, B4⟩
                  case measure => simp [intOf]; omega
    · have hge : ¬ (pos : Int) < (s.size : Int) := by omega
      have HR : Hid (R = zo) := hide (by
        obtain ⟨e, h1, h2⟩ := unhide HI
        refine (unhide HYes) za zo (valid_end h1 (by omega)) ?_
        rw [← steps_pts s k (by omega)]
        exact h2)
      clear HI HNo HYes CN
      go_wp2
      go_ret
      exact ⟨ret_int (unhide HR).symm, unhide HB⟩
set_option maxRecDepth 100000 in
theorem specQuick (f : Int) (s : ByteArray) (w : World) (hs1 : s.size ≤ 1048576) :
    Calls Tryd.prog 6 #[.int .i64 f, .string s] w fun e w' => e = .returned (.int .i64 (qckOut f s)) ∧ Below w.heap.size w w' := by
  by_cases hs : 65536 < s.size
  · have HE : Hid (qckOut f s = 0) := hide (by unfold qckOut; rw [if_pos (.inl hs)])
    go_enter Tryd.func6, Tryd.ntmps6
    go_wp2
    go_ret
    exact ⟨ret_int (unhide HE).symm, Below.refl _ _⟩
  · cases hf : isF f with
    | false =>
      have hs2 : s.size ≤ 65536 := by omega
      have HE : Hid (qckOut f s = 0) := hide (by unfold qckOut; rw [if_pos (.inr hf)])
      have CF := hide (fun W => isFormS f W)
      rw [hf] at CF
      clear hf
      go_enter Tryd.func6, Tryd.ntmps6
      go_wp2_with (go_at_call 18; refine ((unhide CF) _).mono ?_; rintro e w1 ⟨rfl, rfl⟩)
      go_ret
      exact ⟨ret_int (unhide HE).symm, Below.refl _ _⟩
    | true => exact quickS f s w (by omega) hf
end Go.Proofs.YtncfjpdbfojfoaaDoor
