/- Skeletons, as the program makes them; LookAlike of the program. -/
import Derived.Test.YtjdginjohajmaaaGreatDoorSkeJ
namespace Go.Proofs.YtjdginjohajmaaaGreatDoor.Ske
open Go.RowKit
set_option linter.unusedVariables false
/-- A text's skeleton. -/
def ske (s : ByteArray) : List Int := nrmL 1 ((nrmL 1 (ptsOut s)).flatMap see)
theorem out_pt (s : ByteArray) : (ptsOut s = pts s ∧ s.size ≤ 65536) ∨ (ptsOut s = [] ∧ 65536 < s.size) := by
  unfold ptsOut
  split
  · exact .inr ⟨rfl, by assumption⟩
  · exact .inl ⟨rfl, by omega⟩
theorem nrm_nil : nrmL 1 [] = [] := by
  have := nrmL_len 1 []
  exact List.length_eq_zero_iff.1 (by simpa using this)
theorem d_bd (s : ByteArray) : (nrmL 1 (ptsOut s)).length ≤ 65536 ∧ ∀ x ∈ nrmL 1 (ptsOut s), 0 ≤ x ∧ x ≤ 1114111 := by
  rcases out_pt s with ⟨e, h⟩ | ⟨e, h⟩
  · rw [e]
    refine ⟨by have := len_d s; omega, fun x hx => ?_⟩
    have := (isPt_iff x).1 (nrm1_pt s x hx)
    omega
  · rw [e, nrm_nil]
    exact ⟨by simp, fun x hx => by cases hx⟩
theorem fl_bd (s : ByteArray) : ((nrmL 1 (ptsOut s)).flatMap see).length ≤ 131072 := by
  have h1 := (d_bd s).1
  have h2 := fl_len (nrmL 1 (ptsOut s))
  omega
theorem fl_take_len (L : List Int) (k : Nat) : ((L.take k).flatMap see).length ≤ 2 * L.length := by
  have h1 := fl_len (L.take k)
  have h2 : (L.take k).length ≤ L.length := by rw [List.length_take]; omega
  omega
theorem ske_len (s : ByteArray) : (ske s).length ≤ 600000 := by
  have h1 := fl_bd s
  have h2 := nrmL_len 1 ((nrmL 1 (ptsOut s)).flatMap see)
  unfold ske
  omega
set_option maxRecDepth 100000 in
set_option maxHeartbeats 2000000 in
theorem skelI (s : ByteArray) (w : World) (ht : TabAt w) (hs : s.size ≤ 1048576) : Calls Tryz.prog 19 #[.string s] w fun e w' => ∃ v, e = .returned v ∧ w'.ownsRow w.heap.size 2 1 v (ske s).length ((ske s).map (Value.int .i64)) ∧ Below w.heap.size w w' := by
  have HT := hide ht
  clear ht
  have CP := hide (fun W => implPointsOf s W hs)
  have hpo : (ptsOut s).length ≤ 131072 := by
    rcases out_pt s with ⟨e, h⟩ | ⟨e, h⟩
    · rw [e]; have := pts_le s; omega
    · rw [e]; simp
  have C1 := hide (fun B n v W h hn => normalI 1 B n v (ptsOut s) W h hn)
  have C2 := hide (fun B n v W h hn => normalI 1 B n v ((nrmL 1 (ptsOut s)).flatMap see) W h hn)
  have hLM := (d_bd s).1
  have HPT := hide (d_bd s).2
  have HL2 := hide (fl_bd s)
  have HC : Hid (ske s = nrmL 1 ((nrmL 1 (ptsOut s)).flatMap see)) := hide rfl
  have HLO := hide hpo
  generalize ske s = Z at *
  generalize ptsOut s = L at *
  generalize hM : nrmL 1 L = M at *
  clear hM hpo
  have HO0 : Hid (w.ownsRow w.heap.size 2 1 (.slice none 0 0) ((M.take 0).flatMap see).length (((M.take 0).flatMap see).map (Value.int .i64))) := hide (World.ownsRow_nil w _ _ _)
  go_enter Tryz.func19, Tryz.ntmps19
  go_wp2_with (first
    | (go_at_call 26; refine ((unhide CP) _).mono ?_; clear CP; rintro e w1 ⟨v1, rfl, ho1, hb1⟩; have O1 := hide ho1; have B1 := hide hb1; clear ho1 hb1)
    | (go_at_call_of 39 v1; refine ((unhide C1) _ _ _ _ (unhide O1) (unhide HLO)).mono ?_; rintro e w2 ⟨v2, rfl, ho2, hb2⟩; have I2 := hide (IntsAt.owned ho2); have O2 := hide ho2; have B2 := hide (j2 (unhide B1) hb2); clear hb2; obtain ⟨a2, c2, rfl, _⟩ := IntsAt.owned ho2; clear ho2))
  have T2 := hide ((unhide HT).below (unhide B2))
  go_loopw [3, 10] (fun lv iv wr => ∃ k : Nat, k ≤ M.length ∧ iv = .int .i64 k ∧ Hid (wr.ownsRow w2.heap.size 2 1 lv ((M.take k).flatMap see).length (((M.take k).flatMap see).map (Value.int .i64))) ∧ Hid (Below w2.heap.size w2 wr)) (fun _ iv _ => M.length - (intOf iv).toNat)
  case atStart => exact ⟨0, Nat.zero_le _, rfl, hide (World.ownsRow_nil w2 _ _ _), hide (Below.refl _ _)⟩
  case round =>
    obtain ⟨k, hk, rfl, HO, HB⟩ := hrel
    clear HO0
    have hBs := (unhide HB).size
    have hkl := fl_take_len M k
    by_cases hlt : k < M.length
    · obtain ⟨b, off, cp, he, hbw, hc⟩ := rd_at (unhide I2) (by omega)
      cases he
      have kc := ((unhide HB).cell (p := ⟨b, off + k, none⟩) hbw).trans (hc k hlt)
      have hbr : b < wr.heap.size := by omega
      have HS := hide (fl_take M k hlt)
      have CA := hide (fun V W hb ho => appI w2 W V ((M.take k).flatMap see) (nth M k) ((unhide HPT) _ (nth_in hlt)) (unhide T2) hb ho (by omega))
      obtain ⟨p, hpk⟩ : ∃ p, nth M k = p := ⟨_, rfl⟩
      rw [hpk] at kc HS CA
      clear hc hpk
      go_wp2_with (go_at_call 40; refine ((unhide CA) _ _ (unhide HB) (unhide HO)).mono ?_; rintro e w3 ⟨v3, rfl, ho3, hb3⟩; have O3 := hide ho3; have B3 := hide hb3; clear ho3 hb3)
      go_roundw
      case rel => exact ⟨k + 1, by omega, by go_num, hide (by rw [unhide HS]; exact unhide O3), B3⟩
      case measure => simp [intOf]; omega
    · obtain rfl : k = M.length := by omega
      rw [List.take_length] at HO
      generalize M.flatMap see = F at *
      go_wp2_with (go_at_call 39; refine ((unhide C2) _ _ _ _ (unhide HO) (unhide HL2)).mono ?_; rintro e w4 ⟨v4, rfl, ho4, hb4⟩; have O4 := hide ho4; have S4 := hide (Nat.le_trans (unhide B2).size hBs); have B4 := hide (j2 (j2 (unhide B2) (unhide HB)) hb4); clear ho4 hb4)
      go_ret
      refine ⟨_, rfl, ?_, unhide B4⟩
      rw [unhide HC]
      exact own_mono (unhide O4) (unhide S4)
def skT (s : ByteArray) : List Int := small (textL (ske s))
set_option maxRecDepth 100000 in
theorem implSke (s : ByteArray) (w : World) (ht : TabAt w) (hs : s.size ≤ 1048576) : Calls Tryz.prog 5 #[.string s] w fun e w' => e = .returned (.string (strOfNums (skT s))) ∧ Below w.heap.size w w' := by
  have C1 := hide (skelI s w ht hs)
  have C2 := hide (fun v W h => boundedI v (ske s) W h (ske_len s))
  have HE : Hid (skT s = small (textL (ske s))) := hide rfl
  clear ht
  generalize skT s = T at *
  generalize small (textL (ske s)) = U at *
  generalize ske s = Z at *
  go_enter Tryz.func5, Tryz.ntmps5
  go_wp2_with (first
    | (go_at_call 19; refine (unhide C1).mono ?_; rintro e w1 ⟨v1, rfl, ho1, hb1⟩; have I1 := hide (IntsAt.owned ho1); have B1 := hide hb1; clear ho1 hb1)
    | (go_at_call 18; refine ((unhide C2) _ _ (unhide I1)).mono ?_; rintro e w2 ⟨rfl, hb2⟩; have B2 := hide (j2 (unhide B1) hb2); clear hb2))
  go_ret
  exact ⟨by rw [unhide HE]; rfl, unhide B2⟩
def alk (a b : ByteArray) : Bool := decide (a.size ≤ 65536) && (decide (b.size ≤ 65536) && sameB (ske a) (ske b))
theorem longI (s : ByteArray) (q : Bool) (w : World) (h : decide (65536 < s.size) = q) : Calls Tryz.prog 23 #[.string s] w fun e w' => e = .returned (.bool q) ∧ w' = w := by
  by_cases hs : 65536 < s.size
  · obtain rfl : q = true := by rw [← h]; exact decide_eq_true hs
    have hs' : (65536 : Int) < (s.size : Int) := by omega
    clear h
    go_enter Tryz.func23, Tryz.ntmps23
    go_wp2
    go_ret
    exact ⟨by first | rfl | exact ret_bool (by simp; omega), rfl⟩
  · obtain rfl : q = false := by rw [← h]; exact decide_eq_false hs
    have hs' : ¬ (65536 : Int) < (s.size : Int) := by omega
    clear h
    go_enter Tryz.func23, Tryz.ntmps23
    go_wp2
    go_ret
    exact ⟨by first | rfl | exact ret_bool (by simp; omega), rfl⟩
set_option maxRecDepth 100000 in
set_option maxHeartbeats 1000000 in
theorem implAlk (a b : ByteArray) (w : World) (ht : TabAt w) : Calls Tryz.prog 7 #[.string a, .string b] w fun e w' => e = .returned (.bool (alk a b)) ∧ Below w.heap.size w w' := by
  have hU : undef = Value.tuple #[] := rfl
  have HT := hide ht
  clear ht
  by_cases ha : a.size ≤ 65536
  · have CX := hide (fun W => longI a false W (decide_eq_false (by omega)))
    by_cases hb : b.size ≤ 65536
    · have CY := hide (fun W => longI b false W (decide_eq_false (by omega)))
      have HE := hide (show alk a b = sameB (ske a) (ske b) by simp [alk, ha, hb])
      have CA := hide (fun W h => skelI a W h (by omega))
      have CB := hide (fun W h => skelI b W h (by omega))
      have HLa := hide (ske_len a)
      have HLb := hide (ske_len b)
      generalize ske a = X at *
      generalize ske b = Y at *
      have TOK : True := trivial
      have TOL : True := trivial
      go_enter Tryz.func7, Tryz.ntmps7
      go_wp2_with (first
        | (clear TOK; go_at_call 23; refine ((unhide CX) _).mono ?_; rintro e w' ⟨rfl, hw⟩; obtain rfl := hw.symm; clear hw)
        | (go_at_call 23; refine ((unhide CY) _).mono ?_; rintro e w' ⟨rfl, hw⟩; obtain rfl := hw.symm; clear hw)
        | (clear TOL; go_at_call 19; refine ((unhide CA) _ (unhide HT)).mono ?_; rintro e w1 ⟨v1, rfl, ho1, hb1⟩; have O1 := hide ho1; have B1 := hide hb1; clear ho1 hb1)
        | (go_at_call 19; refine ((unhide CB) _ ((unhide HT).below (unhide B1))).mono ?_; rintro e w2 ⟨v2, rfl, ho2, hb2⟩; have O2 := hide ho2; have P1 := hide (ownsRow_below (unhide O1) hb2); have B2 := hide (j2 (unhide B1) hb2); clear ho2 hb2)
        | (go_at_call 24; refine (equal_any _ _ X Y _ (IntsAt.owned (unhide P1)) (IntsAt.owned (unhide O2)) (by have := unhide HLa; omega) (by have := unhide HLb; omega)).mono ?_; rintro e w3 ⟨rfl, n3, rfl⟩))
      go_ret
      exact ⟨by rw [unhide HE]; rfl, bdrew (unhide B2) _⟩
    · have CY := hide (fun W => longI b true W (decide_eq_true (by omega)))
      have HE := hide (show alk a b = false by simp [alk, hb])
      have TOK : True := trivial
      go_enter Tryz.func7, Tryz.ntmps7
      go_wp2_with (first
        | (clear TOK; go_at_call 23; refine ((unhide CX) _).mono ?_; rintro e w' ⟨rfl, hw⟩; obtain rfl := hw.symm; clear hw)
        | (go_at_call 23; refine ((unhide CY) _).mono ?_; rintro e w' ⟨rfl, hw⟩; obtain rfl := hw.symm; clear hw))
      go_ret
      exact ⟨by rw [unhide HE]; rfl, Below.refl _ _⟩
  · have CX := hide (fun W => longI a true W (decide_eq_true (by omega)))
    have HE := hide (show alk a b = false by simp [alk, ha])
    go_enter Tryz.func7, Tryz.ntmps7
    go_wp2_with (go_at_call 23; refine ((unhide CX) _).mono ?_; rintro e w' ⟨rfl, hw⟩; obtain rfl := hw.symm; clear hw)
    go_ret
    exact ⟨by rw [unhide HE]; rfl, Below.refl _ _⟩
end Go.Proofs.YtjdginjohajmaaaGreatDoor.Ske
