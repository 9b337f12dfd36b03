/- Several texts in one. -/
import Derived.Test.YtiodngmbpnkoeaaDoorLowL
/- Words of Title, in plain numbers, and the functions that tell of a point. -/
namespace Go.Proofs.YtiodngmbpnkoeaaDoor
namespace Cas
open Go.RowKit
/-- A point may stand in a word of Title. -/
def inW (p : Int) : Bool := Chr.cat p == 3 || Chr.cat p == 4 || Chr.cat p == 5 || Chr.cat p == 6 || Chr.cat p == 7 || Chr.cat p == 8 || p == 39
/-- A word's first letter with case: the program's way, the specification's. -/
def tiI (p : Int) : List Int := if tw p = 608 then [530 + p - tw p, 562 + p - tw p] else [titS p]
def tiS (p : Int) : List Int := if 0 < bl p ∧ p = bl p + 96 then [bl p + 18, bl p + 50] else [titS p]
theorem ti_eq (p : Int) : tiI p = tiS p := by
  unfold tiI tiS
  rcases tw_bl p with ⟨h1, h2, e1, e2⟩ | ⟨h1, e1, e2⟩
  · rw [e1, e2]
    by_cases c1 : p % 256 = 96
    · rw [if_pos (by omega), if_pos (by omega), show 530 + p - (512 + p % 256) = p - p % 256 + 18 by omega, show 562 + p - (512 + p % 256) = p - p % 256 + 50 by omega]
    · rw [if_neg (by omega), if_neg (by omega)]
  · rw [e1, e2, if_neg (by omega), if_neg (by omega)]
theorem ti_len (p : Int) : (tiI p).length ≤ 2 := by unfold tiI; split <;> simp
/-- Whether a word has begun ahead of point k. -/
def ttb (L : List Int) : Nat → Bool
  | 0 => false
  | k + 1 => inW (nth L k) && (ttb L k || cas (nth L k))
/-- What point k becomes. -/
def tt1 (L : List Int) (k : Nat) : List Int := if inW (nth L k) = false then [nth L k] else if ttb L k = true then [loI L k] else if cas (nth L k) = true then tiI (nth L k) else [nth L k]
def ttk (L : List Int) : Nat → List Int
  | 0 => []
  | k + 1 => ttk L k ++ tt1 L k
theorem tt1_len (L : List Int) (k : Nat) : (tt1 L k).length ≤ 2 := by
  unfold tt1
  split
  · simp
  · split
    · simp
    · split
      · exact ti_len _
      · simp
theorem ttk_len (L : List Int) (k : Nat) : (ttk L k).length ≤ 2 * k := by
  induction k with
  | zero => exact Nat.le_refl _
  | succ k ih =>
    have := tt1_len L k
    unfold ttk
    rw [List.length_append]
    omega
set_option maxRecDepth 100000 in
set_option maxHeartbeats 1000000 in
theorem inW_i (p : Int) (w : World) (ht : TabAt w) : Calls Tryd.prog 31 #[.int .i64 p] w fun e w' => e = .returned (.bool (inW p)) ∧ Below w.heap.size w w' := by
  have C := hide (catI_any p w ht)
  clear ht
  have HE : Hid (inW p = (Chr.cat p == 3 || Chr.cat p == 4 || Chr.cat p == 5 || Chr.cat p == 6 || Chr.cat p == 7 || Chr.cat p == 8 || p == 39)) := hide rfl
  generalize inW p = D at *
  generalize Chr.cat p = c at *
  cases h3 : (c == 3)
  · cases h4 : (c == 4)
    · cases h5 : (c == 5)
      · cases h6 : (c == 6)
        · cases h7 : (c == 7)
          · cases h8 : (c == 8)
            · rw [h3, h4, h5, h6, h7, h8] at HE
              go_enter Tryd.func31, Tryd.ntmps31
              go_wp2_with (go_at_call 54; refine (unhide C).mono ?_; rintro e w2 ⟨rfl, hb2⟩)
              go_ret
              exact ⟨by rw [unhide HE]; rfl, hb2⟩
            · rw [h3, h4, h5, h6, h7, h8] at HE
              go_enter Tryd.func31, Tryd.ntmps31
              go_wp2_with (go_at_call 54; refine (unhide C).mono ?_; rintro e w2 ⟨rfl, hb2⟩)
              go_ret
              exact ⟨by rw [unhide HE]; rfl, hb2⟩
          · rw [h3, h4, h5, h6, h7] at HE
            go_enter Tryd.func31, Tryd.ntmps31
            go_wp2_with (go_at_call 54; refine (unhide C).mono ?_; rintro e w2 ⟨rfl, hb2⟩)
            go_ret
            exact ⟨by rw [unhide HE]; simp, hb2⟩
        · rw [h3, h4, h5, h6] at HE
          go_enter Tryd.func31, Tryd.ntmps31
          go_wp2_with (go_at_call 54; refine (unhide C).mono ?_; rintro e w2 ⟨rfl, hb2⟩)
          go_ret
          exact ⟨by rw [unhide HE]; simp, hb2⟩
      · rw [h3, h4, h5] at HE
        go_enter Tryd.func31, Tryd.ntmps31
        go_wp2_with (go_at_call 54; refine (unhide C).mono ?_; rintro e w2 ⟨rfl, hb2⟩)
        go_ret
        exact ⟨by rw [unhide HE]; simp, hb2⟩
    · rw [h3, h4] at HE
      go_enter Tryd.func31, Tryd.ntmps31
      go_wp2_with (go_at_call 54; refine (unhide C).mono ?_; rintro e w2 ⟨rfl, hb2⟩)
      go_ret
      exact ⟨by rw [unhide HE]; simp, hb2⟩
  · rw [h3] at HE
    go_enter Tryd.func31, Tryd.ntmps31
    go_wp2_with (go_at_call 54; refine (unhide C).mono ?_; rintro e w2 ⟨rfl, hb2⟩)
    go_ret
    exact ⟨by rw [unhide HE]; simp, hb2⟩
theorem inW_cas (p : Int) : inW p = (Chr.cat p == 3 || Chr.cat p == 7 || Chr.cat p == 8 || p == 39 || cas p) := by
  unfold inW cas
  cases Chr.cat p == 3 <;> cases Chr.cat p == 4 <;> cases Chr.cat p == 5 <;> cases Chr.cat p == 6 <;> cases Chr.cat p == 7 <;> cases Chr.cat p == 8 <;> cases p == 39 <;> rfl
set_option maxRecDepth 100000 in
set_option maxHeartbeats 1000000 in
theorem inW_s (p : Int) (w : World) : Calls Tryd.prog 34 #[.int .i64 p] w fun e w' => e = .returned (.bool (inW p)) ∧ Below w.heap.size w w' := by
  have C := hide (catS_any p w)
  have CC := hide (fun W => cased_c p W)
  have HE := hide (inW_cas p)
  generalize inW p = D at *
  generalize cas p = E at *
  generalize Chr.cat p = c at *
  cases h3 : (c == 3)
  · cases h7 : (c == 7)
    · cases h8 : (c == 8)
      · cases h9 : (p == 39)
        · rw [h3, h7, h8, h9] at HE
          go_enter Tryd.func34, Tryd.ntmps34
          go_wp2_with (first | (go_at_call 55; refine (unhide C).mono ?_; rintro e w2 ⟨rfl, hb2⟩; have B2 := hide hb2; clear hb2) | (go_at_call 35; refine ((unhide CC) _).mono ?_; rintro e w3 ⟨rfl, hb3⟩; have B3 := hide (join2 (unhide B2) hb3); clear hb3))
          go_ret
          exact ⟨by rw [unhide HE]; rfl, unhide B3⟩
        · rw [h3, h7, h8, h9] at HE
          go_enter Tryd.func34, Tryd.ntmps34
          go_wp2_with (go_at_call 55; refine (unhide C).mono ?_; rintro e w2 ⟨rfl, hb2⟩)
          go_ret
          exact ⟨by rw [unhide HE]; simp, hb2⟩
      · rw [h3, h7, h8] at HE
        go_enter Tryd.func34, Tryd.ntmps34
        go_wp2_with (go_at_call 55; refine (unhide C).mono ?_; rintro e w2 ⟨rfl, hb2⟩)
        go_ret
        exact ⟨by rw [unhide HE]; simp, hb2⟩
    · rw [h3, h7] at HE
      go_enter Tryd.func34, Tryd.ntmps34
      go_wp2_with (go_at_call 55; refine (unhide C).mono ?_; rintro e w2 ⟨rfl, hb2⟩)
      go_ret
      exact ⟨by rw [unhide HE]; simp, hb2⟩
  · rw [h3] at HE
    go_enter Tryd.func34, Tryd.ntmps34
    go_wp2_with (go_at_call 55; refine (unhide C).mono ?_; rintro e w2 ⟨rfl, hb2⟩)
    go_ret
    exact ⟨by rw [unhide HE]; simp, hb2⟩
set_option maxRecDepth 100000 in
set_option maxHeartbeats 1000000 in
theorem tit_any (p : Int) (w : World) (h0 : 0 ≤ p) (h1 : p ≤ 1114111) : Calls Tryd.prog 29 #[.int .i64 p, .int .i64 1] w fun e w' => e = .returned (.int .i64 (titS p)) ∧ Below w.heap.size w w' := by
  have CT := hide (fun W => three_any p W h0 h1)
  have CK := hide (fun W => block_any p W h0 h1)
  obtain ⟨bb0, bb1⟩ := bl_in h0 h1
  have HU := hide (show titS p = if 0 < bl p ∧ p = bl p + 97 then bl p + 18 else (match three p with | some r => r.2.1 | none => p) from rfl)
  obtain ⟨b, hb⟩ : ∃ b, bl p = b := ⟨_, rfl⟩
  rw [hb] at CK HU bb0 bb1
  clear hb
  by_cases c1 : 0 < b ∧ p = b + 97
  · rw [if_pos c1] at HU
    obtain ⟨c1, c2⟩ := c1
    have c3 : (p == b + 97) = true := by simp [c2]
    clear c2
    go_enter Tryd.func29, Tryd.ntmps29
    go_wp2_with (go_at_call 47; refine ((unhide CK) _).mono ?_; rintro e w3 ⟨rfl, rfl⟩)
    go_ret
    exact ⟨by rw [unhide HU]; rfl, Below.refl _ _⟩
  · rw [if_neg c1] at HU
    have d1 : ¬ 0 < b ∨ (0 < b ∧ (p == b + 97) = false) := by
      by_cases h : 0 < b
      · exact .inr ⟨h, by simp; intro e; exact c1 ⟨h, e⟩⟩
      · exact .inl h
    clear c1
    cases h3 : three p with
    | some r =>
      obtain ⟨x, y, z⟩ := r
      rw [h3] at CT HU
      unfold rowV at CT
      simp only [Option.getD_some, Option.isSome_some] at CT
      clear h3
      rcases d1 with d1 | ⟨d1, d2⟩
      all_goals
        go_enter Tryd.func29, Tryd.ntmps29
        go_wp2_with (first | (go_at_call 47; refine ((unhide CK) _).mono ?_; rintro e w2 ⟨rfl, rfl⟩) | (go_at_call 52; refine ((unhide CT) _).mono ?_; rintro e w3 ⟨rfl, hb3⟩))
        go_ret
        exact ⟨by rw [unhide HU]; rfl, hb3.alloc hb3.size _⟩
    | none =>
      rw [h3] at CT HU
      unfold rowV at CT
      simp only [Option.getD_none, Option.isSome_none] at CT
      clear h3
      rcases d1 with d1 | ⟨d1, d2⟩
      all_goals
        go_enter Tryd.func29, Tryd.ntmps29
        go_wp2_with (first | (go_at_call 47; refine ((unhide CK) _).mono ?_; rintro e w2 ⟨rfl, rfl⟩) | (go_at_call 52; refine ((unhide CT) _).mono ?_; rintro e w3 ⟨rfl, hb3⟩))
        go_ret
        exact ⟨by rw [unhide HU]; rfl, hb3.alloc hb3.size _⟩
theorem fieldB (x y z : Int) (w : World) : (Instr.field 53 (.agg #[.int .i64 x, .int .i64 y, .int .i64 z]) 1).run Tryd.prog w = .ok (.int .i64 y) w := by kernel_rfl
theorem own_inc {w : World} {B B2 n : Nat} {e : TypeId} {v : Value} {xs : List Value} (h : w.ownsRow B2 e 1 v n xs) (hb : B ≤ B2) : w.ownsRow B e 1 v n xs := by
  refine ⟨h.1, ?_⟩
  rcases h.2 with h' | ⟨g, cap, cur, hv, hg, r⟩
  · exact .inl h'
  · exact .inr ⟨g, cap, cur, hv, Nat.le_trans hb hg, r⟩
set_option maxRecDepth 100000 in
set_option maxHeartbeats 2000000 in
/-- The first letter of a word put behind a row of the caller's own. -/
theorem appTitle (base : Nat) (v : Value) (R : List Int) (p : Int) (w : World) (ho : w.ownsRow base 2 1 v R.length (R.map (Value.int .i64))) (hb : base ≤ w.heap.size) (hR : R.length ≤ 200000) (hp : isPt p = true) (ht : BlkAt w) :
    Calls Tryd.prog 33 #[v, .int .i64 p] w fun e w' => ∃ v', e = .returned v' ∧ w'.ownsRow base 2 1 v' (R ++ tiI p).length ((R ++ tiI p).map (Value.int .i64)) ∧ Below base w w' := by
  obtain ⟨i0, hi, hz0, hz1, hz2⟩ := info_parts info2
  have f := fieldB
  have HPT := hide (pt_of hp)
  have HT := hide ht
  have HO := hide ho
  clear ho ht hp
  have CT := hide (fun W => tw_any p W)
  have CI := hide (fun t W h1 h2 => inScript_any p t W (unhide HPT).1 (unhide HPT).2.1 h1 h2)
  have C := hide (fun W => caseRow_any p W (unhide HPT))
  rw [row_is p (unhide HPT).1] at C
  unfold rowV at C
  simp only at C
  have HF : Hid (tiI p = if tw p = 608 then [530 + p - tw p, 562 + p - tw p] else [titS p]) := hide rfl
  generalize tiI p = S at *
  obtain ⟨q, hq⟩ : ∃ q, tw p = q := ⟨_, rfl⟩
  rw [hq] at CT CI HF
  clear hq
  generalize titS p = z at *
  by_cases c1 : q = 608
  · rw [if_pos c1] at HF
    have c1' : (q == 608) = true := by simp [c1]
    clear c1
    go_enter Tryd.func33, Tryd.ntmps33
    go_wp2_with (first | (go_at_call 24; refine ((unhide CT) _).mono ?_; rintro e w9 ⟨rfl, hw9⟩; obtain rfl := hw9.symm; clear hw9) | (go_at_call 25; refine ((unhide CI) _ _ (by decide) (by decide)).mono ?_; rintro e w9 ⟨rfl, hw9⟩; obtain rfl := hw9.symm; clear hw9) | (at_builtin; refine wpList_append_own _ rfl _ _ 32 rfl base 2 i0 (.int .i64 0) 1 8 Tryd.underlying32 hi hz0 hz1 hz2 rfl (by decide) _ _ _ rfl (owned_alloc (unhide HO) _) ⟨w.heap.size, 0, none⟩ 2 2 [.int .i64 (530 + p - q), .int .i64 (562 + p - q)] rfl rfl (two_new _ _ _ _) (by intro u hu; simp at hu; rcases hu with rfl | rfl <;> rfl) (by unfold maxLen; omega) (by omega) (by simp; omega) ?_))
    intro v' w3 hown' hgrow _
    have RR := hide (row_many (R := R) (S := [530 + p - q, 562 + p - q]) (Below.refl base w) (Below.refl _ _) (by omega) (unhide HO) hown' (by simp) hgrow)
    clear hown' hgrow
    go_wp2
    go_ret
    exact ⟨_, rfl, by rw [unhide HF]; exact (unhide RR).1, (unhide RR).2⟩
  · rw [if_neg c1] at HF
    have c1' : (q == 608) = false := by simp [c1]
    clear c1
    go_enter Tryd.func33, Tryd.ntmps33
    go_wp2_with (first | (go_at_call 24; refine ((unhide CT) _).mono ?_; rintro e w9 ⟨rfl, hw9⟩; obtain rfl := hw9.symm; clear hw9) | (go_at_call 50; refine ((unhide C) _ (unhide HT)).mono ?_; rintro e w2 ⟨rfl, hb2⟩; have O2 := hide (ownsRow_below (unhide HO) hb2); have B2 := hide (hb2.mono hb); have z2 := hb2.size; clear hb2) | (at_builtin; refine wpList_append_own _ rfl _ _ 32 rfl base 2 i0 (.int .i64 0) 1 8 Tryd.underlying32 hi hz0 hz1 hz2 rfl (by decide) _ _ _ rfl (owned_alloc (unhide O2) _) ⟨w2.heap.size, 0, none⟩ 1 1 [.int .i64 z] rfl rfl (cell_one_new _ _ _) (by intro u hu; simp at hu; subst hu; rfl) (by unfold maxLen; omega) (by omega) (by simp; omega) ?_))
    intro v' w3 hown' hgrow _
    have RR := hide (row_many (R := R) (S := [z]) (Below.refl base w) (unhide B2) (by omega) (unhide O2) hown' (by simp) hgrow)
    clear hown' hgrow
    go_wp2
    go_ret
    exact ⟨_, rfl, by rw [unhide HF]; exact (unhide RR).1, (unhide RR).2⟩
end Cas
end Go.Proofs.YtiodngmbpnkoeaaDoor
/- Title of a text, as the program and the specification tell it; the law of Title. -/
namespace Go.Proofs.YtiodngmbpnkoeaaDoor
namespace Cas
open Go.RowKit
def titleT (s : ByteArray) : List Int := Go.Proofs.YtiodngmbpnkoeaaDoor.small (textL (ttk (ptsOut s) (ptsOut s).length))
set_option maxRecDepth 100000 in
set_option maxHeartbeats 8000000 in
theorem implTitleT (s : ByteArray) (w : World) (ht : Both w) (hs : s.size ≤ 1048576) : Calls Tryd.prog 11 #[.string s] w fun e w' => e = .returned (.string (strOfNums (titleT s))) ∧ Below w.heap.size w w' := by
  obtain ⟨i0, hi, hz0, hz1, hz2⟩ := info_parts info2
  have HT := hide ht
  clear ht
  have CP := hide (fun W => implPointsOf s W hs)
  have CX := hide (fun v W h => boundedI v (ttk (ptsOut s) (ptsOut s).length) W h (by have h1 := ttk_len (ptsOut s) (ptsOut s).length; have := ptsOut_le s; omega))
  have HL := hide (ptsOut_le s)
  have HP := hide (ptsOut_pt s)
  have HU : Hid (titleT s = Go.Proofs.YtiodngmbpnkoeaaDoor.small (textL (ttk (ptsOut s) (ptsOut s).length))) := hide rfl
  generalize ptsOut s = L at *
  generalize titleT s = T at *
  have hL := unhide HL
  clear HL
  go_enter Tryd.func11, Tryd.ntmps11
  go_upto_region 2 with (go_at_call 19; refine ((unhide CP) _).mono ?_; rintro e w1 ⟨v1, rfl, ho1, hb1⟩; have HV := hide (IntsAt.owned ho1); have B1 := hide hb1; clear hb1; obtain ⟨a, cap, rfl, _⟩ := IntsAt.owned ho1; clear ho1)
  have HT1 := hide ((unhide HT).below (unhide B1))
  go_wp2_with (at_make; refine wpList_make_own _ rfl _ _ 32 rfl w1.heap.size 2 i0 (.int .i64 0) 1 Tryd.underlying32 hi hz0 hz1 .i64 .i64 _ L.length rfl rfl rfl (by rw [hz2]; omega) (by unfold maxLen; omega) (by omega) ?_)
  intro w2 hown hgrow
  have HO0 : Hid (w2.ownsRow w1.heap.size 2 1 (.slice (some ⟨w1.heap.size, 0, none⟩) 0 L.length) (ttk L 0).length ((ttk L 0).map (Value.int .i64))) := hide (by simpa [ttk] using hown)
  have HB0 : Hid (Below w1.heap.size w1 w2) := hide ((Below.refl _ _).grown hgrow (Nat.le_refl _) (fun k hk => by cases hk))
  clear hown hgrow
  go_wp2
  go_loopw [4, 5, 15] (fun v' y x wr => ∃ k : Nat, x = .int .i64 k ∧ y = .bool (ttb L k) ∧ k ≤ L.length ∧ Hid (wr.ownsRow w1.heap.size 2 1 v' (ttk L k).length ((ttk L k).map (Value.int .i64))) ∧ Hid (Below w1.heap.size w1 wr)) (fun _ _ x _ => L.length - (intOf x).toNat)
  case atStart => exact ⟨0, rfl, rfl, by omega, HO0, HB0⟩
  case round =>
    obtain ⟨k, rfl, rfl, hk, HO, HB⟩ := hrel
    clear HO0 HB0
    have hBs := (unhide HB).size
    have hkl := ttk_len L k
    have HTB : Hid (ttb L (k + 1) = (inW (nth L k) && (ttb L k || cas (nth L k)))) := hide rfl
    have HTK : Hid (ttk L (k + 1) = ttk L k ++ tt1 L k) := hide rfl
    have HT1K : Hid (tt1 L k = if inW (nth L k) = false then [nth L k] else if ttb L k = true then [loI L k] else if cas (nth L k) = true then tiI (nth L k) else [nth L k]) := hide rfl
    generalize ttb L k = b1 at *
    generalize tt1 L k = tk1 at *
    by_cases hlt : k < L.length
    · obtain ⟨b, off, cp, he, hbw, hc⟩ := rd_at (unhide HV) (by omega)
      cases he
      have kc := hide (fun i (hi : i < L.length) => ((unhide HB).cell (p := ⟨b, off + i, none⟩) hbw).trans (hc i hi))
      have c0 := (unhide kc) k hlt
      have hbr : b < wr.heap.size := by omega
      have HPK := hide ((unhide HP) _ (mem_nth hlt))
      have HT2 := hide ((unhide HT1).below (unhide HB))
      have CA := hide (fun W h1 h2 h3 => lowAtI b off cap k L W h1 h2 (by omega) hlt ((unhide HP) _ (mem_nth hlt)) h3)
      generalize loI L k = lo at *
      obtain ⟨p, hp⟩ : ∃ p, nth L k = p := ⟨_, rfl⟩
      rw [hp] at c0 HPK HTB HT1K
      clear hc hp
      have CW := hide (inW_i p wr (unhide HT2).1)
      have CC := hide (fun W h => hasCase_any p W h)
      have CT := hide (fun v W h1 h2 h3 => appTitle w1.heap.size v (ttk L k) p W h1 h2 (by omega) (unhide HPK) h3)
      generalize ttk L k = R at *
      cases hw : inW p
      · rw [hw] at CW HTB HT1K
        have HB2 : Hid (ttb L (k + 1) = false) := hide (by rw [unhide HTB]; rfl)
        have HK2 : Hid (tk1 = [p]) := hide (by rw [unhide HT1K, if_pos rfl])
        clear HTB HT1K
        go_wp2_with (first | (go_at_call 31; refine (unhide CW).mono ?_; rintro e w3 ⟨rfl, hb3⟩; have O3 := hide (ownsRow_below (unhide HO) hb3); have B3 := hide (hb3.mono hBs); have z3 := hb3.size; clear hb3) | (at_builtin; refine wpList_append_own _ rfl _ _ 32 rfl w1.heap.size 2 i0 (.int .i64 0) 1 8 Tryd.underlying32 hi hz0 hz1 hz2 rfl (by decide) _ _ _ rfl (owned_alloc (unhide O3) _) ⟨w3.heap.size, 0, none⟩ 1 1 [.int .i64 p] rfl rfl (cell_one_new _ _ _) (by intro u hu; simp at hu; subst hu; rfl) (by unfold maxLen; omega) (by omega) (by simp; omega) ?_))
        intro v' w4 hown' hgrow _
        have RR := hide (row_many (R := R) (S := [p]) (unhide HB) (unhide B3) (by omega) (unhide O3) hown' (by simp) hgrow)
        clear hown' hgrow
        go_wp2
        go_roundw
        case rel => exact ⟨k + 1, by go_num, by rw [unhide HB2], by omega, hide (by rw [unhide HTK, unhide HK2]; exact (unhide RR).1), hide (unhide RR).2⟩
        case measure => simp [intOf]; omega
      · rw [hw] at CW HTB HT1K
        cases hb1 : b1
        · rw [hb1] at HTB HT1K
          cases hcs : cas p
          · rw [hcs] at CC HTB HT1K
            have HB2 : Hid (ttb L (k + 1) = false) := hide (by rw [unhide HTB]; rfl)
            have HK2 : Hid (tk1 = [p]) := hide (by rw [unhide HT1K, if_neg (by simp), if_neg (by simp), if_neg (by simp)])
            clear HTB HT1K
            go_wp2_with (first | (go_at_call 31; refine (unhide CW).mono ?_; rintro e w3 ⟨rfl, hb3⟩; have O3 := hide (ownsRow_below (unhide HO) hb3); have B3 := hide (hb3.mono hBs); have T3 := hide ((unhide HT2).below hb3); have z3 := hb3.size; clear hb3) | (go_at_call 32; refine ((unhide CC) _ (unhide T3).1).mono ?_; rintro e w4 ⟨rfl, hb4⟩; have O4 := hide (ownsRow_below (unhide O3) hb4); have B4 := hide ((unhide B3).trans (hb4.mono (by omega))); have z4 := hb4.size; clear hb4) | (at_builtin; refine wpList_append_own _ rfl _ _ 32 rfl w1.heap.size 2 i0 (.int .i64 0) 1 8 Tryd.underlying32 hi hz0 hz1 hz2 rfl (by decide) _ _ _ rfl (owned_alloc (unhide O4) _) ⟨w4.heap.size, 0, none⟩ 1 1 [.int .i64 p] rfl rfl (cell_one_new _ _ _) (by intro u hu; simp at hu; subst hu; rfl) (by unfold maxLen; omega) (by omega) (by simp; omega) ?_))
            intro v' w5 hown' hgrow _
            have RR := hide (row_many (R := R) (S := [p]) (unhide HB) (unhide B4) (by omega) (unhide O4) hown' (by simp) hgrow)
            clear hown' hgrow
            go_wp2
            go_roundw
            case rel => exact ⟨k + 1, by go_num, by rw [unhide HB2], by omega, hide (by rw [unhide HTK, unhide HK2]; exact (unhide RR).1), hide (unhide RR).2⟩
            case measure => simp [intOf]; omega
          · rw [hcs] at CC HTB HT1K
            have HB2 : Hid (ttb L (k + 1) = true) := hide (by rw [unhide HTB]; rfl)
            have HK2 : Hid (tk1 = tiI p) := hide (by rw [unhide HT1K, if_neg (by simp), if_neg (by simp), if_pos rfl])
            clear HTB HT1K
            go_wp2_with (first | (go_at_call 31; refine (unhide CW).mono ?_; rintro e w3 ⟨rfl, hb3⟩; have O3 := hide (ownsRow_below (unhide HO) hb3); have B3 := hide (hb3.mono hBs); have T3 := hide ((unhide HT2).below hb3); have z3 := hb3.size; clear hb3) | (go_at_call 32; refine ((unhide CC) _ (unhide T3).1).mono ?_; rintro e w4 ⟨rfl, hb4⟩; have O4 := hide (ownsRow_below (unhide O3) hb4); have B4 := hide ((unhide B3).trans (hb4.mono (by omega))); have T4 := hide ((unhide T3).below hb4); have z4 := hb4.size; clear hb4) | (go_at_call 33; refine ((unhide CT) _ _ (unhide O4) (by omega) (unhide T4).2).mono ?_; rintro e w5 ⟨v5, rfl, ho5, hb5⟩; have O5 := hide ho5; have B5 := hide ((unhide HB).trans ((unhide B4).trans hb5)); clear ho5 hb5))
            go_roundw
            case rel => exact ⟨k + 1, by go_num, by rw [unhide HB2], by omega, hide (by rw [unhide HTK, unhide HK2]; exact unhide O5), B5⟩
            case measure => simp [intOf]; omega
        · rw [hb1] at HTB HT1K
          have HB2 : Hid (ttb L (k + 1) = true) := hide (by rw [unhide HTB]; rfl)
          have HK2 : Hid (tk1 = [lo]) := hide (by rw [unhide HT1K, if_neg (by simp), if_pos rfl])
          clear HTB HT1K
          go_wp2_with (first | (go_at_call 31; refine (unhide CW).mono ?_; rintro e w3 ⟨rfl, hb3⟩; have O3 := hide (ownsRow_below (unhide HO) hb3); have B3 := hide (hb3.mono hBs); have T3 := hide ((unhide HT2).below hb3); have k3 := hide (fun i (hi : i < L.length) => (hb3.cell (p := ⟨b, off + i, none⟩) hbr).trans ((unhide kc) i hi)); have z3 := hb3.size; clear hb3) | (go_at_call 27; refine ((unhide CA) _ (by omega) (unhide k3) (unhide T3)).mono ?_; rintro e w4 ⟨rfl, hb4⟩; have O4 := hide (ownsRow_below (unhide O3) hb4); have B4 := hide ((unhide B3).trans (hb4.mono (by omega))); have z4 := hb4.size; clear hb4) | (at_builtin; refine wpList_append_own _ rfl _ _ 32 rfl w1.heap.size 2 i0 (.int .i64 0) 1 8 Tryd.underlying32 hi hz0 hz1 hz2 rfl (by decide) _ _ _ rfl (owned_alloc (unhide O4) _) ⟨w4.heap.size, 0, none⟩ 1 1 [.int .i64 lo] rfl rfl (cell_one_new _ _ _) (by intro u hu; simp at hu; subst hu; rfl) (by unfold maxLen; omega) (by omega) (by simp; omega) ?_))
          intro v' w5 hown' hgrow _
          have RR := hide (row_many (R := R) (S := [lo]) (unhide HB) (unhide B4) (by omega) (unhide O4) hown' (by simp) hgrow)
          clear hown' hgrow
          go_wp2
          go_roundw
          case rel => exact ⟨k + 1, by go_num, by rw [unhide HB2], by omega, hide (by rw [unhide HTK, unhide HK2]; exact (unhide RR).1), hide (unhide RR).2⟩
          case measure => simp [intOf]; omega
    · obtain rfl : k = L.length := by omega
      have HO2 : Hid (IntsAt wr u4 (ttk L L.length)) := hide (IntsAt.owned (unhide HO))
      go_wp2_with (go_at_call 17; refine ((unhide CX) _ _ (unhide HO2)).mono ?_; rintro e w5 ⟨rfl, hb5⟩; have B5 := hide (join2 (join2 (unhide B1) (unhide HB)) hb5); clear hb5)
      go_ret
      exact ⟨by rw [unhide HU]; rfl, unhide B5⟩
end Cas
end Go.Proofs.YtiodngmbpnkoeaaDoor
/- Title of a text, as the specification tells it; the law of Title. -/
namespace Go.Proofs.YtiodngmbpnkoeaaDoor
namespace Cas
open Go.RowKit
set_option maxRecDepth 100000 in
set_option maxHeartbeats 8000000 in
theorem specTitleT (s : ByteArray) (w : World) (hs : s.size ≤ 1048576) : Calls Tryd.prog 12 #[.string s] w fun e w' => e = .returned (.string (strOfNums (titleT s))) ∧ Below w.heap.size w w' := by
  by_cases hb : 65536 < s.size
  · have HE := hide (show titleT s = [] by unfold titleT ptsOut; rw [if_pos hb]; rfl)
    go_enter Tryd.func12, Tryd.ntmps12
    go_wp2
    go_ret
    exact ⟨by rw [unhide HE]; rfl, Below.refl _ _⟩
  obtain ⟨i0, hi, hz0, hz1, hz2⟩ := info_parts info2
  have e : ptsOut s = pts s := by unfold ptsOut; rw [if_neg hb]
  have HU : Hid (titleT s = Go.Proofs.YtiodngmbpnkoeaaDoor.small (textL (ttk (pts s) (pts s).length))) := hide (by unfold titleT; rw [e])
  have CP := hide (fun W => l01Points s W (by omega))
  have CX := hide (fun v W h => l01Text v (ttk (pts s) (pts s).length) W h (by have h1 := ttk_len (pts s) (pts s).length; have := pts_le s; omega))
  have CM := hide (fun W => smallS (textL (ttk (pts s) (pts s).length)) W)
  have HL : Hid ((pts s).length ≤ 65536) := hide (by have := pts_le s; omega)
  have HP := hide (pts_pt s)
  clear e
  generalize pts s = L at *
  generalize titleT s = T at *
  have hL := unhide HL
  clear HL
  go_enter Tryd.func12, Tryd.ntmps12
  go_upto_region 4 with (go_at_call 23; refine ((unhide CP) _).mono ?_; rintro e w1 ⟨v1, rfl, ho1, hb1⟩; have HV := hide (IntsAt.owned ho1); have B1 := hide hb1; clear hb1; obtain ⟨a, cap, rfl, _⟩ := IntsAt.owned ho1; clear ho1)
  have HO0 : Hid ((w1.alloc (.cells #[] 2)).ownsRow w1.heap.size 2 1 (.slice (some ⟨w1.heap.size, 0, none⟩) 0 0) (ttk L 0).length ((ttk L 0).map (Value.int .i64))) := hide (World.ownsRow_lit w1 #[] 0 (Nat.le_refl _) (by unfold maxLen; omega) rfl)
  have HB0 : Hid (Below w1.heap.size w1 (w1.alloc (.cells #[] 2))) := hide (below1 _ _)
  go_wp2
  go_loopw [4, 5, 6] (fun v' y x wr => ∃ k : Nat, x = .int .i64 k ∧ y = .bool (ttb L k) ∧ k ≤ L.length ∧ Hid (wr.ownsRow w1.heap.size 2 1 v' (ttk L k).length ((ttk L k).map (Value.int .i64))) ∧ Hid (Below w1.heap.size w1 wr)) (fun _ _ x _ => L.length - (intOf x).toNat)
  case atStart => exact ⟨0, rfl, rfl, by omega, HO0, HB0⟩
  case round =>
    obtain ⟨k, rfl, rfl, hk, HO, HB⟩ := hrel
    clear HO0 HB0
    have hBs := (unhide HB).size
    have hkl := ttk_len L k
    have HTB : Hid (ttb L (k + 1) = (inW (nth L k) && (ttb L k || cas (nth L k)))) := hide rfl
    have HTK : Hid (ttk L (k + 1) = ttk L k ++ tt1 L k) := hide rfl
    have HT1K : Hid (tt1 L k = if inW (nth L k) = false then [nth L k] else if ttb L k = true then [loI L k] else if cas (nth L k) = true then tiI (nth L k) else [nth L k]) := hide rfl
    rw [ti_eq] at HT1K
    generalize ttb L k = b1 at *
    generalize tt1 L k = tk1 at *
    by_cases hlt : k < L.length
    · obtain ⟨b, off, cp, he, hbw, hc⟩ := rd_at (unhide HV) (by omega)
      cases he
      have kc := hide (fun i (hi : i < L.length) => ((unhide HB).cell (p := ⟨b, off + i, none⟩) hbw).trans (hc i hi))
      have c0 := (unhide kc) k hlt
      have hbr : b < wr.heap.size := by omega
      have HPT := hide (pt_of ((unhide HP) _ (mem_nth hlt)))
      have CA := hide (fun W h1 h2 => lowAtS b off cap k L W h1 h2 (by omega) hlt ((unhide HP) _ (mem_nth hlt)))
      generalize loI L k = lo at *
      obtain ⟨p, hp⟩ : ∃ p, nth L k = p := ⟨_, rfl⟩
      rw [hp] at c0 HPT HTB HT1K
      clear hc hp
      have hp0 := (unhide HPT).1
      have hp1 := (unhide HPT).2.1
      have CS := hide (fun W => sharp_any p W hp0 hp1)
      have CU := hide (fun W => tit_any p W hp0 hp1)
      obtain ⟨bb0, bb1⟩ := bl_in hp0 hp1
      have HF : Hid (tiS p = if 0 < bl p ∧ p = bl p + 96 then [bl p + 18, bl p + 50] else [titS p]) := hide rfl
      obtain ⟨q, hq⟩ : ∃ q, bl p = q := ⟨_, rfl⟩
      rw [hq] at CS HF bb0 bb1
      clear hq
      have CW := hide (fun W => inW_s p W)
      have CC := hide (fun W => cased_c p W)
      obtain ⟨sh, hsh⟩ : ∃ sh, (decide (0 < q) && (p == q + 96)) = sh := ⟨_, rfl⟩
      rw [hsh] at CS
      have HSH := hide hsh
      clear hsh
      generalize ttk L k = R at *
      generalize tiS p = TS at *
      generalize titS p = tp at *
      cases hw : inW p
      · rw [hw] at CW HTB HT1K
        have HB2 : Hid (ttb L (k + 1) = false) := hide (by rw [unhide HTB]; rfl)
        have HK2 : Hid (tk1 = [p]) := hide (by rw [unhide HT1K, if_pos rfl])
        clear HTB HT1K
        go_wp2_with (first | (go_at_call 28; refine ((unhide CS) _).mono ?_; rintro e w9 ⟨rfl, hw9⟩; obtain rfl := hw9.symm; clear hw9) | (go_at_call 34; refine ((unhide CW) _).mono ?_; rintro e w3 ⟨rfl, hb3⟩; have O3 := hide (ownsRow_below (unhide HO) hb3); have B3 := hide (hb3.mono hBs); have z3 := hb3.size; clear hb3) | (at_builtin; refine wpList_append_own _ rfl _ _ 32 rfl w1.heap.size 2 i0 (.int .i64 0) 1 8 Tryd.underlying32 hi hz0 hz1 hz2 rfl (by decide) _ _ _ rfl (owned_alloc (unhide O3) _) ⟨w3.heap.size, 0, none⟩ 1 1 [.int .i64 p] rfl rfl (cell_one_new _ _ _) (by intro u hu; simp at hu; subst hu; rfl) (by unfold maxLen; omega) (by omega) (by simp; omega) ?_))
        intro v' w4 hown' hgrow _
        have RR := hide (row_many (R := R) (S := [p]) (unhide HB) (unhide B3) (by omega) (unhide O3) hown' (by simp) hgrow)
        clear hown' hgrow
        go_wp2
        go_roundw
        case rel => exact ⟨k + 1, by go_num, by rw [unhide HB2], by omega, hide (by rw [unhide HTK, unhide HK2]; exact (unhide RR).1), hide (unhide RR).2⟩
        case measure => simp [intOf]; omega
      · rw [hw] at CW HTB HT1K
        cases hb1 : b1
        · rw [hb1] at HTB HT1K
          cases hcs : cas p
          · rw [hcs] at CC HTB HT1K
            have HB2 : Hid (ttb L (k + 1) = false) := hide (by rw [unhide HTB]; rfl)
            have HK2 : Hid (tk1 = [p]) := hide (by rw [unhide HT1K, if_neg (by simp), if_neg (by simp), if_neg (by simp)])
            clear HTB HT1K
            go_wp2_with (first | (go_at_call 28; refine ((unhide CS) _).mono ?_; rintro e w9 ⟨rfl, hw9⟩; obtain rfl := hw9.symm; clear hw9) | (go_at_call 34; refine ((unhide CW) _).mono ?_; rintro e w3 ⟨rfl, hb3⟩; have O3 := hide (ownsRow_below (unhide HO) hb3); have B3 := hide (hb3.mono hBs); have z3 := hb3.size; clear hb3) | (go_at_call 35; refine ((unhide CC) _).mono ?_; rintro e w4 ⟨rfl, hb4⟩; have O4 := hide (ownsRow_below (unhide O3) hb4); have B4 := hide ((unhide B3).trans (hb4.mono (by omega))); have z4 := hb4.size; clear hb4) | (at_builtin; refine wpList_append_own _ rfl _ _ 32 rfl w1.heap.size 2 i0 (.int .i64 0) 1 8 Tryd.underlying32 hi hz0 hz1 hz2 rfl (by decide) _ _ _ rfl (owned_alloc (unhide O4) _) ⟨w4.heap.size, 0, none⟩ 1 1 [.int .i64 p] rfl rfl (cell_one_new _ _ _) (by intro u hu; simp at hu; subst hu; rfl) (by unfold maxLen; omega) (by omega) (by simp; omega) ?_))
            intro v' w5 hown' hgrow _
            have RR := hide (row_many (R := R) (S := [p]) (unhide HB) (unhide B4) (by omega) (unhide O4) hown' (by simp) hgrow)
            clear hown' hgrow
            go_wp2
            go_roundw
            case rel => exact ⟨k + 1, by go_num, by rw [unhide HB2], by omega, hide (by rw [unhide HTK, unhide HK2]; exact (unhide RR).1), hide (unhide RR).2⟩
            case measure => simp [intOf]; omega
          · rw [hcs] at CC HTB HT1K
            have HB2 : Hid (ttb L (k + 1) = true) := hide (by rw [unhide HTB]; rfl)
            have HK2 : Hid (tk1 = TS) := hide (by rw [unhide HT1K, if_neg (by simp), if_neg (by simp), if_pos rfl])
            clear HTB HT1K
            cases hs2 : sh
            · rw [hs2] at CS HSH
              have HK3 : Hid (tk1 = [tp]) := hide (by rw [unhide HK2, unhide HF, if_neg (fun h => by have := unhide HSH; rw [decide_eq_true h.1, Bool.true_and] at this; simp [h.2] at this)])
              clear HK2 HF HSH
              go_wp2_with (first | (go_at_call 28; refine ((unhide CS) _).mono ?_; rintro e w9 ⟨rfl, hw9⟩; obtain rfl := hw9.symm; clear hw9) | (go_at_call 34; refine ((unhide CW) _).mono ?_; rintro e w3 ⟨rfl, hb3⟩; have O3 := hide (ownsRow_below (unhide HO) hb3); have B3 := hide (hb3.mono hBs); have z3 := hb3.size; clear hb3) | (go_at_call 35; refine ((unhide CC) _).mono ?_; rintro e w4 ⟨rfl, hb4⟩; have O4 := hide (ownsRow_below (unhide O3) hb4); have B4 := hide ((unhide B3).trans (hb4.mono (by omega))); have z4 := hb4.size; clear hb4) | (go_at_call 29; refine ((unhide CU) _).mono ?_; rintro e w6 ⟨rfl, hb6⟩; have O6 := hide (ownsRow_below (unhide O4) hb6); have B6 := hide ((unhide B4).trans (hb6.mono (by omega))); have z6 := hb6.size; clear hb6) | (at_builtin; refine wpList_append_own _ rfl _ _ 32 rfl w1.heap.size 2 i0 (.int .i64 0) 1 8 Tryd.underlying32 hi hz0 hz1 hz2 rfl (by decide) _ _ _ rfl (owned_alloc (unhide O6) _) ⟨w6.heap.size, 0, none⟩ 1 1 [.int .i64 tp] rfl rfl (cell_one_new _ _ _) (by intro u hu; simp at hu; subst hu; rfl) (by unfold maxLen; omega) (by omega) (by simp; omega) ?_))
              intro v' w5 hown' hgrow _
              have RR := hide (row_many (R := R) (S := [tp]) (unhide HB) (unhide B6) (by omega) (unhide O6) hown' (by simp) hgrow)
              clear hown' hgrow
              go_wp2
              go_roundw
              case rel => exact ⟨k + 1, by go_num, by rw [unhide HB2], by omega, hide (by rw [unhide HTK, unhide HK3]; exact (unhide RR).1), hide (unhide RR).2⟩
              case measure => simp [intOf]; omega
            · rw [hs2] at CS HSH
              have HK3 : Hid (tk1 = [q + 18, q + 50]) := hide (by rw [unhide HK2, unhide HF, if_pos (by have := unhide HSH; simpa using this)])
              clear HK2 HF HSH
              go_wp2_with (first | (go_at_call 28; refine ((unhide CS) _).mono ?_; rintro e w9 ⟨rfl, hw9⟩; obtain rfl := hw9.symm; clear hw9) | (go_at_call 34; refine ((unhide CW) _).mono ?_; rintro e w3 ⟨rfl, hb3⟩; have O3 := hide (ownsRow_below (unhide HO) hb3); have B3 := hide (hb3.mono hBs); have z3 := hb3.size; clear hb3) | (go_at_call 35; refine ((unhide CC) _).mono ?_; rintro e w4 ⟨rfl, hb4⟩; have O4 := hide (ownsRow_below (unhide O3) hb4); have B4 := hide ((unhide B3).trans (hb4.mono (by omega))); have z4 := hb4.size; clear hb4) | (at_builtin; refine wpList_append_own _ rfl _ _ 32 rfl w1.heap.size 2 i0 (.int .i64 0) 1 8 Tryd.underlying32 hi hz0 hz1 hz2 rfl (by decide) _ _ _ rfl (owned_alloc (unhide O4) _) ⟨w4.heap.size, 0, none⟩ 2 2 [.int .i64 (q + 18), .int .i64 (q + 50)] rfl rfl (two_new _ _ _ _) (by intro u hu; simp at hu; rcases hu with rfl | rfl <;> rfl) (by unfold maxLen; omega) (by omega) (by simp; omega) ?_))
              intro v' w5 hown' hgrow _
              have RR := hide (row_many (R := R) (S := [q + 18, q + 50]) (unhide HB) (unhide B4) (by omega) (unhide O4) hown' (by simp) hgrow)
              clear hown' hgrow
              go_wp2
              go_roundw
              case rel => exact ⟨k + 1, by go_num, by rw [unhide HB2], by omega, hide (by rw [unhide HTK, unhide HK3]; exact (unhide RR).1), hide (unhide RR).2⟩
              case measure => simp [intOf]; omega
        · rw [hb1] at HTB HT1K
          have HB2 : Hid (ttb L (k + 1) = true) := hide (by rw [unhide HTB]; rfl)
          have HK2 : Hid (tk1 = [lo]) := hide (by rw [unhide HT1K, if_neg (by simp), if_pos rfl])
          clear HTB HT1K
          go_wp2_with (first | (go_at_call 28; refine ((unhide CS) _).mono ?_; rintro e w9 ⟨rfl, hw9⟩; obtain rfl := hw9.symm; clear hw9) | (go_at_call 34; refine ((unhide CW) _).mono ?_; rintro e w3 ⟨rfl, hb3⟩; have O3 := hide (ownsRow_below (unhide HO) hb3); have B3 := hide (hb3.mono hBs); have k3 := hide (fun i (hi : i < L.length) => (hb3.cell (p := ⟨b, off + i, none⟩) hbr).trans ((unhide kc) i hi)); have z3 := hb3.size; clear hb3) | (go_at_call 30; refine ((unhide CA) _ (by omega) (unhide k3)).mono ?_; rintro e w4 ⟨rfl, hb4⟩; have O4 := hide (ownsRow_below (unhide O3) hb4); have B4 := hide ((unhide B3).trans (hb4.mono (by omega))); have z4 := hb4.size; clear hb4) | (at_builtin; refine wpList_append_own _ rfl _ _ 32 rfl w1.heap.size 2 i0 (.int .i64 0) 1 8 Tryd.underlying32 hi hz0 hz1 hz2 rfl (by decide) _ _ _ rfl (owned_alloc (unhide O4) _) ⟨w4.heap.size, 0, none⟩ 1 1 [.int .i64 lo] rfl rfl (cell_one_new _ _ _) (by intro u hu; simp at hu; subst hu; rfl) (by unfold maxLen; omega) (by omega) (by simp; omega) ?_))
          intro v' w5 hown' hgrow _
          have RR := hide (row_many (R := R) (S := [lo]) (unhide HB) (unhide B4) (by omega) (unhide O4) hown' (by simp) hgrow)
          clear hown' hgrow
          go_wp2
          go_roundw
          case rel => exact ⟨k + 1, by go_num, by rw [unhide HB2], by omega, hide (by rw [unhide HTK, unhide HK2]; exact (unhide RR).1), hide (unhide RR).2⟩
          case measure => simp [intOf]; omega
    · obtain rfl : k = L.length := by omega
      have HO2 : Hid (IntsAt wr u4 (ttk L L.length)) := hide (IntsAt.owned (unhide HO))
      go_wp2_with (first | (go_at_call 21; refine ((unhide CX) _ _ (unhide HO2)).mono ?_; rintro e w5 ⟨rfl, hb5⟩; have B5 := hide (join2 (join2 (unhide B1) (unhide HB)) hb5); clear hb5) | (go_at_call 20; refine ((unhide CM) _).mono ?_; rintro e w9 ⟨rfl, hw9⟩; obtain rfl := hw9.symm; clear hw9))
      go_ret
      exact ⟨by rw [unhide HU]; rfl, unhide B5⟩
end Cas
end Go.Proofs.YtiodngmbpnkoeaaDoor
