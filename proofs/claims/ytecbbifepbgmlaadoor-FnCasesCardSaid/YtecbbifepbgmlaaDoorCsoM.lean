/- The other writings of a letter; CasesOf, as the program tells it. -/
import Derived.Test.YtecbbifepbgmlaaDoorCsoK
import Derived.Test.YtecbbifepbgmlaaDoorMH
import Derived.Test.YtecbbifepbgmlaaDoorAppG
import Derived.Deep.Cut
namespace Go.Proofs.YtecbbifepbgmlaaDoor.Cas
open Go.RowKit
set_option linter.unusedVariables false
theorem infoI : (Tryd.prog.info? 2).map (fun i => (i.zero, i.size, i.bytes)) = some (some (.int .i64 0), 1, 8) := by kernel_rfl
theorem own_one (w : World) (x : Int) : (w.alloc (.cells #[.int .i64 x] 2)).ownsRow w.heap.size 2 1 (.slice (some ⟨w.heap.size, 0, none⟩) 1 1) [x].length ([x].map (Value.int .i64)) := World.ownsRow_lit w #[.int .i64 x] 1 (Nat.le_refl _) (by unfold maxLen; omega) rfl
set_option maxRecDepth 100000 in
set_option maxHeartbeats 4000000 in
theorem othC (l : Int) (w : World) (h0 : 0 ≤ l) (h1 : l ≤ 1114111) : Calls Tryd.prog 17 #[.int .i64 l] w fun e w' => ∃ v, e = .returned v ∧ w'.ownsRow w.heap.size 2 1 v (oth l).length ((oth l).map (Value.int .i64)) ∧ Below w.heap.size w w' := by
  have CT := hide (fun W => tw_any l W)
  have CI := hide (fun W => inScript_any l 609 W h0 h1 (by omega) (by omega))
  by_cases c1 : 97 ≤ l ∧ l ≤ 122
  · have HE : Hid (oth l = [9728 + l - 97]) := hide (if_pos c1)
    have CW := hide (fun W => cw_t l 97 122 W c1)
    have O1 := hide (own_one w (9728 + l - 97))
    have B1 := hide ((Below.refl w.heap.size w).alloc (Nat.le_refl _) (.cells #[.int .i64 (9728 + l - 97)] 2))
    clear CT CI
    go_enter Tryd.func17, Tryd.ntmps17
    go_wp2_with (go_at_call 31; refine ((unhide CW) _).mono ?_; rintro e w' ⟨rfl, rfl⟩)
    go_ret
    exact ⟨_, rfl, by rw [unhide HE]; exact unhide O1, unhide B1⟩
  · have CW := hide (fun W => cw_f l 97 122 W c1)
    by_cases c2 : tw l = 562
    · have HE : Hid (oth l = [609 + l - tw l]) := hide (by unfold oth; rw [if_neg c1, if_pos c2])
      have c2' : (tw l == 562) = true := by simp [c2]
      clear c1 c2
      generalize tw l = q at *
      obtain ⟨y, hy⟩ : ∃ y, 609 + l - q = y := ⟨_, rfl⟩
      rw [hy] at CI HE
      have O1 := hide (own_one w y)
      have B1 := hide ((Below.refl w.heap.size w).alloc (Nat.le_refl _) (.cells #[.int .i64 y] 2))
      clear hy
      go_enter Tryd.func17, Tryd.ntmps17
      go_wp2_with (first
        | (go_at_call 31; refine ((unhide CW) _).mono ?_; rintro e w' ⟨rfl, rfl⟩)
        | (go_at_call 14; refine ((unhide CT) _).mono ?_; rintro e w' ⟨rfl, hw⟩; obtain rfl := hw.symm; clear hw)
        | (go_at_call 15; refine ((unhide CI) _).mono ?_; rintro e w' ⟨rfl, hw⟩; obtain rfl := hw.symm; clear hw))
      go_ret
      exact ⟨_, rfl, by rw [unhide HE]; exact unhide O1, unhide B1⟩
    · have HE : Hid (oth l = []) := hide (by unfold oth; rw [if_neg c1, if_neg c2])
      have c2' : (tw l == 562) = false := by simp [c2]
      clear c1 c2
      generalize tw l = q at *
      go_enter Tryd.func17, Tryd.ntmps17
      go_wp2_with (first
        | (go_at_call 31; refine ((unhide CW) _).mono ?_; rintro e w' ⟨rfl, rfl⟩)
        | (go_at_call 14; refine ((unhide CT) _).mono ?_; rintro e w' ⟨rfl, hw⟩; obtain rfl := hw.symm; clear hw))
      go_ret
      exact ⟨_, rfl, by rw [unhide HE]; exact ⟨rfl, .inl ⟨rfl, rfl⟩⟩, Below.refl _ _⟩
theorem three_new (w : World) (x y z : Value) (t : TypeId) : ∀ j u, [x, y, z][j]? = some u → (w.alloc (.cells #[x, y, z] t)).cell? ((⟨w.heap.size, 0, none⟩ : Addr).add j) = some u := by
  intro j u hu
  match j with
  | 0 => simp at hu; subst hu; simp [Addr.add]
  | 1 => simp at hu; subst hu; simp [Addr.add]
  | 2 => simp at hu; subst hu; simp [Addr.add]
  | j + 3 => simp at hu
theorem le_al (w : World) (o : Obj) : w.heap.size ≤ (w.alloc o).heap.size := by simp
theorem three_kept {w w4 : World} {x y z : Value} {t : TypeId} (hb : Below (w.alloc (.cells #[x, y, z] t)).drew.heap.size (w.alloc (.cells #[x, y, z] t)).drew w4) : ∀ j u, [x, y, z][j]? = some u → w4.cell? ((⟨w.heap.size, 0, none⟩ : Addr).add j) = some u := by
  intro j u hu
  have h1 := three_new w x y z t j u hu
  have h2 : ((⟨w.heap.size, 0, none⟩ : Addr).add j).block < (w.alloc (.cells #[x, y, z] t)).drew.heap.size := by
    show _ < (w.alloc (.cells #[x, y, z] t)).heap.size
    unfold Addr.add
    split <;> simp
  exact (hb.cell h2).trans h1
theorem own_low {w : World} {B B2 n : Nat} {v : Value} {xs : List Value} (h : w.ownsRow B2 2 1 v n xs) (hb : B ≤ B2) : w.ownsRow B 2 1 v n xs := by
  refine ⟨h.1, ?_⟩
  rcases h.2 with h' | ⟨g, cap, cur, hv, hg, r⟩
  · exact .inl h'
  · exact .inr ⟨g, cap, cur, hv, by omega, r⟩
/-- The row that Sort and Compact work on. -/
theorem rw_of {w w5 : World} {B n : Nat} {v : Value} {L : List Int} (h : w5.ownsRow B 2 1 v n (L.map (Value.int .i64))) (hn : 0 < n) : ∃ g cap, v = .slice (some ⟨g, 0, none⟩) n cap ∧ B ≤ g ∧ g < w5.heap.size ∧ Rw w5 w5 B g n cap L := by
  have h0 := h
  rcases h.2 with ⟨_, h'⟩ | ⟨g, cap, cur, rfl, hg, hh, r⟩
  · omega
  · refine ⟨g, cap, rfl, hg, ?_, ⟨h0, grown_reflC _ _⟩⟩
    by_cases e : g < w5.heap.size
    · exact e
    · rw [Array.getElem?_eq_none (by omega)] at hh
      cases hh
theorem root_pt {p : Int} (hp : pt p) : pt (root p) := by
  by_cases h : p ≤ 32767
  · have := (raw_root hp.1).2 (root p) (by unfold raw; simp)
    have h2 := this.2.2 h
    exact ⟨this.2.1, by omega, by omega⟩
  · rw [(far_is (p := p) (by omega)).1]
    exact hp
/-- What CasesOf of the program tells. -/
def csI (p : Int) : List Int := if 0 ≤ p ∧ p ≤ 1114111 ∧ (p < 55296 ∨ 57343 < p) then csA p else []
set_option maxRecDepth 100000 in
set_option maxHeartbeats 8000000 in
theorem implCases (p : Int) (w : World) (ht : BlkAt w) : Calls Tryd.prog 5 #[.int .i64 p] w fun e w' => ∃ v, e = .returned v ∧ w'.ownsRow w.heap.size 2 1 v (csI p).length ((csI p).map (Value.int .i64)) ∧ Below w.heap.size w w' := by
  obtain ⟨i0, hi, hz0, hz1, hz2⟩ := info_parts infoI
  by_cases hp : pt p
  · have HR := hide (show csI p = csA p from if_pos hp)
    have CP := hide (fun W => ispt_i p W hp)
    have CL := hide (fun W h => implLower p W h)
    rw [show lowI p = lowS p from if_pos hp] at CL
    have CT := hide (fun W => tw_any p W)
    have CI := hide (fun W => inScript_any p 562 W hp.1 hp.2.1 (by omega) (by omega))
    have hrt := root_eq p
    have hr := raw_root hp.1
    have hrp : pt (root p) := root_pt hp
    have CC := hide (fun W => caseRow_any (root p) W hrp)
    rw [row_is _ hrp.1] at CC
    unfold rowV at CC
    simp only at CC
    have CO := hide (fun W => othC (root p) W hrp.1 hrp.2.1)
    have HT := hide ht
    have HA : Hid (csA p = cmp (srt (oth (root p) ++ [upS (root p), titS (root p), root p]))) := hide rfl
    have HX : Hid ((oth (root p)).length ≤ 1) := hide (by unfold oth; (repeat' split) <;> simp)
    have HRT : Hid (rootI p = root p) := hide hrt
    have HI : Hid (rootI p = if tw p = 609 then 562 + p - tw p else lowS p) := hide rfl
    clear ht hp hrt hr hrp
    generalize csA p = A at *
    generalize rootI p = R at *
    generalize root p = l at *
    generalize upS l = u at *
    generalize titS l = t at *
    generalize oth l = X at *
    go_enter Tryd.func5, Tryd.ntmps5
    by_cases c : tw p = 609
    · have eI : 562 + p - tw p = l := by rw [← unhide HRT, unhide HI, if_pos c]
      rw [eI] at CI
      have c' : (tw p == 609) = true := by simp [c]
      clear HI HRT eI c
      generalize lowS p = z at *
      generalize tw p = q at *
      go_upto_region 7 with (first
        | (go_at_call 12; refine ((unhide CP) _).mono ?_; rintro e w' ⟨rfl, hw⟩; obtain rfl := hw.symm; clear hw)
        | (go_at_call 13; refine ((unhide CL) _ (unhide HT)).mono ?_; rintro e w1 ⟨rfl, hb1⟩; have B1 := hide hb1; have HT1 := hide ((unhide HT).below hb1); clear hb1)
        | (go_at_call 14; refine ((unhide CT) _).mono ?_; rintro e w' ⟨rfl, hw⟩; obtain rfl := hw.symm; clear hw)
        | (go_at_call 15; refine ((unhide CI) _).mono ?_; rintro e w' ⟨rfl, hw⟩; obtain rfl := hw.symm; clear hw)
        | (go_at_call 16; refine ((unhide CC) _ (unhide HT1)).mono ?_; rintro e w2 ⟨rfl, hb2⟩; have B2 := hide ((unhide B1).trans (hb2.mono (unhide B1).size)); clear hb2 B1))
      have B3 := hide ((unhide B2).alloc (unhide B2).size (.cells #[.int .i64 u, .int .i64 t, .int .i64 (lowS l)] 37))
      have c0 : (w2.alloc (.cells #[.int .i64 u, .int .i64 t, .int .i64 (lowS l)] 37)).cell? ⟨w2.heap.size, 0, none⟩ = some (.int .i64 u) := by simp
      have c1 : (w2.alloc (.cells #[.int .i64 u, .int .i64 t, .int .i64 (lowS l)] 37)).cell? ⟨w2.heap.size, 1, none⟩ = some (.int .i64 t) := by simp
      have hz3 : w2.heap.size < (w2.alloc (.cells #[.int .i64 u, .int .i64 t, .int .i64 (lowS l)] 37)).heap.size := by simp
      generalize w2.alloc (.cells #[.int .i64 u, .int .i64 t, .int .i64 (lowS l)] 37) = w3 at *
      have hBs := (unhide B3).size
      have hXl := unhide HX
      have c0d : w3.drew.cell? ⟨w2.heap.size, 0, none⟩ = some (.int .i64 u) := c0
      have c1d : w3.drew.cell? ⟨w2.heap.size, 1, none⟩ = some (.int .i64 t) := c1
      clear CP CL CT CC HT HT1 B2 c0 c1 c'
      go_region_law (first
        | (refine step_call rfl 17 #[.tmp 18] #[2] rfl #[.int .i64 l] (by first | (simp [Act.eval]; done) | simp [Act.eval, Act.put]) (by kernel_rfl) (((unhide CO) w3.drew).mono ?_); rintro e w4 ⟨v4, rfl, ho4, hb4⟩; have O4 := hide (own_low ho4 hBs); have d0 := (hb4.cell (p := ⟨w2.heap.size, 0, none⟩) hz3).trans c0d; have d1 := (hb4.cell (p := ⟨w2.heap.size, 1, none⟩) hz3).trans c1d; have B4 := hide (((unhide B3).drew).trans (hb4.mono hBs)); have z4 : w.heap.size ≤ w4.heap.size := Nat.le_trans hBs hb4.size; clear ho4 hb4 CO; refine ⟨_, rfl, ?_⟩)
        | (refine step_call rfl 17 #[.tmp 18] #[2] rfl #[.int .i64 l] (by simp [Act.eval]) (by kernel_rfl) (((unhide CO) (w3.alloc (.cells #[.int .i64 u, .int .i64 t, .int .i64 l] 2)).drew).mono ?_); rintro e w4 ⟨v4, rfl, ho4, hb4⟩; have O4 := hide (own_low ho4 (Nat.le_trans hBs (le_al w3 (.cells #[.int .i64 u, .int .i64 t, .int .i64 l] 2)))); have HN := hide (three_kept hb4); have B4 := hide ((((unhide B3).alloc hBs (.cells #[.int .i64 u, .int .i64 t, .int .i64 l] 2)).drew).trans (hb4.mono (Nat.le_trans hBs (le_al w3 _)))); have z4 : w.heap.size ≤ w4.heap.size := Nat.le_trans (Nat.le_trans hBs (le_al w3 _)) hb4.size; clear ho4 hb4 CO; refine ⟨_, rfl, ?_⟩)
        | (refine step_append_own rfl (.tmp 19) (.tmp 25) 24 rfl w.heap.size 2 i0 (.int .i64 0) 1 8 Tryd.underlying24 hi hz0 hz1 hz2 rfl (by decide) v4 X.length (X.map (Value.int .i64)) (by simp [Act.eval]) (unhide O4) ⟨w3.heap.size, 0, none⟩ 3 3 [.int .i64 u, .int .i64 t, .int .i64 l] (by simp [Act.eval]) (by simp) (unhide HN) (by intro s hs; simp at hs; rcases hs with rfl | rfl | rfl <;> rfl) (by unfold maxLen; omega) (by omega) z4 ?_; intro v5 w5 hown' hgrow; have O5 := hide hown'; have B5 := hide ((unhide B4).grown hgrow z4 (fun m hm => ((unhide O4).lt m hm).1)); clear hown' hgrow O4 B4 HN)
        | (refine step_append_own rfl (.tmp 19) (.tmp 25) 24 rfl w.heap.size 2 i0 (.int .i64 0) 1 8 Tryd.underlying24 hi hz0 hz1 hz2 rfl (by decide) v4 X.length (X.map (Value.int .i64)) (by simp [Act.eval]) ((unhide O4).alloc _) ⟨w4.heap.size, 0, none⟩ 3 3 [.int .i64 u, .int .i64 t, .int .i64 l] (by simp [Act.eval]) (by simp) (three_new _ _ _ _ _) (by intro s hs; simp at hs; rcases hs with rfl | rfl | rfl <;> rfl) (by unfold maxLen; omega) (by omega) (by simp; omega) ?_; intro v5 w5 hown' hgrow; have O5 := hide hown'; have B5 := hide (((unhide B4).alloc z4 _).grown hgrow (Nat.le_trans z4 (le_al w4 _)) (fun m hm => ((unhide O4).lt m hm).1)); clear hown' hgrow O4 B4 d0 d1))
      all_goals
        clear B3 c0d c1d hz3 hBs
        have o5 := unhide O5
        rw [show X.map (Value.int .i64) ++ [.int .i64 u, .int .i64 t, .int .i64 l] = (X ++ [u, t, l]).map (Value.int .i64) by simp] at o5
        obtain ⟨g, cap, rfl, hg, hgl, R5⟩ := rw_of (w := w) o5 (by omega)
        have hlr := R5.len
        have SC := hide (sortC w5 w5 w.heap.size g (X.length + 3) cap (X ++ [u, t, l]) (by omega) R5)
        have CK := hide (fun W h => compactC w5 W w.heap.size g (X.length + 3) cap (srt (X ++ [u, t, l])) (by omega) (by omega) h)
        have HQ : Hid (cmk (srt (X ++ [u, t, l])) (X.length + 3) = A) := hide (by
          obtain ⟨s1, s2, _⟩ := srt_ok (X ++ [u, t, l])
          rw [unhide HA, ← cmk_cmp s1, s2, hlr])
        rw [unhide HQ] at CK
        clear O5 o5 R5 hlr HA HQ
        go_simp
        go_wp2_with (first
          | (go_at_call 18; refine (unhide SC).mono ?_; rintro e w6 ⟨rfl, hr6⟩; have R6 := hide hr6; clear hr6)
          | (go_at_call 19; refine ((unhide CK) _ (unhide R6)).mono ?_; rintro e w7 ⟨rfl, hr7⟩; have R7 := hide hr7; clear hr7))
        go_ret
        refine ⟨_, rfl, by rw [unhide HR]; exact (unhide R7).ow, (unhide B5).grown (unhide R7).gr (unhide B5).size (fun m hm => by cases hm; exact hg)⟩
    · have eI : lowS p = l := by rw [← unhide HRT, unhide HI, if_neg c]
      rw [eI] at CL
      have c' : (tw p == 609) = false := by simp [c]
      clear HI HRT eI c CI
      generalize tw p = q at *
      go_upto_region 7 with (first
        | (go_at_call 12; refine ((unhide CP) _).mono ?_; rintro e w' ⟨rfl, hw⟩; obtain rfl := hw.symm; clear hw)
        | (go_at_call 13; refine ((unhide CL) _ (unhide HT)).mono ?_; rintro e w1 ⟨rfl, hb1⟩; have B1 := hide hb1; have HT1 := hide ((unhide HT).below hb1); clear hb1)
        | (go_at_call 14; refine ((unhide CT) _).mono ?_; rintro e w' ⟨rfl, hw⟩; obtain rfl := hw.symm; clear hw)
        | (go_at_call 16; refine ((unhide CC) _ (unhide HT1)).mono ?_; rintro e w2 ⟨rfl, hb2⟩; have B2 := hide ((unhide B1).trans (hb2.mono (unhide B1).size)); clear hb2 B1))
      have B3 := hide ((unhide B2).alloc (unhide B2).size (.cells #[.int .i64 u, .int .i64 t, .int .i64 (lowS l)] 37))
      have c0 : (w2.alloc (.cells #[.int .i64 u, .int .i64 t, .int .i64 (lowS l)] 37)).cell? ⟨w2.heap.size, 0, none⟩ = some (.int .i64 u) := by simp
      have c1 : (w2.alloc (.cells #[.int .i64 u, .int .i64 t, .int .i64 (lowS l)] 37)).cell? ⟨w2.heap.size, 1, none⟩ = some (.int .i64 t) := by simp
      have hz3 : w2.heap.size < (w2.alloc (.cells #[.int .i64 u, .int .i64 t, .int .i64 (lowS l)] 37)).heap.size := by simp
      generalize w2.alloc (.cells #[.int .i64 u, .int .i64 t, .int .i64 (lowS l)] 37) = w3 at *
      have hBs := (unhide B3).size
      have hXl := unhide HX
      have c0d : w3.drew.cell? ⟨w2.heap.size, 0, none⟩ = some (.int .i64 u) := c0
      have c1d : w3.drew.cell? ⟨w2.heap.size, 1, none⟩ = some (.int .i64 t) := c1
      clear CP CL CT CC HT HT1 B2 c0 c1 c'
      go_region_law (first
        | (refine step_call rfl 17 #[.tmp 18] #[2] rfl #[.int .i64 l] (by first | (simp [Act.eval]; done) | simp [Act.eval, Act.put]) (by kernel_rfl) (((unhide CO) w3.drew).mono ?_); rintro e w4 ⟨v4, rfl, ho4, hb4⟩; have O4 := hide (own_low ho4 hBs); have d0 := (hb4.cell (p := ⟨w2.heap.size, 0, none⟩) hz3).trans c0d; have d1 := (hb4.cell (p := ⟨w2.heap.size, 1, none⟩) hz3).trans c1d; have B4 := hide (((unhide B3).drew).trans (hb4.mono hBs)); have z4 : w.heap.size ≤ w4.heap.size := Nat.le_trans hBs hb4.size; clear ho4 hb4 CO; refine ⟨_, rfl, ?_⟩)
        | (refine step_call rfl 17 #[.tmp 18] #[2] rfl #[.int .i64 l] (by simp [Act.eval]) (by kernel_rfl) (((unhide CO) (w3.alloc (.cells #[.int .i64 u, .int .i64 t, .int .i64 l] 2)).drew).mono ?_); rintro e w4 ⟨v4, rfl, ho4, hb4⟩; have O4 := hide (own_low ho4 (Nat.le_trans hBs (le_al w3 (.cells #[.int .i64 u, .int .i64 t, .int .i64 l] 2)))); have HN := hide (three_kept hb4); have B4 := hide ((((unhide B3).alloc hBs (.cells #[.int .i64 u, .int .i64 t, .int .i64 l] 2)).drew).trans (hb4.mono (Nat.le_trans hBs (le_al w3 _)))); have z4 : w.heap.size ≤ w4.heap.size := Nat.le_trans (Nat.le_trans hBs (le_al w3 _)) hb4.size; clear ho4 hb4 CO; refine ⟨_, rfl, ?_⟩)
        | (refine step_append_own rfl (.tmp 19) (.tmp 25) 24 rfl w.heap.size 2 i0 (.int .i64 0) 1 8 Tryd.underlying24 hi hz0 hz1 hz2 rfl (by decide) v4 X.length (X.map (Value.int .i64)) (by simp [Act.eval]) (unhide O4) ⟨w3.heap.size, 0, none⟩ 3 3 [.int .i64 u, .int .i64 t, .int .i64 l] (by simp [Act.eval]) (by simp) (unhide HN) (by intro s hs; simp at hs; rcases hs with rfl | rfl | rfl <;> rfl) (by unfold maxLen; omega) (by omega) z4 ?_; intro v5 w5 hown' hgrow; have O5 := hide hown'; have B5 := hide ((unhide B4).grown hgrow z4 (fun m hm => ((unhide O4).lt m hm).1)); clear hown' hgrow O4 B4 HN)
        | (refine step_append_own rfl (.tmp 19) (.tmp 25) 24 rfl w.heap.size 2 i0 (.int .i64 0) 1 8 Tryd.underlying24 hi hz0 hz1 hz2 rfl (by decide) v4 X.length (X.map (Value.int .i64)) (by simp [Act.eval]) ((unhide O4).alloc _) ⟨w4.heap.size, 0, none⟩ 3 3 [.int .i64 u, .int .i64 t, .int .i64 l] (by simp [Act.eval]) (by simp) (three_new _ _ _ _ _) (by intro s hs; simp at hs; rcases hs with rfl | rfl | rfl <;> rfl) (by unfold maxLen; omega) (by omega) (by simp; omega) ?_; intro v5 w5 hown' hgrow; have O5 := hide hown'; have B5 := hide (((unhide B4).alloc z4 _).grown hgrow (Nat.le_trans z4 (le_al w4 _)) (fun m hm => ((unhide O4).lt m hm).1)); clear hown' hgrow O4 B4 d0 d1))
      all_goals
        clear B3 c0d c1d hz3 hBs
        have o5 := unhide O5
        rw [show X.map (Value.int .i64) ++ [.int .i64 u, .int .i64 t, .int .i64 l] = (X ++ [u, t, l]).map (Value.int .i64) by simp] at o5
        obtain ⟨g, cap, rfl, hg, hgl, R5⟩ := rw_of (w := w) o5 (by omega)
        have hlr := R5.len
        have SC := hide (sortC w5 w5 w.heap.size g (X.length + 3) cap (X ++ [u, t, l]) (by omega) R5)
        have CK := hide (fun W h => compactC w5 W w.heap.size g (X.length + 3) cap (srt (X ++ [u, t, l])) (by omega) (by omega) h)
        have HQ : Hid (cmk (srt (X ++ [u, t, l])) (X.length + 3) = A) := hide (by
          obtain ⟨s1, s2, _⟩ := srt_ok (X ++ [u, t, l])
          rw [unhide HA, ← cmk_cmp s1, s2, hlr])
        rw [unhide HQ] at CK
        clear O5 o5 R5 hlr HA HQ
        go_simp
        go_wp2_with (first
          | (go_at_call 18; refine (unhide SC).mono ?_; rintro e w6 ⟨rfl, hr6⟩; have R6 := hide hr6; clear hr6)
          | (go_at_call 19; refine ((unhide CK) _ (unhide R6)).mono ?_; rintro e w7 ⟨rfl, hr7⟩; have R7 := hide hr7; clear hr7))
        go_ret
        refine ⟨_, rfl, by rw [unhide HR]; exact (unhide R7).ow, (unhide B5).grown (unhide R7).gr (unhide B5).size (fun m hm => by cases hm; exact hg)⟩
  · have HR := hide (show csI p = [] from if_neg hp)
    have C := hide (fun W => nopt_i p W hp)
    clear hp ht
    go_enter Tryd.func5, Tryd.ntmps5
    go_wp2_with (go_at_call 12; refine ((unhide C) _).mono ?_; rintro e w' ⟨rfl, rfl⟩)
    go_ret
    exact ⟨_, rfl, by rw [unhide HR]; exact ⟨rfl, .inl ⟨rfl, rfl⟩⟩, Below.refl _ _⟩
end Go.Proofs.YtecbbifepbgmlaaDoor.Cas
