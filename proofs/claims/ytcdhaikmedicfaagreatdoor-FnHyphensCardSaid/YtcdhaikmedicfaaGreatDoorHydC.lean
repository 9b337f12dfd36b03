/- The draws of FnHyphens: patterns and a word; rows and a gap. -/
import Derived.Test.YtcdhaikmedicfaaGreatDoorHydW
import Derived.Test.YtcdhaikmedicfaaGreatDoorHYA
namespace Go.Proofs.YtcdhaikmedicfaaGreatDoor.Dr
open Go.RowKit
attribute [local go_sem] Oper.semAt_some
set_option linter.unusedVariables false
set_option linter.unusedSimpArgs false
theorem mixedD : Tryz.prog.follows Departure.mixedOrders = true := by kernel_rfl
set_option maxRecDepth 100000 in
set_option maxHeartbeats 4000000 in
theorem drawH_any (w : World) (a : Option Addr) (len cap : Nat) (hl : len ≤ 1048576) (hc : CodeIn w a len) :
    Calls Tryz.prog 4 #[.slice a len cap] w fun e w' => ∃ (v : Value) (L : List ByteArray) (t : ByteArray), e = .returned (.tuple #[v, .string t]) ∧ w'.ownsRow w.heap.size 9 1 v L.length (L.map Value.string) ∧ L.length ≤ 20 ∧ (∀ i, i < L.length → (nthS L i).size ≤ 100) ∧ t.size ≤ 100001 ∧ Below w.heap.size w w' := by
  have CS := hide (source_any w a len cap hl hc)
  clear hc
  go_enter Tryz.func4, Tryz.ntmps4
  go_wp2_with fail
  refine (unhide CS).mono ?_
  rintro e w1 ⟨rfl, size, hz0, hz1, hs1, hb1, hlt1⟩
  have S1 := hide hs1
  have B1 := hide hb1
  have zb1 := hb1.size
  clear hs1 hb1 CS
  have HBT : Hid (∀ (V V' : World), Below w.heap.size w V → V.grownBy V' (some w.heap.size) → Below w.heap.size w V') := hide (fun V V' hb hg => hb.grown hg hb.size (fun k e => by injection e with e; omega))
  go_wp2_with fail
  refine (n_nat _ w.heap.size a len cap size 7 (by omega) (by omega) hl (unhide S1)).mono ?_
  rintro e w2 ⟨r, rfl, hr, hs2, hg2⟩
  have S2 := hide hs2
  have B2 := hide ((unhide HBT) _ _ (unhide B1) hg2)
  clear hs2 hg2 S1 B1
  go_wp2_with fail
  refine (word_any _ w.heap.size a len cap size r (by omega) hl (unhide S2)).mono ?_
  rintro e w3 ⟨t, rfl, ht, hs3, hg3⟩
  have S3 := hide hs3
  have B3 := hide ((unhide HBT) _ _ (unhide B2) hg3)
  clear hs3 hg3 S2 B2
  go_wp2_with fail
  refine (one_any _ w.heap.size a len cap size 8 (by omega) (by omega) hl (unhide S3)).mono ?_
  rintro e w4 ⟨b, rfl, hs4, hg4⟩
  have S4 := hide hs4
  have B4 := hide ((unhide HBT) _ _ (unhide B3) hg4)
  clear hs4 hg4 S3 B3
  cases b
  · go_wp2_with fail
    refine (pats_any _ w.heap.size a len cap size hl (unhide S4)).mono ?_
    rintro e w5 ⟨v, L, rfl, ho, hL, hLz, hs5, hg5⟩
    have O5 := hide (low_own ho (unhide B4).size)
    have B5 := hide ((unhide HBT) _ _ (unhide B4) hg5)
    have HL := hide hLz
    clear ho hs5 hg5 S4 B4 hLz
    go_wp2_with fail
    go_ret2
    exact ⟨v, L, t, rfl, unhide O5, hL, unhide HL, by omega, unhide B5⟩
  · go_wp2_with fail
    refine (spoil_any _ w.heap.size a len cap size t hl (by omega) (unhide S4)).mono ?_
    rintro e w6 ⟨t2, rfl, ht2, hs6, hg6⟩
    have S6 := hide hs6
    have B6 := hide ((unhide HBT) _ _ (unhide B4) hg6)
    clear hs6 hg6 S4 B4
    go_wp2_with fail
    refine (pats_any _ w.heap.size a len cap size hl (unhide S6)).mono ?_
    rintro e w5 ⟨v, L, rfl, ho, hL, hLz, hs5, hg5⟩
    have O5 := hide (low_own ho (unhide B6).size)
    have B5 := hide ((unhide HBT) _ _ (unhide B6) hg5)
    have HL := hide hLz
    clear ho hs5 hg5 S6 B6 hLz
    go_wp2_with fail
    go_ret2
    exact ⟨v, L, t2, rfl, unhide O5, hL, unhide HL, ht2, unhide B5⟩
set_option maxRecDepth 100000 in
set_option maxHeartbeats 8000000 in
theorem drawC_any (w : World) (a : Option Addr) (len cap : Nat) (hl : len ≤ 1048576) (hc : CodeIn w a len) :
    Calls Tryz.prog 8 #[.slice a len cap] w fun e w' => ∃ (v : Value) (L : List ByteArray) (gap : Int), e = .returned (.tuple #[v, .int .i64 gap]) ∧ w'.ownsRow w.heap.size 9 1 v L.length (L.map Value.string) ∧ L.length ≤ 20 ∧ Below w.heap.size w w' := by
  obtain ⟨i0, hi, hz0, hz1, hz2⟩ := info_parts info9
  have CS := hide (source_any w a len cap hl hc)
  have hmx : Tryz.prog.follows Departure.mixedOrders = true := mixedD
  clear hc
  go_enter Tryz.func8, Tryz.ntmps8
  go_wp2_with fail
  refine (unhide CS).mono ?_
  rintro e w1 ⟨rfl, size, hzz0, hzz1, hs1, hb1, hlt1⟩
  have HA := hide (aIn_of hs1)
  have S1 := hide (src_alloc hs1 (.cells #[] 9))
  have B1 := hide hb1
  have D1 : Hid (Dc w1.heap.size (w1.alloc (.cells #[] 9)) (.slice (some ⟨w1.heap.size, 0, none⟩) 0 0) []) := hide (Dc.of (World.ownsRow_lit w1 #[] 0 (Nat.le_refl _) (by unfold maxLen; omega) rfl) (by simp))
  have G1 := hide (grown_alloc w1 (.cells #[] 9) (some w.heap.size))
  clear hs1 hb1 CS
  have HBS := hide (unhide B1).size
  obtain ⟨src, hsrcE⟩ : ∃ src, w.heap.size = src := ⟨_, rfl⟩
  have hsrc : src < w1.heap.size := by omega
  have HQ : Hid (∀ (v : Value) (L : List ByteArray) (V : World), V.ownsRow w1.heap.size 9 1 v L.length (L.map Value.string) → V.ownsRow w.heap.size 9 1 v L.length (L.map Value.string)) := hide (fun v L V h => low_own h (unhide HBS))
  have HFIN : Hid (∀ V, w1.grownBy V (some src) → Below w.heap.size w V) := hide (fun V hg => (unhide B1).grown hg (unhide B1).size (fun k e => by injection e with e; omega))
  simp only [hsrcE] at S1 G1 ⊢
  clear hsrcE
  go_upto_region 4 with (go_at_call 14; refine (n_nat _ src a len cap size 6 (by omega) (by omega) hl (unhide S1)).mono ?_; rintro e w2 ⟨r, rfl, hr, hs2, hg2⟩; have S2 := hide hs2; have G2 := hide (grown_trans (unhide G1) hg2); have D2 := hide ((unhide D1).kept hg2 (fun k e x => by cases x; have := ((unhide D1).own.lt _ e).1; omega)); clear hs2 hg2)
  clear S1 G1 D1
  go_wp2
  go_loopw [5, 6] (fun v x wr => ∃ (k : Nat) (L : List ByteArray), x = .int .i64 (k : Int) ∧ k + L.length ≤ 6 ∧ Hid (Dc w1.heap.size wr v L) ∧ Hid (SrcAt wr src a len cap size) ∧ Hid (w1.grownBy wr (some src))) (fun _ x _ => (intOf x).toNat)
  case atStart => exact ⟨r, [], rfl, by simp; omega, D2, S2, G2⟩
  case round =>
    obtain ⟨k, L, rfl, hkL, HD, HS, HG⟩ := hrel
    clear D2 S2 G2
    by_cases hk : 0 < k
    · have hk' : (0 : Int) < (k : Int) := by omega
      obtain ⟨g, cp, hu5, hg1, hg2, hg3, hg4⟩ := (unhide HD).form
      subst hu5
      go_upto_region 8 with (go_at_call 14; refine (n_nat _ src a len cap size 4 (by omega) (by omega) hl (unhide HS)).mono ?_; rintro e w2 ⟨r2, rfl, hr2, hs2, hgr2⟩; have HS2 := hide hs2; have HG2 := hide (grown_trans (unhide HG) hgr2); have D2 := hide ((unhide HD).kept hgr2 (fun k e x => by cases x; have := ((unhide HD).own.lt _ e).1; omega)); clear hs2 hgr2)
      clear HD HS HG hg2
      go_wp2
      go_loopw [7, 8] (fun tv nv wr => ∃ (m : Nat) (t : ByteArray), tv = .string t ∧ nv = .int .i64 (m : Int) ∧ t.size + 6 * m ≤ 24 ∧ Hid (Dc w1.heap.size wr (.slice (some ⟨g, 0, none⟩) L.length cp) L) ∧ Hid (SrcAt wr src a len cap size) ∧ Hid (w1.grownBy wr (some src))) (fun _ nv _ => (intOf nv).toNat)
      case atStart => exact ⟨r2, ⟨#[]⟩, rfl, rfl, by show 0 + 6 * r2 ≤ 24; omega, D2, HS2, HG2⟩
      case round =>
        obtain ⟨m, t, rfl, rfl, ht, HD, HS, HG⟩ := hrel
        clear D2 HS2 HG2
        by_cases hm : 0 < m
        · have hm' : (0 : Int) < (m : Int) := by omega
          have TOK : True := trivial
          go_wp2_with (first
            | (clear TOK; go_at_call 27; refine (writeN _ _).mono ?_; rintro e w4 ⟨u1, rfl, hu1, hb4⟩; have S4 := hide (src_below (unhide HS) hb4); have G4 := hide (grown_bel (unhide HG) hb4); have D4 := hide ((unhide HD).below hb4); clear hb4)
            | (go_at_call 27; refine (writeN _ _).mono ?_; rintro e w5 ⟨u2, rfl, hu2, hb5⟩; have S5 := hide (src_below (unhide S4) hb5); have G5 := hide (grown_bel (unhide G4) hb5); have D5 := hide ((unhide D4).below hb5); clear hb5; have HADx := fun W => run_string_add_sum (P := Tryz.prog) (w := W) ⟨#[120]⟩ u2 (by show 1 + u2.size ≤ _; omega); have hx2 : (⟨#[120]⟩ ++ u2 : ByteArray).size ≤ 5 := (by rw [ByteArray.size_append]; show 1 + u2.size ≤ 5; omega); generalize (⟨#[120]⟩ ++ u2 : ByteArray) = u3x at *; have hlt := src_lt (unhide S5); have HSA := hide (src_alloc (unhide S5) (.cells #[.string ⟨#[97]⟩, .string ⟨#[97, 98, 99]⟩, .string ⟨#[]⟩, .string u1, .string u3x] 9)); have HGA := hide (grown_trans (unhide G5) (grown_alloc w5 (.cells #[.string ⟨#[97]⟩, .string ⟨#[97, 98, 99]⟩, .string ⟨#[]⟩, .string u1, .string u3x] 9) (some src))); have HDA := hide ((unhide D5).below (al1 w5 (.cells #[.string ⟨#[97]⟩, .string ⟨#[97, 98, 99]⟩, .string ⟨#[]⟩, .string u1, .string u3x] 9))); have HLT := hide (lit_cells w5 #[.string ⟨#[97]⟩, .string ⟨#[97, 98, 99]⟩, .string ⟨#[]⟩, .string u1, .string u3x] 5 5 (fun i hi => by
                have hi' : i = 0 ∨ i = 1 ∨ i = 2 ∨ i = 3 ∨ i = 4 := by omega
                rcases hi' with rfl | rfl | rfl | rfl | rfl
                · exact ⟨_, rfl, by decide⟩
                · exact ⟨_, rfl, by decide⟩
                · exact ⟨_, rfl, by decide⟩
                · exact ⟨_, rfl, by omega⟩
                · exact ⟨_, rfl, by omega⟩)))
            | (go_at_call 26; refine (pickN_any _ src a len cap size w5.heap.size 5 5 5 (by omega) (by omega) hl (unhide HSA) (by simp) (by omega) (unhide HLT)).mono ?_; rintro e w6 ⟨p, rfl, hp, hs, hg⟩; have S6 := hide hs; have G6 := hide (grown_trans (unhide HGA) hg); have D6 := hide ((unhide HDA).kept hg (fun k e x => by cases x; have := ((unhide HDA).own.lt _ e).1; omega)); clear hs hg; have HAD := fun W => run_string_add_sum (P := Tryz.prog) (w := W) t p (by omega); have htp : (t ++ p).size ≤ t.size + 5 := (by rw [ByteArray.size_append]; omega); generalize t ++ p = tp at *; have HAD2 := fun W => run_string_add_sum (P := Tryz.prog) (w := W) tp ⟨#[9]⟩ (by show tp.size + 1 ≤ _; omega)))
          have hsz2 : (tp ++ ⟨#[9]⟩).size + 6 * (m - 1) ≤ 24 := by rw [ByteArray.size_append]; show tp.size + 1 + _ ≤ _; omega
          go_roundw
          case rel => exact ⟨m - 1, tp ++ ⟨#[9]⟩, rfl, by go_num, hsz2, D6, S6, G6⟩
          case measure => simp [intOf]; omega
        · obtain rfl : m = 0 := by omega
          have hm' : ¬ (0 : Int) < ((0 : Nat) : Int) := by omega
          have hlt := src_lt (unhide HS)
          have HSA := hide (src_alloc (unhide HS) (.cells #[.string ⟨#[]⟩, .string ⟨#[101, 110, 100]⟩] 9))
          have HGA := hide (grown_trans (unhide HG) (grown_alloc wr (.cells #[.string ⟨#[]⟩, .string ⟨#[101, 110, 100]⟩] 9) (some src)))
          have HDA := hide ((unhide HD).below (al1 wr (.cells #[.string ⟨#[]⟩, .string ⟨#[101, 110, 100]⟩] 9)))
          have HLT := hide (lit_cells wr #[.string ⟨#[]⟩, .string ⟨#[101, 110, 100]⟩] 2 3 (fun i hi => by
            have hi' : i = 0 ∨ i = 1 := by omega
            rcases hi' with rfl | rfl <;> exact ⟨_, rfl, by decide⟩))
          go_wp2_with (first
            | (go_at_call 26; refine (pickN_any _ src a len cap size wr.heap.size 2 2 3 (by omega) (by omega) hl (unhide HSA) (by simp) (by omega) (unhide HLT)).mono ?_; rintro e w6 ⟨p, rfl, hp, hs, hg⟩; have S6 := hide hs; have G6 := hide (grown_trans (unhide HGA) hg); have D6 := hide ((unhide HDA).kept hg (fun k e x => by cases x; have := ((unhide HDA).own.lt _ e).1; omega)); clear hs hg; have HAD := fun W => run_string_add_sum (P := Tryz.prog) (w := W) t p (by omega); generalize t ++ p = tp at *)
            | (at_builtin; refine wpList_append_own _ rfl _ _ 23 rfl w1.heap.size 9 i0 (.string ⟨#[]⟩) 1 16 Tryz.underlying23 hi hz0 hz1 hz2 rfl (by decide) _ _ _ rfl (ownG_alloc (unhide D6).own _) ⟨w6.heap.size, 0, none⟩ 1 1 [.string tp] rfl rfl (cell_one_new _ _ _) (by intro u hu; simp at hu; subst hu; rfl) (by unfold maxLen; omega) (by omega) (by have := (unhide G6).size; simp; omega) ?_; intro v5 w7 ho5 hgr5 hn5; have O5 := hide ho5; have R5 := hide hgr5; have N5 := hide hn5; clear ho5 hgr5 hn5))
          have R := hide (grown_row (unhide G6) (unhide D6).own (unhide R5))
          have S7 := hide (src_move (unhide S6) (unhide HA) hsrc (unhide R).2.2 (unhide R).2.1)
          have D7 : Hid (Dc w1.heap.size w7 v5 (L ++ [tp])) := hide (Dc.of (by rw [List.map_append, List.length_append]; exact unhide O5) (fun e => by have := (unhide N5).1 e; have := this.1; cases this))
          go_roundw
          case rel => exact ⟨k - 1, L ++ [tp], by go_num, by simp; omega, D7, S7, hide (unhide R).1⟩
          case measure => simp [intOf]; omega
    · obtain rfl : k = 0 := by omega
      have hk' : ¬ (0 : Int) < ((0 : Nat) : Int) := by omega
      obtain ⟨g, cp, hu5, hg1, hg2, hg3, hg4⟩ := (unhide HD).form
      subst hu5
      have hlt := src_lt (unhide HS)
      go_upto_region 12 with fail
      have HO6 : Hid (∀ i, i < 6 → ∃ x : Int, (#[Value.int .i64 0, .int .i64 1, .int .i64 2, .int .i64 20, .int .i64 21, .int .i64 (-1)] : Array Value)[i]? = some (.int .i64 x)) := hide (fun i hi => by
        have hi' : i = 0 ∨ i = 1 ∨ i = 2 ∨ i = 3 ∨ i = 4 ∨ i = 5 := by omega
        rcases hi' with rfl | rfl | rfl | rfl | rfl | rfl <;> exact ⟨_, rfl⟩)
      refine (wpIn_wide (n := 1)).1 ?_
      refine Hyp.region_inv hmx (fun lf ac w' => ∃ (b0 b1 b2 b3 b4 b5 b6 b7 : Bool) (hb ri : Nat) (xv : Int), lf = #[b0, b1, b2, b3, b4, b5, b6, b7] ∧ ac = { tmps := #[.slice a len cap, undef, (bif b6 then .slice (some ⟨g, 0, none⟩) L.length cp else .slice none 0 0), (bif b7 then .int .i64 xv else .int .i64 0), .pointer (some ⟨src, 0, none⟩), .slice (some ⟨g, 0, none⟩) L.length cp, .int .i64 ((0 : Nat) : Int), u7, u8, .slice a len cap, .pointer (some ⟨src, 0, none⟩), .slice (some ⟨w1.heap.size, 0, none⟩) 0 0, .pointer (some ⟨src, 0, none⟩), .int .i64 (r : Int), .int .i64 ((0 : Nat) : Int), .bool false, u16, u17, u18, u19, u20, u21, u22, u23, u24, u25, u26, u27, u28, u29, u30, u31, u32, u33, u34, u35, u36, u37, u38, u39, u40, (bif b0 then .slice (some ⟨g, 0, none⟩) L.length cp else undef), (bif b1 then .slice (some ⟨hb, 0, none⟩) 6 6 else undef), (bif b2 then .pointer (some ⟨src, 0, none⟩) else undef), (bif b3 then .int .i64 (ri : Int) else undef), (bif b4 then .pointer (some ⟨hb, ri, none⟩) else undef), (bif b5 then .int .i64 xv else undef)], defers := [] } ∧ Hid (SrcAt w' src a len cap size) ∧ Hid (w1.grownBy w' (some src)) ∧ Hid (Dc w1.heap.size w' (.slice (some ⟨g, 0, none⟩) L.length cp) L) ∧ (b1 = true → w'.heap[hb]? = some (.cells #[.int .i64 0, .int .i64 1, .int .i64 2, .int .i64 20, .int .i64 21, .int .i64 (-1)] 2 (0, 0)) ∧ hb ≠ src) ∧ (b3 = true → ri < 6) ∧ (b4 = true → b1 = true ∧ b3 = true) ∧ (b7 = true → b5 = true)) (by kernel_rfl) ?size ?first ?step ?last
      case size =>
        rintro lf ac w' ⟨b0, b1, b2, b3, b4, b5, b6, b7, hb, ri, xv, rfl, _⟩
        rfl
      case first => exact ⟨false, false, false, false, false, false, false, false, 0, 0, 0, rfl, rfl, hide (src_below (unhide HS) (bdrew (Below.refl wr.heap.size wr) 1)), hide (grown_bel (unhide HG) (bdrew (Below.refl wr.heap.size wr) 1)), hide ((unhide HD).below (bdrew (Below.refl wr.heap.size wr) 1)), (fun h => by cases h), (fun h => by cases h), (fun h => by cases h), (fun h => by cases h)⟩
      case step =>
        rintro ii lf ac w' ⟨b0, b1, b2, b3, b4, b5, b6, b7, hb, ri, xv, rfl, rfl, hS, hG, hD, h1, h3, h4, h7⟩ hr
        have hr := mem_ready.1 hr
        rcases ii with _ | _ | _ | _ | _ | _ | _ | _ | ii
        · simp [Region.binds] at hr
          repeat (rcases hr with ⟨hq, hr⟩)
          subst_vars
          refine wpOpIn_step rfl (fun K hK => ?_)
          go_simp
          refine hK _ _ ⟨true, _, _, _, _, _, _, _, hb, ri, xv, rfl, rfl, hS, hG, hD, h1, h3, h4, h7⟩
        · simp [Region.binds] at hr
          repeat (rcases hr with ⟨hq, hr⟩)
          subst_vars
          have S2 := hide (src_alloc (unhide hS) (.cells #[.int .i64 0, .int .i64 1, .int .i64 2, .int .i64 20, .int .i64 21, .int .i64 (-1)] 2))
          have G2 := hide (grown_trans (unhide hG) (grown_alloc w' (.cells #[.int .i64 0, .int .i64 1, .int .i64 2, .int .i64 20, .int .i64 21, .int .i64 (-1)] 2) (some src)))
          have D2 := hide ((unhide hD).below (al1 w' (.cells #[.int .i64 0, .int .i64 1, .int .i64 2, .int .i64 20, .int .i64 21, .int .i64 (-1)] 2)))
          have hlt2 := src_lt (unhide hS)
          obtain rfl : b4 = false := by cases b4 <;> simp_all
          refine wpOpIn_step rfl (fun K hK => ?_)
          go_simp
          refine hK _ _ ⟨_, true, _, _, _, _, _, _, w'.heap.size, ri, xv, rfl, rfl, S2, G2, D2, (fun _ => ⟨by unfold World.alloc; exact Array.getElem?_push_size, by omega⟩), h3, (fun h => by cases h), h7⟩
        · simp [Region.binds] at hr
          repeat (rcases hr with ⟨hq, hr⟩)
          subst_vars
          refine wpOpIn_step rfl (fun K hK => ?_)
          go_simp
          refine hK _ _ ⟨_, _, true, _, _, _, _, _, hb, ri, xv, rfl, rfl, hS, hG, hD, h1, h3, h4, h7⟩
        · simp [Region.binds] at hr
          repeat (rcases hr with ⟨hq, hr⟩)
          subst_vars
          obtain rfl : b4 = false := by cases b4 <;> simp_all
          refine wpOpIn_step rfl (fun K hK => ?_)
          go_simp
          (first | refine ⟨trivial, (fun h => (by cases h)), ?_⟩ | refine ⟨trivial, ?_⟩)
          gi_at_call 14
          refine (callsIn_wide.2 (n_nat _ src a len cap size 6 (by omega) (by omega) hl (unhide hS))).mono ?_
          rintro e W5 ⟨r5, rfl, hr5, hs5, hg5⟩
          have hr6 : r5 < 6 := by omega
          have S5 := hide hs5
          have G5 := hide (grown_trans (unhide hG) hg5)
          have D5 := hide ((unhide hD).kept hg5 (fun k e x => by cases x; have := ((unhide hD).own.lt _ e).1; omega))
          have K5 : b1 = true → W5.heap[hb]? = some (.cells #[.int .i64 0, .int .i64 1, .int .i64 2, .int .i64 20, .int .i64 21, .int .i64 (-1)] 2 (0, 0)) ∧ hb ≠ src := fun h => ⟨(hg5.block hb (Array.getElem?_eq_some_iff.1 (h1 h).1).1 (fun e => (h1 h).2 (by injection e))).trans (h1 h).1, (h1 h).2⟩
          clear hs5 hg5
          refine hK _ _ ⟨_, _, _, true, _, _, _, _, hb, r5, xv, rfl, rfl, S5, G5, D5, K5, (fun _ => hr6), (fun h => by first | (exact ⟨(h4 h).1, rfl⟩) | (cases h)), h7⟩
        · simp [Region.binds] at hr
          repeat (rcases hr with ⟨hq, hr⟩)
          subst_vars
          have hr6 : (ri : Int) < 6 := by have := h3 rfl; omega
          have hr0 : (0 : Int) ≤ (ri : Int) := by omega
          refine wpOpIn_step rfl (fun K hK => ?_)
          go_simp
          refine hK _ _ ⟨_, _, _, _, true, _, _, _, hb, ri, xv, rfl, rfl, hS, hG, hD, h1, h3, (fun _ => ⟨rfl, rfl⟩), h7⟩
        · simp [Region.binds] at hr
          repeat (rcases hr with ⟨hq, hr⟩)
          subst_vars
          obtain ⟨e1, e3⟩ := h4 rfl
          subst e1
          subst e3
          obtain ⟨x, hx⟩ := (unhide HO6) ri (h3 rfl)
          have kc : w'.cell? ⟨hb, ri, none⟩ = some (.int .i64 x) := by simp only [World.cell?, (h1 rfl).1]; simpa using hx
          obtain rfl : b7 = false := by cases b7 <;> simp_all
          refine wpOpIn_step rfl (fun K hK => ?_)
          go_simp
          refine hK _ _ ⟨_, _, _, _, _, true, _, _, hb, ri, x, rfl, rfl, hS, hG, hD, h1, h3, (fun _ => ⟨rfl, rfl⟩), (fun h => by cases h)⟩
        · simp [Region.binds] at hr
          repeat (rcases hr with ⟨hq, hr⟩)
          subst_vars
          refine wpOpIn_step rfl (fun K hK => ?_)
          go_simp
          refine hK _ _ ⟨_, _, _, _, _, _, true, _, hb, ri, xv, rfl, rfl, hS, hG, hD, h1, h3, h4, h7⟩
        · simp [Region.binds] at hr
          repeat (rcases hr with ⟨hq, hr⟩)
          subst_vars
          refine wpOpIn_step rfl (fun K hK => ?_)
          go_simp
          refine hK _ _ ⟨_, _, _, _, _, _, _, true, hb, ri, xv, rfl, rfl, hS, hG, hD, h1, h3, h4, (fun _ => rfl)⟩
        · simp at hr
      case last =>
        rintro ac W4 ⟨f0, f1, f2, f3, f4, f5, f6, f7, hb, ri, xv, hlf, rfl, hS, hG, hD, h1, h3, h4, h7⟩
        have hlf := congrArg Array.toList hlf
        simp at hlf
        repeat (rcases hlf with ⟨hq, hlf⟩)
        subst_vars
        clear h1 h3 h4 h7
        go_wp2_with fail
        go_ret2
        have HB9 := (unhide HFIN) _ (unhide hG)
        have HO9 := (unhide HQ) _ _ _ (unhide hD).own
        have hL9 : L.length ≤ 20 := by omega
        exact ⟨_, ⟨xv, rfl⟩, L, HO9, hL9, HB9⟩
end Go.Proofs.YtcdhaikmedicfaaGreatDoor.Dr
