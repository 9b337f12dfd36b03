/- Several texts in one. -/
import Derived.Test.YtlpgndmojpnpdaaDoorFwF
/- FewestWords of the program. -/
namespace Go.Proofs.YtlpgndmojpnpdaaDoor
namespace Fw
open Go.RowKit
set_option linter.unusedVariables false
theorem own_low {w : World} {B B2 n : Nat} {e : TypeId} {v : Value} {xs : List Value} (h : w.ownsRow B2 e 1 v n xs) (hb : B ≤ B2) : w.ownsRow B e 1 v n xs := by
  refine ⟨h.1, ?_⟩
  rcases h.2 with h' | ⟨g, cap, cur, hv, hg, r⟩
  · exact .inl h'
  · exact .inr ⟨g, cap, cur, hv, Nat.le_trans hb hg, r⟩
set_option maxRecDepth 100000 in
set_option maxHeartbeats 16000000 in
theorem cutsF (v : Value) (W : List ByteArray) (s : ByteArray) (w : World) (hv : StrsAt w v W) (hW : Wr W) (hs : s.size ≤ 65536) :
    Calls Tryd.prog 15 #[v, .string s] w fun e w' => ∃ v' C, e = .returned v' ∧ w'.ownsRow w.heap.size 2 1 v' C.length (C.map (Value.int .i64)) ∧ (C = [] ∧ s.size = 0 ∨ C = cu s (fsL W s)) ∧ Below w.heap.size w w' := by
  obtain ⟨i0, hi, hz0, hz1, hz2⟩ := info_parts info2
  by_cases h0 : s.size = 0
  · have hx : s = ⟨#[]⟩ := by
      apply ByteArray.ext
      exact Array.eq_empty_of_size_eq_zero h0
    subst hx
    obtain ⟨av, cap, rfl, _⟩ := hv
    go_enter Tryd.func15, Tryd.ntmps15
    go_wp2
    go_ret
    exact ⟨_, [], rfl, World.ownsRow_nil _ _ _ _, .inl ⟨rfl, rfl⟩, Below.refl _ _⟩
  · have hne := Wd.empty_ne (show 0 < s.size by omega)
    have CE := hide ((callsIn_wide (n := 5)).1 (ends_in v W s w hv hW hs (by omega)))
    have HFS : Hid (fsL W s = wk (fun i => (be (iw s W) (pts s).length i).2) (pts s).length (pts s).length 0) := hide rfl
    have hn := Nat.le_trans (pts_le s) hs
    have HBF := hide (fun i h => @be_first (iw s W) (pts s).length i h)
    obtain ⟨av, cap, rfl, _⟩ := hv
    generalize fsL W s = FS at *
    generalize be (iw s W) (pts s).length = bb at *
    go_enter Tryd.func15, Tryd.ntmps15
    go_upto_region 4 with (go_at_call 24; refine (unhide CE).mono ?_; rintro e w1 ⟨u, E, rfl, hin, hEl, hes, hb1⟩; have I1 := hide hin; have B1 := hide hb1; have HE := hide hes; clear hes hb1; obtain ⟨ua, uc, rfl, _⟩ := hin)
    have hEl' : E.length = s.size := hEl
    have O0 : Hid ((w1.alloc (.cells #[.int .i64 0] 2)).ownsRow w1.heap.size 2 1 (.slice (some ⟨w1.heap.size, 0, none⟩) 1 1) (cu s []).length ((cu s []).map (Value.int .i64))) := hide (World.ownsRow_lit w1 #[.int .i64 0] 1 (Nat.le_refl _) (by unfold maxLen; omega) rfl)
    go_wp2
    go_loopw [6, 7] (fun v' x wr => ∃ (D : List Nat) (i k : Nat), x = .int .i64 (pl s i : Int) ∧ i ≤ (pts s).length ∧ (pts s).length - i ≤ k ∧ D.sum = i ∧ D.length ≤ i ∧ Hid (D ++ wk (fun i => (bb i).2) (pts s).length k i = FS) ∧ Hid (wr.ownsRow w1.heap.size 2 1 v' (cu s D).length ((cu s D).map (Value.int .i64))) ∧ Hid (Below w1.heap.size w1 wr)) (fun _ x _ => s.size - (intOf x).toNat)
    case atStart => exact ⟨[], 0, (pts s).length, rfl, by omega, by omega, rfl, by simp, hide (unhide HFS).symm, O0, hide (al1 _ _)⟩
    case round =>
      obtain ⟨D, i, k, rfl, hi1, hi2, hDs, hDl, HD, HO, HB⟩ := hrel
      clear O0
      by_cases hin : i < (pts s).length
      · have hp := pl_in hin
        have hp' : (pl s i : Int) < (s.size : Int) := by omega
        obtain ⟨k', hkk, hwk⟩ := wk_at (f := fun i => (bb i).2) hin hi2
        have hff := (unhide HBF) i hin
        obtain ⟨b, off, cp, he, hbs, hc⟩ := ints_at (unhide I1) (by omega)
        cases he
        have c0 := hc (pl s i) (by omega)
        rw [(unhide HE) i hin] at c0
        have HD2 : Hid ((D ++ [(bb i).2]) ++ wk (fun i => (bb i).2) (pts s).length k' (i + (bb i).2) = FS) := hide (by rw [← unhide HD, hwk, List.append_assoc]; rfl)
        obtain ⟨f, hf⟩ : ∃ f, (bb i).2 = f := ⟨_, rfl⟩
        rw [hf] at hff c0 HD2
        have hpl := pl_lt (s := s) (show i < i + f by omega) hff.2
        have hple := pl_le s (i + f)
        have HSN := hide (cu_snoc s D f)
        rw [hDs] at HSN
        have hcl := cu_len s D
        obtain ⟨d, hd⟩ : ∃ d, (cu s D).length = d := ⟨_, rfl⟩
        rw [hd] at hcl HO
        have HDD := hide hd
        have c1 := ((unhide HB).cell (p := ⟨b, off + pl s i, none⟩) hbs).trans c0
        have hBz := (unhide HB).size
        have HP := hide hpl
        clear hf hwk hd hc
        obtain ⟨pf, hpf⟩ : ∃ pf, pl s (i + f) = pf := ⟨_, rfl⟩
        rw [hpf] at c0 c1 hple HSN HP
        have HPF := hide hpf
        clear hpf hpl
        generalize pl s i = p0 at *
        go_wp2_with (at_builtin; refine wpList_append_own _ rfl _ _ 30 rfl w1.heap.size 2 i0 (.int .i64 0) 1 8 Tryd.underlying30 hi hz0 hz1 hz2 rfl (by decide) _ _ _ rfl (ownG_alloc (unhide HO) _) ⟨wr.heap.size, 0, none⟩ 1 1 [.int .i64 (pf : Int)] rfl rfl ?c1 ?c2 ?c3 ?c4 ?c5 ?_; rotate_left 5; intro v' w4 hown' hgrow hne; have B4 : Hid (Below w1.heap.size w1 w4) := hide (((unhide HB).alloc (by omega) _).grown hgrow (by simp; omega) (fun m hm => ((unhide HO).lt m hm).1)); have c4 := ((unhide B4).cell (p := ⟨b, off + p0, none⟩) hbs).trans c0; have O4 := hide hown'; clear hown' hgrow hne)
        case c1 => exact cell_one_new _ _ _
        case c2 => first | rfl | (intro u hu; simp at hu; subst hu; rfl)
        case c3 => first | omega | (unfold maxLen; omega)
        case c4 => omega
        case c5 => first | omega | (simp; omega)
        go_roundw
        case rel => exact ⟨D ++ [f], i + f, k', by rw [unhide HPF], by omega, by omega, by simp [hDs], by simp; omega, HD2, hide (by rw [unhide HSN, List.map_append, List.length_append, unhide HDD]; exact unhide O4), B4⟩
        case measure => have := unhide HP; simp [intOf]; omega
      · obtain rfl : i = (pts s).length := by omega
        have hpe : pl s (pts s).length = s.size := pl_end s
        have hge : ¬ (pl s (pts s).length : Int) < (s.size : Int) := by omega
        have HE2 : Hid (FS = D) := hide (by rw [← unhide HD, wk_end, List.append_nil])
        go_wp2
        go_ret
        first
          | exact ⟨_, cu s D, rfl, own_low (unhide HO) (unhide B1).size, .inr (by rw [unhide HE2]), jn2 (unhide B1) (unhide HB)⟩
          | exact ⟨_, rfl, cu s D, own_low (unhide HO) (unhide B1).size, (by first | exact .inr (by rw [unhide HE2]) | rw [unhide HE2]), jn2 (unhide B1) (unhide HB)⟩
theorem piecesF (W : List ByteArray) (s : ByteArray) (C : List Int) (hC : C = [] ∧ s.size = 0 ∨ C = cu s (fsL W s)) (hs : s.size ≤ 65536) : pieces s C = pcI s 0 (fsL W s) ∧ C.length ≤ 65537 ∧ Cuts s C := by
  have hl := (fsL_ok W s).2
  have hn := Nat.le_trans (pts_le s) hs
  rcases hC with ⟨rfl, h0⟩ | rfl
  · have hp := pts_le s
    have e : fsL W s = [] := List.eq_nil_of_length_eq_zero (by omega)
    rw [e]
    exact ⟨rfl, by simp, fun i hi => by simp at hi⟩
  · exact ⟨pieces_cu s _, by rw [cu_len]; omega, cu_cuts s _⟩
set_option maxRecDepth 100000 in
set_option maxHeartbeats 2000000 in
theorem implF (v : Value) (W : List ByteArray) (s : ByteArray) (w : World) (ht : TabAt w) (hv : StrsAt w v W) (hl : W.length ≤ 1048576) (hw : ∀ i, i < W.length → (nthS W i).size ≤ 1048576) :
    Calls Tryd.prog 7 #[v, .string s] w fun e w' => ∃ v', e = .returned v' ∧ w'.ownsRow w.heap.size 9 1 v' (fwO W s).length ((fwO W s).map Value.string) ∧ Below w.heap.size w w' := by
  have CW := hide (Wd.implWF v W w hv hl hw ht)
  have HV := hide hv
  have CC := hide (fun h1 h2 V h => cutsF v W s V h (wr_of h1) h2)
  have HF : Hid (fwO W s = if 65536 < s.size ∨ Wd.wfc W ≠ 0 then [] else pcI s 0 (fsL W s)) := hide rfl
  have HPC := hide (fun C hC hs => piecesF W s C hC hs)
  obtain ⟨av, cap, rfl, _⟩ := hv
  clear hw ht
  generalize fwO W s = R at *
  by_cases hb : 65536 < s.size
  · have hb' : (65536 : Int) < (s.size : Int) := by omega
    have HE : Hid (R = []) := hide (by rw [unhide HF, if_pos (.inl hb)])
    clear CC CW HF
    go_enter Tryd.func7, Tryd.ntmps7
    go_wp2
    go_ret
    refine ⟨_, rfl, ?_, Below.refl _ _⟩
    rw [unhide HE]
    exact World.ownsRow_nil _ _ _ _
  · have hb' : ¬ (65536 : Int) < (s.size : Int) := by omega
    have hbd : decide ((65536 : Int) < (s.size : Int)) = false := by simpa using hb'
    by_cases h0 : Wd.wfc W = 0
    · have HE : Hid (R = pcI s 0 (fsL W s)) := hide (by rw [unhide HF, if_neg (fun h => h.elim hb (fun e => e h0))])
      have C2 := hide ((unhide CC) h0 (by omega))
      have HPC2 := hide (fun C hC => (unhide HPC) C hC (by omega))
      rw [h0] at CW
      have hs6 : s.size ≤ 65536 := by omega
      clear CC h0 HF HPC
      go_enter Tryd.func7, Tryd.ntmps7
      go_wp2_with (first
        | (go_at_call 13; refine (unhide CW).mono ?_; rintro e w1 ⟨rfl, hb1⟩; have B1 := hide hb1; clear hb1)
        | (go_at_call 15; refine ((unhide C2) _ ((unhide HV).below (unhide B1))).mono ?_; rintro e w2 ⟨v2, C, rfl, h2, hC, hb2⟩; have I2 := hide (IntsAt.owned h2); have HC := hide ((unhide HPC2) C hC); have B2 := hide (jn2 (unhide B1) hb2); clear h2 hb2 hC)
        | (go_at_call 14; refine (piecesI s C v2 w2 (unhide I2) (unhide HC).2.1 hs6 (unhide HC).2.2).mono ?_; rintro e w3 ⟨v3, rfl, h3, hb3⟩; have O3 := hide (own_low h3 (unhide B2).size); have B3 := hide (jn2 (unhide B2) hb3); clear h3 hb3))
      go_ret
      exact ⟨_, rfl, by rw [unhide HE, ← (unhide HC).1]; exact unhide O3, unhide B3⟩
    · have HE : Hid (R = []) := hide (by rw [unhide HF, if_pos (.inr h0)])
      have hne : (Wd.wfc W != 0) = true := by simp [bne]; exact h0
      generalize Wd.wfc W = cw at *
      clear CC h0 HF
      go_enter Tryd.func7, Tryd.ntmps7
      go_wp2_with (go_at_call 13; refine (unhide CW).mono ?_; rintro e w1 ⟨rfl, hb1⟩; have B1 := hide hb1; clear hb1)
      go_ret
      refine ⟨_, rfl, ?_, unhide B1⟩
      rw [unhide HE]
      exact World.ownsRow_nil _ _ _ _
end Fw
end Go.Proofs.YtlpgndmojpnpdaaDoor
/- The law of FewestWords. -/
namespace Go.Proofs.YtlpgndmojpnpdaaDoor
open Go.RowKit
set_option linter.unusedVariables false
set_option maxHeartbeats 2000000 in
theorem markS_oth (base g cap : Nat) (l : List ByteArray) (c : Nat) (w : World) (hl : l.length ≤ 1048576) (hc0 : 0 < c) (hc1 : c ≤ 1048576) (hbg : base ≤ g) (hbw : base ≤ w.heap.size)
    (h : w.ownsRow base 9 1 (.slice (some ⟨g, 0, none⟩) l.length cap) l.length (l.map Value.string)) :
    Calls Tryd.prog 9 #[.slice (some ⟨g, 0, none⟩) l.length cap, .int .i64 (c : Int)] w fun e w' => e = .returned (.int .i64 ((c : Int) + l.length)) ∧
      w'.ownsRow base 9 1 (.slice (some ⟨g, 0, none⟩) l.length cap) l.length ((seqS c l.length).map Value.string) ∧ Below base w w' ∧ ∀ k, k ≠ g → k < w.heap.size → w'.heap[k]? = w.heap[k]? := by
  have H := hide h
  clear h
  go_enter Tryd.func9, Tryd.ntmps9
  go_wp2
  go_loopw [1, 5] (fun m i wr => ∃ k : Nat, k ≤ l.length ∧ i = .int .i64 k ∧ m = .int .i64 ((c + k : Nat) : Int) ∧ Hid (wr.ownsRow base 9 1 (.slice (some ⟨g, 0, none⟩) l.length cap) l.length ((mrkS l c k).map Value.string)) ∧ Hid (Below base w wr) ∧ Hid (∀ j, j ≠ g → j < w.heap.size → wr.heap[j]? = w.heap[j]?)) (fun _ i _ => l.length - (intOf i).toNat)
  case atStart => exact ⟨0, Nat.zero_le _, rfl, by simp, hide (by rw [mrkS_zero]; exact unhide H), hide (Below.refl _ _), hide (fun _ _ _ => rfl)⟩
  case round =>
    obtain ⟨k, hk, rfl, rfl, HO, HB, HT⟩ := hrel
    have hsz := (unhide HB).size
    clear H
    by_cases hlt : k < l.length
    · have CM := hide (fun W => markText_any (c + k) W (by omega) (by omega))
      have hbr := Nat.le_trans hbw (unhide HB).size
      have HM := hide (mrkS_set l c k hlt Value.string)
      have hlen := hide (mrkS_length l c k hk)
      generalize mtx (c + k) = X at *
      obtain ⟨m, hm⟩ : ∃ m, c + k = m := ⟨_, rfl⟩
      rw [hm] at CM ⊢
      have hm1 : m ≤ 2097152 := by omega
      have HMM := hide hm
      clear hm
      go_wp2_with (go_at_call 16; refine ((unhide CM) _).mono ?_; rintro e w2 ⟨rfl, hb2⟩; have O2 := hide (ownsRow_below (unhide HO) hb2); have B2 := hide ((unhide HB).trans (hb2.mono hbr)); have T2 := hide (fun (j : Nat) (h1 : j ≠ g) (h2 : j < w.heap.size) => (hb2.block j (by omega)).trans ((unhide HT) j h1 h2)); clear hb2; have c2 := (unhide O2).cellAt k (by omega); rw [List.getElem?_eq_getElem (by simp [unhide hlen]; omega)] at c2; have c3 := (unhide O2).frozenAt k)
      have hst := (unhide O2).stored k (.string X)
      rw [unhide HM] at hst
      have HO' := hide hst.1
      have HB' := hide ((unhide B2).setCell (p := ⟨g, k, none⟩) hbg (.string X))
      have HT' : Hid (∀ j, j ≠ g → j < w.heap.size → (w2.setCell ⟨g, k, none⟩ (.string X)).heap[j]? = w.heap[j]?) := hide (fun j h1 h2 => (heap_setCell_other w2 ⟨g, k, none⟩ j _ h1).trans ((unhide T2) j h1 h2))
      clear hst
      go_roundw
      case rel => exact ⟨k + 1, by omega, by go_num, by rw [← unhide HMM]; go_num, HO', HB', HT'⟩
      case measure => simp [intOf]; omega
    · obtain rfl : k = l.length := by omega
      go_wp2
      go_ret
      have ho := unhide HO
      rw [mrkS_all] at ho
      exact ⟨by go_num, ho, unhide HB, unhide HT⟩
namespace Fw
open Wd (joinB)
theorem own_atF {w w' : World} {B : Nat} {e : TypeId} {s : Nat} {v : Value} {n : Nat} {xs : List Value} (h : w.ownsRow B e s v n xs) (hs : ∀ k, v.ownBlock = some k → w'.heap[k]? = w.heap[k]?) : w'.ownsRow B e s v n xs := by
  refine ⟨h.1, ?_⟩
  rcases h.2 with h' | ⟨g, cap, cur, hv, hg, hh, r⟩
  · exact .inl h'
  · exact .inr ⟨g, cap, cur, hv, hg, (hs g (by rw [hv]; rfl)).trans hh, r⟩
set_option maxRecDepth 100000 in
set_option maxHeartbeats 8000000 in
theorem lawFw (v : Value) (l : List ByteArray) (s : ByteArray) (w : World) (hv : StrsAt w v l) (hl : l.length ≤ 9223372036854775807) (hs : ∀ i, i < l.length → (nthS l i).size ≤ 9223372036854775807) (ht : TabAt w) :
    Calls Tryd.prog 3 #[v, .string s] w fun e w' => e = .returned (.bool true) ∧ Below w.heap.size w w' := by
  have HV := hide hv
  have HT := hide ht
  have SZ := hide (fun W h => szStrs_any v l 1048576 W h hl hs (Nat.le_refl _))
  obtain ⟨av, cap, rfl, _⟩ := hv
  clear ht hl hs
  by_cases hsz : 1048576 < s.size
  · have hsz' : (1048576 : Int) < (s.size : Int) := by omega
    go_enter Tryd.func3, Tryd.ntmps3
    go_wp2
    go_ret
    exact ⟨rfl, Below.refl _ _⟩
  have hsz' : ¬ (1048576 : Int) < (s.size : Int) := by omega
  go_enter Tryd.func3, Tryd.ntmps3
  go_wp2_with fail
  refine ((unhide SZ) _ (unhide HV)).mono ?_
  rintro e w1 ⟨r, rfl, hw1, hr⟩
  obtain rfl := hw1.symm
  clear hw1 SZ
  rcases hr with hneg | ⟨h0, _, hl, hs⟩
  · go_wp2
    go_ret
    exact ⟨rfl, Below.refl _ _⟩
  have hr0 : ¬ r < 0 := by omega
  have TO := hide (fun W h => toStrs_any (.slice av l.length cap) l W h hl)
  have SP := hide (fun u W h => specF u l s W h hl hs)
  have IM := hide (fun u W t h => implF u l s W t h hl hs)
  have EQ := hide (fun u u2 W h h2 => eqStrs u u2 l W h h2 hl)
  have MK := hide (fun base g cp W h1 h2 h => markS_oth base g cp l 1 W hl (by omega) (by omega) h1 h2 h)
  have hn := fwO_le l s
  generalize fwO l s = L at *
  have hm : (1 + (L.length : Int) != 1 + (L.length : Int)) = false := by simp
  have h0' : ¬ (1 + (L.length : Int) < 0) := by omega
  have hk0 : ¬ (1 + (l.length : Int) < 0) := by omega
  have hk0d : decide (1 + (l.length : Int) < 0) = false := by simpa using hk0
  clear hs
  go_wp2_with fail
  refine ((unhide TO) _ (unhide HV)).mono ?_
  rintro e w2 ⟨rfl, ho2, hb2⟩
  have O2 := hide (StrsAt.owned ho2)
  have B2 := hide hb2
  clear ho2 hb2
  go_wp2_with fail
  refine ((unhide SP) _ _ (unhide O2)).mono ?_
  rintro e w3 ⟨v0, rfl, hv0, hb3⟩
  have S0 := hide hv0
  have B3 := hide (joinB (unhide B2) hb3)
  clear hv0 hb3 O2 B2
  go_wp2_with fail
  refine ((unhide TO) _ ((unhide HV).below (unhide B3))).mono ?_
  rintro e w4 ⟨rfl, ho4, hb4⟩
  have X4 := hide ho4
  have B4 := hide (joinB (unhide B3) hb4)
  have D4 := hide hb4
  have hx4 : w3.heap.size < w4.heap.size := (ho4.lt w3.heap.size rfl).2
  clear ho4 hb4
  go_wp2_with fail
  refine ((unhide IM) _ _ ((unhide HT).below (unhide B4)) (StrsAt.owned (unhide X4))).mono ?_
  rintro e w5 ⟨g0, rfl, ho5, hb5⟩
  have G5 := hide ho5
  have X5 := hide (ownsRow_below (unhide X4) hb5)
  have B5 := hide (joinB (unhide B4) hb5)
  have D5 := hide (joinB (unhide D4) hb5)
  have z5 := hb5.size
  clear ho5 hb5 X4 B4 D4
  go_wp2_with fail
  refine (eqStrs _ _ L _ (StrsAt.owned (unhide G5)) ((unhide S0).below (unhide D5)) (by omega)).mono ?_
  rintro e w6 ⟨rfl, hb6⟩
  have G6 := hide (ownsRow_below (unhide G5) hb6)
  have X6 := hide (ownsRow_below (unhide X5) hb6)
  have B6 := hide (joinB (unhide B5) hb6)
  have D6 := hide (joinB (unhide D5) hb6)
  have z6 := hb6.size
  clear hb6 G5 X5 B5 D5
  go_wp2_with fail
  refine ((unhide TO) _ ((unhide HV).below (unhide B6))).mono ?_
  rintro e w7 ⟨rfl, ho7, hb7⟩
  have O7 := hide (StrsAt.owned ho7)
  have G7 := hide (ownsRow_below (unhide G6) hb7)
  have X7 := hide (ownsRow_below (unhide X6) hb7)
  have B7 := hide (joinB (unhide B6) hb7)
  have D7 := hide (joinB (unhide D6) hb7)
  have z7 := hb7.size
  clear ho7 hb7 G6 X6 B6 D6
  go_wp2_with fail
  refine ((unhide EQ) _ _ _ (StrsAt.owned (unhide X7)) (unhide O7)).mono ?_
  rintro e w8 ⟨rfl, hb8⟩
  have G8 := hide (ownsRow_below (unhide G7) hb8)
  have X8 := hide (ownsRow_below (unhide X7) hb8)
  have B8 := hide (joinB (unhide B7) hb8)
  have D8 := hide (joinB (unhide D7) hb8)
  have z8 := hb8.size
  clear hb8 G7 X7 B7 D7 O7
  go_wp2_with fail
  refine ((unhide MK) w3.heap.size w3.heap.size l.length _ (Nat.le_refl _) (unhide D8).size (unhide X8)).mono ?_
  rintro e w9 ⟨rfl, ho9, hb9, hx9⟩
  have G9 := hide (own_atF (unhide G8) (fun k e => hx9 k (by have := ((unhide G8).lt k e).1; omega) ((unhide G8).lt k e).2))
  have D9 := hide ((unhide D8).trans hb9)
  have B9 := hide ((unhide B8).trans (hb9.mono (unhide B3).size))
  have z9 := hb9.size
  clear ho9 hb9 hx9 G8 X8 B8 D8
  go_wp2_with fail
  refine (eqStrs _ _ L _ (StrsAt.owned (unhide G9)) ((unhide S0).below (unhide D9)) (by omega)).mono ?_
  rintro e w10 ⟨rfl, hb10⟩
  have G10 := hide (ownsRow_below (unhide G9) hb10)
  have D10 := hide (joinB (unhide D9) hb10)
  have B10 := hide (joinB (unhide B9) hb10)
  have z10 := hb10.size
  clear hb10 G9 D9 B9
  go_wp2_with fail
  refine (markS_any w4.heap.size g0 L 1 _ (by omega) (by omega) (by omega) (by omega) (unhide G10)).mono ?_
  rintro e w11 ⟨rfl, ho11, hb11⟩
  have G11 := hide ho11
  have D11 := hide ((unhide D10).trans (hb11.mono (by omega)))
  have B11 := hide ((unhide B10).trans (hb11.mono (by have := (unhide B3).size; omega)))
  have z11 := hb11.size
  clear ho11 hb11 G10 D10 B10
  go_wp2_with fail
  refine (heldS_any g0 L.length 1 _ (by omega) (by omega) (by omega) (owned_seqS (unhide G11))).mono ?_
  rintro e w12 ⟨rfl, hb12⟩
  have G12 := hide (ownsRow_below (unhide G11) hb12)
  have D12 := hide (joinB (unhide D11) hb12)
  have B12 := hide (joinB (unhide B11) hb12)
  clear hb12 G11 D11 B11
  go_wp2_with fail
  refine ((unhide TO) _ ((unhide HV).below (unhide B12))).mono ?_
  rintro e w13 ⟨rfl, ho13, hb13⟩
  have O13 := hide (StrsAt.owned ho13)
  have G13 := hide (ownsRow_below (unhide G12) hb13)
  have D13 := hide (joinB (unhide D12) hb13)
  have B13 := hide (joinB (unhide B12) hb13)
  clear ho13 hb13 G12 D12 B12
  go_wp2_with fail
  refine ((unhide IM) _ _ ((unhide HT).below (unhide B13)) (unhide O13)).mono ?_
  rintro e w14 ⟨h14, rfl, ho14, hb14⟩
  have H14 := hide (StrsAt.owned ho14)
  have G14 := hide (ownsRow_below (unhide G13) hb14)
  have D14 := hide (joinB (unhide D13) hb14)
  have B14 := hide (joinB (unhide B13) hb14)
  clear ho14 hb14 G13 D13 B13
  go_wp2_with fail
  refine (eqStrs _ _ L _ (unhide H14) ((unhide S0).below (unhide D14)) (by omega)).mono ?_
  rintro e w15 ⟨rfl, hb15⟩
  have G15 := hide (ownsRow_below (unhide G14) hb15)
  have B15 := hide (joinB (unhide B14) hb15)
  clear hb15 G14 D14 B14
  go_wp2_with fail
  refine (heldS_any g0 L.length 1 _ (by omega) (by omega) (by omega) (owned_seqS (unhide G15))).mono ?_
  rintro e w16 ⟨rfl, hb16⟩
  have B16 := hide (joinB (unhide B15) hb16)
  clear hb16
  go_wp2
  go_ret
  exact ⟨rfl, unhide B16⟩
end Fw
end Go.Proofs.YtlpgndmojpnpdaaDoor
