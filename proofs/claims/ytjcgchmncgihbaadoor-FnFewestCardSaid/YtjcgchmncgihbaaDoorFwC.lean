/- FewestWords of the program. -/
import Derived.Test.YtjcgchmncgihbaaDoorFwF
namespace Go.Proofs.YtjcgchmncgihbaaDoor
namespace Fw
open Go.RowKit
set_option linter.unusedVariables false
theorem own_low {w : World} {B B2 n : Nat} {e : TypeId} {v : Value} {xs : List Value} (h : w.ownsRow B2 e 1 v n xs) (hb : B ≤ B2) : w.ownsRow B e 1 v n xs := by
  refine ⟨h.1, ?_⟩
  rcases h.2 with h' | ⟨g, cap, cur, hv, hg, r⟩
  · exact .inl h'
  · exact .inr ⟨g, cap, cur, hv, Nat.le_trans hb hg, r⟩
set_option maxRecDepth 100000 in
set_option maxHeartbeats 16000000 in
theorem cutsF (v : Value) (W : List ByteArray) (s : ByteArray) (w : World) (hv : StrsAt w v W) (hW : Wr W) (hs : s.size ≤ 65536) :
    Calls Tryd.prog 17 #[v, .string s] w fun e w' => ∃ v' C, e = .returned v' ∧ w'.ownsRow w.heap.size 2 1 v' C.length (C.map (Value.int .i64)) ∧ (C = [] ∧ s.size = 0 ∨ C = cu s (fsL W s)) ∧ Below w.heap.size w w' := by
  obtain ⟨i0, hi, hz0, hz1, hz2⟩ := info_parts info2
  by_cases h0 : s.size = 0
  · have hx : s = ⟨#[]⟩ := by
      apply ByteArray.ext
      exact Array.eq_empty_of_size_eq_zero h0
    subst hx
    obtain ⟨av, cap, rfl, _⟩ := hv
    go_enter Tryd.func17, Tryd.ntmps17
    go_wp2
    go_ret
    exact ⟨_, [], rfl, World.ownsRow_nil _ _ _ _, .inl ⟨rfl, rfl⟩, Below.refl _ _⟩
  · have hne := Wd.empty_ne (show 0 < s.size by omega)
    have CE := hide ((callsIn_wide (n := 5)).1 (ends_in v W s w hv hW hs (by omega)))
    have HFS : Hid (fsL W s = wk (fun i => (be (iw s W) (pts s).length i).2) (pts s).length (pts s).length 0) := hide rfl
    have hn := Nat.le_trans (pts_le s) hs
    have HBF := hide (fun i h => @be_first (iw s W) (pts s).length i h)
    obtain ⟨av, cap, rfl, _⟩ := hv
    generalize fsL W s = FS at *
    generalize be (iw s W) (pts s).length = bb at *
    go_enter Tryd.func17, Tryd.ntmps17
    go_upto_region 4 with (go_at_call 28; refine (unhide CE).mono ?_; rintro e w1 ⟨u, E, rfl, hin, hEl, hes, hb1⟩; have I1 := hide hin; have B1 := hide hb1; have HE := hide hes; clear hes hb1; obtain ⟨ua, uc, rfl, _⟩ := hin)
    have hEl' : E.length = s.size := hEl
    have O0 : Hid ((w1.alloc (.cells #[.int .i64 0] 2)).ownsRow w1.heap.size 2 1 (.slice (some ⟨w1.heap.size, 0, none⟩) 1 1) (cu s []).length ((cu s []).map (Value.int .i64))) := hide (World.ownsRow_lit w1 #[.int .i64 0] 1 (Nat.le_refl _) (by unfold maxLen; omega) rfl)
    go_wp2
    go_loopw [6, 7] (fun v' x wr => ∃ (D : List Nat) (i k : Nat), x = .int .i64 (pl s i : Int) ∧ i ≤ (pts s).length ∧ (pts s).length - i ≤ k ∧ D.sum = i ∧ D.length ≤ i ∧ Hid (D ++ wk (fun i => (bb i).2) (pts s).length k i = FS) ∧ Hid (wr.ownsRow w1.heap.size 2 1 v' (cu s D).length ((cu s D).map (Value.int .i64))) ∧ Hid (Below w1.heap.size w1 wr)) (fun _ x _ => s.size - (intOf x).toNat)
    case atStart => exact ⟨[], 0, (pts s).length, rfl, by omega, by omega, rfl, by simp, hide (unhide HFS).symm, O0, hide (al1 _ _)⟩
    case round =>
      obtain ⟨D, i, k, rfl, hi1, hi2, hDs, hDl, HD, HO, HB⟩ := hrel
      clear O0
      by_cases hin : i < (pts s).length
      · have hp := pl_in hin
        have hp' : (pl s i : Int) < (s.size : Int) := by omega
        obtain ⟨k', hkk, hwk⟩ := wk_at (f := fun i => (bb i).2) hin hi2
        have hff := (unhide HBF) i hin
        obtain ⟨b, off, cp, he, hbs, hc⟩ := ints_at (unhide I1) (by omega)
        cases he
        have c0 := hc (pl s i) (by omega)
        rw [(unhide HE) i hin] at c0
        have HD2 : Hid ((D ++ [(bb i).2]) ++ wk (fun i => (bb i).2) (pts s).length k' (i + (bb i).2) = FS) := hide (by rw [← unhide HD, hwk, List.append_assoc]; rfl)
        obtain ⟨f, hf⟩ : ∃ f, (bb i).2 = f := ⟨_, rfl⟩
        rw [hf] at hff c0 HD2
        have hpl := pl_lt (s := s) (show i < i + f by omega) hff.2
        have hple := pl_le s (i + f)
        have HSN := hide (cu_snoc s D f)
        rw [hDs] at HSN
        have hcl := cu_len s D
        obtain ⟨d, hd⟩ : ∃ d, (cu s D).length = d := ⟨_, rfl⟩
        rw [hd] at hcl HO
        have HDD := hide hd
        have c1 := ((unhide HB).cell (p := ⟨b, off + pl s i, none⟩) hbs).trans c0
        have hBz := (unhide HB).size
        have HP := hide hpl
        clear hf hwk hd hc
        obtain ⟨pf, hpf⟩ : ∃ pf, pl s (i + f) = pf := ⟨_, rfl⟩
        rw [hpf] at c0 c1 hple HSN HP
        have HPF := hide hpf
        clear hpf hpl
        generalize pl s i = p0 at *
        go_wp2_with (at_builtin; refine wpList_append_own _ rfl _ _ 30 rfl w1.heap.size 2 i0 (.int .i64 0) 1 8 Tryd.underlying30 hi hz0 hz1 hz2 rfl (by decide) _ _ _ rfl (ownG_alloc (unhide HO) _) ⟨wr.heap.size, 0, none⟩ 1 1 [.int .i64 (pf : Int)] rfl rfl ?c1 ?c2 ?c3 ?c4 ?c5 ?_; rotate_left 5; intro v' w4 hown' hgrow hne; have B4 : Hid (Below w1.heap.size w1 w4) := hide (((unhide HB).alloc (by omega) _).grown hgrow (by simp; omega) (fun m hm => ((unhide HO).lt m hm).1)); have c4 := ((unhide B4).cell (p := ⟨b, off + p0, none⟩) hbs).trans c0; have O4 := hide hown'; clear hown' hgrow hne)
        case c1 => exact cell_one_new _ _ _
        case c2 => first | rfl | (intro u hu; simp at hu; subst hu; rfl)
        case c3 => first | omega | (unfold maxLen; omega)
        case c4 => omega
        case c5 => first | omega | (simp; omega)
        go_roundw
        case rel => exact ⟨D ++ [f], i + f, k', by rw [unhide HPF], by omega, by omega, by simp [hDs], by simp; omega, HD2, hide (by rw [unhide HSN, List.map_append, List.length_append, unhide HDD]; exact unhide O4), B4⟩
        case measure => have := unhide HP; simp [intOf]; omega
      · obtain rfl : i = (pts s).length := by omega
        have hpe : pl s (pts s).length = s.size := pl_end s
        have hge : ¬ (pl s (pts s).length : Int) < (s.size : Int) := by omega
        have HE2 : Hid (FS = D) := hide (by rw [← unhide HD, wk_end, List.append_nil])
        go_wp2
        go_ret
        first
          | exact ⟨_, cu s D, rfl, own_low (unhide HO) (unhide B1).size, .inr (by rw [unhide HE2]), jn2 (unhide B1) (unhide HB)⟩
          | exact ⟨_, rfl, cu s D, own_low (unhide HO) (unhide B1).size, (by first | exact .inr (by rw [unhide HE2]) | rw [unhide HE2]), jn2 (unhide B1) (unhide HB)⟩
theorem piecesF (W : List ByteArray) (s : ByteArray) (C : List Int) (hC : C = [] ∧ s.size = 0 ∨ C = cu s (fsL W s)) (hs : s.size ≤ 65536) : pieces s C = pcI s 0 (fsL W s) ∧ C.length ≤ 65537 ∧ Cuts s C := by
  have hl := (fsL_ok W s).2
  have hn := Nat.le_trans (pts_le s) hs
  rcases hC with ⟨rfl, h0⟩ | rfl
  · have hp := pts_le s
    have e : fsL W s = [] := List.eq_nil_of_length_eq_zero (by omega)
    rw [e]
    exact ⟨rfl, by simp, fun i hi => by simp at hi⟩
  · exact ⟨pieces_cu s _, by rw [cu_len]; omega, cu_cuts s _⟩
set_option maxRecDepth 100000 in
set_option maxHeartbeats 2000000 in
theorem implF (v : Value) (W : List ByteArray) (s : ByteArray) (w : World) (ht : TabAt w) (hv : StrsAt w v W) (hl : W.length ≤ 1048576) (hw : ∀ i, i < W.length → (nthS W i).size ≤ 1048576) :
    Calls Tryd.prog 5 #[v, .string s] w fun e w' => ∃ v', e = .returned v' ∧ w'.ownsRow w.heap.size 9 1 v' (fwO W s).length ((fwO W s).map Value.string) ∧ Below w.heap.size w w' := by
  have CW := hide (Wd.implWF v W w hv hl hw ht)
  have HV := hide hv
  have CC := hide (fun h1 h2 V h => cutsF v W s V h (wr_of h1) h2)
  have HF : Hid (fwO W s = if 65536 < s.size ∨ Wd.wfc W ≠ 0 then [] else pcI s 0 (fsL W s)) := hide rfl
  have HPC := hide (fun C hC hs => piecesF W s C hC hs)
  obtain ⟨av, cap, rfl, _⟩ := hv
  clear hw ht
  generalize fwO W s = R at *
  by_cases hb : 65536 < s.size
  · have hb' : (65536 : Int) < (s.size : Int) := by omega
    have HE : Hid (R = []) := hide (by rw [unhide HF, if_pos (.inl hb)])
    clear CC CW HF
    go_enter Tryd.func5, Tryd.ntmps5
    go_wp2
    go_ret
    refine ⟨_, rfl, ?_, Below.refl _ _⟩
    rw [unhide HE]
    exact World.ownsRow_nil _ _ _ _
  · have hb' : ¬ (65536 : Int) < (s.size : Int) := by omega
    have hbd : decide ((65536 : Int) < (s.size : Int)) = false := by simpa using hb'
    by_cases h0 : Wd.wfc W = 0
    · have HE : Hid (R = pcI s 0 (fsL W s)) := hide (by rw [unhide HF, if_neg (fun h => h.elim hb (fun e => e h0))])
      have C2 := hide ((unhide CC) h0 (by omega))
      have HPC2 := hide (fun C hC => (unhide HPC) C hC (by omega))
      rw [h0] at CW
      have hs6 : s.size ≤ 65536 := by omega
      clear CC h0 HF HPC
      go_enter Tryd.func5, Tryd.ntmps5
      go_wp2_with (first
        | (go_at_call 15; refine (unhide CW).mono ?_; rintro e w1 ⟨rfl, hb1⟩; have B1 := hide hb1; clear hb1)
        | (go_at_call 17; refine ((unhide C2) _ ((unhide HV).below (unhide B1))).mono ?_; rintro e w2 ⟨v2, C, rfl, h2, hC, hb2⟩; have I2 := hide (IntsAt.owned h2); have HC := hide ((unhide HPC2) C hC); have B2 := hide (jn2 (unhide B1) hb2); clear h2 hb2 hC)
        | (go_at_call 16; refine (piecesI s C v2 w2 (unhide I2) (unhide HC).2.1 hs6 (unhide HC).2.2).mono ?_; rintro e w3 ⟨v3, rfl, h3, hb3⟩; have O3 := hide (own_low h3 (unhide B2).size); have B3 := hide (jn2 (unhide B2) hb3); clear h3 hb3))
      go_ret
      exact ⟨_, rfl, by rw [unhide HE, ← (unhide HC).1]; exact unhide O3, unhide B3⟩
    · have HE : Hid (R = []) := hide (by rw [unhide HF, if_pos (.inr h0)])
      have hne : (Wd.wfc W != 0) = true := by simp [bne]; exact h0
      generalize Wd.wfc W = cw at *
      clear CC h0 HF
      go_enter Tryd.func5, Tryd.ntmps5
      go_wp2_with (go_at_call 15; refine (unhide CW).mono ?_; rintro e w1 ⟨rfl, hb1⟩; have B1 := hide hb1; clear hb1)
      go_ret
      refine ⟨_, rfl, ?_, unhide B1⟩
      rw [unhide HE]
      exact World.ownsRow_nil _ _ _ _
end Fw
end Go.Proofs.YtjcgchmncgihbaaDoor
