/- FewestWords of the specification. -/
import Derived.Test.YtjcgchmncgihbaaDoorFwS
import Derived.Test.YtjcgchmncgihbaaDoorWfS
namespace Go.Proofs.YtjcgchmncgihbaaDoor
namespace Fw
open Go.RowKit
set_option linter.unusedVariables false
theorem jn2 {w w1 w2 : World} (h : Below w.heap.size w w1) (h2 : Below w1.heap.size w1 w2) : Below w.heap.size w w2 := h.trans (h2.mono h.size)
set_option maxRecDepth 100000 in
set_option maxHeartbeats 16000000 in
theorem cutS (v : Value) (W : List ByteArray) (s : ByteArray) (w : World) (hv : StrsAt w v W) (hW : Wr W) (hs : s.size ≤ 65536) :
    Calls Tryd.prog 18 #[v, .string s] w fun e w' => ∃ v', e = .returned v' ∧ StrsAt w' v' (pcI s 0 (fsL W s)) ∧ Below w.heap.size w w' := by
  obtain ⟨i0, hi, hz0, hz1, hz2⟩ := info_parts info9
  have HV := hide hv
  have CR := hide (fun V => Chr.sRowOf s V hs)
  have CF := hide (fun v1 v2 V h h1 h2 => fewS v v1 v2 W s V h hW hs h1 h2)
  obtain ⟨hsum, hlen⟩ := fsL_ok W s
  have hn := Nat.le_trans (pts_le s) hs
  have HAT := hide (fun j hj => @ats_nth s j hj)
  have HLE := hide (pl_le s)
  have HUP : Hid (∀ a b, pl s a ≤ pl s (a + b)) := hide (fun a b => steps_pos s a b)
  obtain ⟨av, cap, rfl, _⟩ := hv
  generalize fsL W s = FS at *
  generalize (pts s).length = n at *
  clear hW
  go_enter Tryd.func18, Tryd.ntmps18
  go_upto_region 2 with (go_at_call 29; refine ((unhide CR) _).mono ?_; rintro e w1 ⟨v1, v2, rfl, h1, h2, hb1⟩; have I1 := hide h1; have I2 := hide h2; have B1 := hide hb1; clear hb1; obtain ⟨a1, c1, rfl, _⟩ := h1; obtain ⟨a2, c2, rfl, _⟩ := h2)
  have hc := Chr.two_cells (heap_alloc_last w1 (.cells #[.slice a1 (pts s).length c1, .slice a2 (Chr.atsL s).length c2] 53))
  have hz : w1.heap.size < (w1.alloc (.cells #[.slice a1 (pts s).length c1, .slice a2 (Chr.atsL s).length c2] 53)).heap.size := by simp
  have J1 := hide ((unhide I1).below (al1 w1 (.cells #[.slice a1 (pts s).length c1, .slice a2 (Chr.atsL s).length c2] 53)))
  have J2 := hide ((unhide I2).below (al1 w1 (.cells #[.slice a1 (pts s).length c1, .slice a2 (Chr.atsL s).length c2] 53)))
  have BB := hide (jn2 (unhide B1) (al1 w1 (.cells #[.slice a1 (pts s).length c1, .slice a2 (Chr.atsL s).length c2] 53)))
  clear I1 I2 B1 CR
  generalize w1.alloc (.cells #[.slice a1 (pts s).length c1, .slice a2 (Chr.atsL s).length c2] 53) = wb at hc hz J1 J2 BB ⊢
  generalize w1.heap.size = g at hc hz ⊢
  obtain ⟨x0, x1, _, _⟩ := hc
  have CF1 := hide ((unhide CF) _ _ wb ((unhide HV).below (unhide BB)) (unhide J1) (unhide J2))
  clear CF
  go_upto_region 3 with (go_at_call 30; refine (unhide CF1).mono ?_; rintro e w2 ⟨v3, rfl, h3, hb2⟩; have I3 := hide h3; have B2 := hide (jn2 (unhide BB) hb2); have J3 := hide ((unhide J2).below hb2); have y1 := (hb2.cell (p := ⟨g, 1, none⟩) hz).trans x1; have hgz := Nat.lt_of_lt_of_le hz hb2.size; clear hb2; obtain ⟨a3, c3, rfl, _⟩ := h3)
  clear x0 x1 hz J1 J2 CF1 BB
  have O0 : Hid ((w2.alloc (.cells #[] 9)).ownsRow w2.heap.size 9 1 (.slice (some ⟨w2.heap.size, 0, none⟩) 0 0) (pcI s 0 (FS.take 0)).length ((pcI s 0 (FS.take 0)).map Value.string)) := hide (World.ownsRow_lit w2 #[] 0 (Nat.le_refl _) (by unfold maxLen; omega) rfl)
  have HL3 : Hid ((FS.map fun (k : Nat) => (k : Int)).length = FS.length) := hide (by simp)
  go_wp2
  go_loopw [7, 8, 9] (fun v' xa x wr => ∃ k : Nat, x = .int .i64 (k : Int) ∧ xa = .int .i64 (((FS.take k).sum : Nat) : Int) ∧ k ≤ FS.length ∧ Hid (wr.ownsRow w2.heap.size 9 1 v' (pcI s 0 (FS.take k)).length ((pcI s 0 (FS.take k)).map Value.string)) ∧ Hid (Below w2.heap.size w2 wr)) (fun _ _ x _ => FS.length - (intOf x).toNat)
  case atStart => exact ⟨0, rfl, rfl, by omega, O0, hide (al1 _ _)⟩
  case round =>
    obtain ⟨k, rfl, rfl, hk, HO, HB⟩ := hrel
    clear O0
    have hBs := (unhide HB).size
    by_cases hlt : k < FS.length
    · have hlt' : (k : Int) < (FS.length : Int) := by omega
      obtain ⟨b3, o3, q3, he3, hb3, hc3⟩ := ints_at (unhide I3) (by rw [unhide HL3]; omega)
      cases he3
      obtain ⟨b2, o2, q2, he2, hb2, hc2⟩ := ints_at (unhide J3) (by have := ((unhide HAT) 0 (by omega)).1; omega)
      cases he2
      obtain ⟨f, hf⟩ : ∃ f, FS.getD k 0 = f := ⟨_, rfl⟩
      have hfn : nth (FS.map fun (k : Nat) => (k : Int)) k = (f : Int) := by
        unfold nth
        rw [List.getD_eq_getElem?_getD, List.getElem?_map, List.getElem?_eq_getElem hlt, ← hf, List.getD_eq_getElem?_getD, List.getElem?_eq_getElem hlt]
        rfl
      have c3 := ((unhide HB).cell (p := ⟨b3, o3 + k, none⟩) hb3).trans (hc3 k (by rw [unhide HL3]; exact hlt))
      rw [hfn] at c3
      have htk : FS.take (k + 1) = FS.take k ++ [f] := by
        rw [List.take_add_one, List.getElem?_eq_getElem hlt, ← hf, List.getD_eq_getElem?_getD, List.getElem?_eq_getElem hlt]
        rfl
      have HSN := hide (pcI_snoc s (FS.take k) 0 f)
      rw [← htk, Nat.zero_add] at HSN
      have hsm : (FS.take (k + 1)).sum = (FS.take k).sum + f := by rw [htk, List.sum_append]; simp
      have hle : (FS.take (k + 1)).sum ≤ n := by
        have := List.take_append_drop (k + 1) FS
        rw [← hsum, ← this, List.sum_append]
        simp
      have HSM := hide hsm
      rw [hsm] at hle
      obtain ⟨u, hu⟩ : ∃ u, (FS.take k).sum = u := ⟨_, rfl⟩
      rw [hu] at HSN hle HSM
      rw [hu]
      have hx1 := (unhide HAT) u (by omega)
      have hx2 := (unhide HAT) (u + f) (by omega)
      have e1 := ((unhide HB).cell (p := ⟨b2, o2 + u, none⟩) hb2).trans (hc2 u hx1.1)
      have e2 := ((unhide HB).cell (p := ⟨b2, o2 + (u + f), none⟩) hb2).trans (hc2 (u + f) hx2.1)
      rw [hx1.2] at e1
      rw [hx2.2] at e2
      have hy1 := hx1.1
      have hy2 := hx2.1
      have hup := (unhide HUP) u f
      have hpe := (unhide HLE) (u + f)
      have y2 := ((unhide HB).cell (p := ⟨g, 1, none⟩) hgz).trans y1
      generalize (Chr.atsL s).length = N2 at *
      generalize pl s u = pu at *
      obtain ⟨t, ht⟩ : ∃ t, u + f = t := ⟨_, rfl⟩
      rw [ht] at HSN hle HSM e2 hy2 hup hpe
      have hut : (u : Int) + (f : Int) = (t : Int) := by omega
      generalize pl s t = pt at *
      have hpl := pcI_len s (FS.take k) 0
      rw [List.length_take] at hpl
      obtain ⟨d, hd⟩ : ∃ d, (pcI s 0 (FS.take k)).length = d := ⟨_, rfl⟩
      rw [hd] at HO hpl
      have HDD := hide hd
      have hq1 : (pu : Int) ≤ (pt : Int) := by omega
      have hq2 : (pt : Int) ≤ (s.size : Int) := by omega
      have hr1 : (u : Int) < (N2 : Int) := by omega
      have hr2 : (t : Int) < (N2 : Int) := by omega
      have hwt : IntKind.i64.wrap (t : Int) = (t : Int) := wrapN t (by omega)
      have HC3 : ∀ j, j < FS.length → w2.cell? ⟨b3, o3 + k, none⟩ = some (.int .i64 (f : Int)) := fun _ _ => by have := hc3 k (by rw [unhide HL3]; exact hlt); rwa [hfn] at this
      clear hf hfn htk hsm hu hx1 hx2 hc2 hc3 ht hd
      go_upto_region 8 with fail
      go_region_law (refine step_append_own rfl (.tmp 23) (.tmp 41) 23 rfl w2.heap.size 9 i0 (.string ⟨#[]⟩) 1 16 Tryd.underlying23 hi hz0 hz1 hz2 rfl (by decide) u7 d ((pcI s 0 (FS.take k)).map Value.string) (by simp [Act.eval]) (ownG_alloc (ownG_drew (unhide HO) 1) _) ⟨wr.heap.size, 0, none⟩ 1 1 [.string (s.extract pu pt)] (by simp [Act.eval]) (by simp) (cell_one_new _ _ _) (by intro u hu; simp at hu; subst hu; rfl) (by unfold maxLen; omega) (by omega) (by simp; omega) ?_; intro v' w3 hown' hgrow)
      all_goals
        have O3 : Hid (w3.ownsRow w2.heap.size 9 1 v' (pcI s 0 (FS.take (k + 1))).length ((pcI s 0 (FS.take (k + 1))).map Value.string)) := hide (by rw [unhide HSN, List.map_append, List.length_append, unhide HDD]; exact hown')
        have B3 : Hid (Below w2.heap.size w2 w3) := hide (((bdrew (unhide HB) 1).alloc hBs _).grown hgrow (by simp; omega) (fun m hm => ((unhide HO).lt m hm).1))
        have c3' := ((unhide B3).cell (p := ⟨b3, o3 + k, none⟩) hb3).trans (HC3 k hlt)
        clear hown' hgrow
        go_wp2
        go_roundw
        case rel => exact ⟨k + 1, by go_num, by rw [unhide HSM]; try rfl, by omega, O3, B3⟩
        case measure => simp [intOf]; omega
    · obtain rfl : k = FS.length := by omega
      have hge : ¬ (FS.length : Int) < (FS.length : Int) := by omega
      have HE : Hid (pcI s 0 FS = pcI s 0 (FS.take FS.length)) := hide (by rw [List.take_length])
      go_wp2
      go_ret
      exact ⟨_, rfl, by rw [unhide HE]; exact StrsAt.owned (unhide HO), jn2 (unhide B2) (unhide HB)⟩
set_option maxRecDepth 100000 in
set_option maxHeartbeats 2000000 in
theorem specF (v : Value) (W : List ByteArray) (s : ByteArray) (w : World) (hv : StrsAt w v W) (hl : W.length ≤ 1048576) (hw : ∀ i, i < W.length → (nthS W i).size ≤ 1048576) :
    Calls Tryd.prog 7 #[v, .string s] w fun e w' => ∃ v', e = .returned v' ∧ StrsAt w' v' (fwO W s) ∧ Below w.heap.size w w' := by
  have CW := hide (Wd.specWF v W w hv hl hw)
  have HV := hide hv
  have CC := hide (fun h1 h2 V h => cutS v W s V h (wr_of h1) h2)
  have HF : Hid (fwO W s = if 65536 < s.size ∨ Wd.wfc W ≠ 0 then [] else pcI s 0 (fsL W s)) := hide rfl
  obtain ⟨av, cap, rfl, _⟩ := hv
  clear hw
  generalize fwO W s = R at *
  by_cases hb : 65536 < s.size
  · have hb' : (65536 : Int) < (s.size : Int) := by omega
    have HE : Hid (R = []) := hide (by rw [unhide HF, if_pos (.inl hb)])
    clear CC CW HF
    go_enter Tryd.func7, Tryd.ntmps7
    go_wp2
    go_ret
    refine ⟨_, rfl, ?_, (Below.refl _ _).alloc (Nat.le_refl _) _⟩
    rw [unhide HE]
    exact ⟨_, _, rfl, .inl rfl⟩
  · have hb' : ¬ (65536 : Int) < (s.size : Int) := by omega
    have hbd : decide ((65536 : Int) < (s.size : Int)) = false := by simpa using hb'
    by_cases h0 : Wd.wfc W = 0
    · have HE : Hid (R = pcI s 0 (fsL W s)) := hide (by rw [unhide HF, if_neg (fun h => h.elim hb (fun e => e h0))])
      have C2 := hide ((unhide CC) h0 (by omega))
      rw [h0] at CW
      clear CC h0 HF
      go_enter Tryd.func7, Tryd.ntmps7
      go_wp2_with (first
        | (go_at_call 8; refine (unhide CW).mono ?_; rintro e w1 ⟨rfl, hb1⟩; have B1 := hide hb1; clear hb1)
        | (go_at_call 18; refine ((unhide C2) _ ((unhide HV).below (unhide B1))).mono ?_; rintro e w2 ⟨v2, rfl, h2, hb2⟩; have S2 := hide h2; have B2 := hide (jn2 (unhide B1) hb2); clear h2 hb2))
      go_ret
      exact ⟨_, rfl, by rw [unhide HE]; exact unhide S2, unhide B2⟩
    · have HE : Hid (R = []) := hide (by rw [unhide HF, if_pos (.inr h0)])
      have hne : (Wd.wfc W != 0) = true := by simp [bne]; exact h0
      generalize Wd.wfc W = cw at *
      clear CC h0 HF
      go_enter Tryd.func7, Tryd.ntmps7
      go_wp2_with (go_at_call 8; refine (unhide CW).mono ?_; rintro e w1 ⟨rfl, hb1⟩; have B1 := hide hb1; clear hb1)
      go_ret
      refine ⟨_, rfl, ?_, jn2 (unhide B1) ((Below.refl _ _).alloc (Nat.le_refl _) _)⟩
      rw [unhide HE]
      exact ⟨_, _, rfl, .inl rfl⟩
end Fw
end Go.Proofs.YtjcgchmncgihbaaDoor
