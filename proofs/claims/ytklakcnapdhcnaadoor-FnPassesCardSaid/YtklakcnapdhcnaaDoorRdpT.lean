/- A text of a rule, as the program reads it. -/
import Derived.Test.YtklakcnapdhcnaaDoorRdpI
namespace Go.Proofs.YtklakcnapdhcnaaDoor.Pas
open Go.RowKit
set_option linter.unusedVariables false
theorem empty_ifR {b : ByteArray} (h : b.size = 0) : b = ⟨#[]⟩ := ByteArray.ext (Array.eq_empty_of_size_eq_zero h)
theorem empty_eqR {b : ByteArray} (h : b.size = 0) : (b.toList == ([] : List UInt8)) = true := by rw [empty_ifR h, Go.ByteArray.toList_eq]; rfl
theorem empty_neR {b : ByteArray} (h : ¬ b.size = 0) : (b.toList == ([] : List UInt8)) = false := by
  rw [beq_eq_false_iff_ne, Go.ByteArray.toList_eq]
  intro e
  exact h (by have := congrArg List.length e; simpa using this)
theorem Kx.kb {A : Nat} {w w1 w2 : World} (h : Kx A w w1) (hb : Kb w.heap.size w1 w2) (hA : A ≤ w.heap.size) : Kx A w w2 :=
  ⟨h.bel.trans (hb.bel.mono hA), fun k n l => (hb.bel.block k l).trans (h.oth k n l)⟩
theorem By.put {lo A j : Nat} {w : World} {v u : Value} {M : List Int} (h : By lo w v M) (hA : A < lo) : By lo (w.setCell ⟨A, j, none⟩ u) v M :=
  own_atS h fun k hk => heap_setCell_other w ⟨A, j, none⟩ k u (by have := (World.ownsRow.lt h k hk).1; show k ≠ A; omega)
theorem By.kx {lo A : Nat} {w w' : World} {v : Value} {M : List Int} (h : By lo w v M) (hA : A < lo) (hk : Kx A w w') : By lo w' v M :=
  own_atS h fun k hk' => hk.oth k (by have := (World.ownsRow.lt h k hk').1; omega) (World.ownsRow.lt h k hk').2
theorem Bx.kb {lo A : Nat} {w w' : World} {s : ByteArray} {q : Bool} (h : Bx w A s q) (hk : Kb lo w w') : Bx w' A s q := hk.typ _ _ _ _ h (by decide)
/-- How much is left. -/
def rl (A : Nat) (w : World) : Nat := match w.cell? ⟨A, 0, none⟩ with
  | some (.string s) => s.size
  | _ => 0
theorem Bx.rl {w : World} {A : Nat} {s : ByteArray} {q : Bool} (h : Bx w A s q) : rl A w = s.size := by
  unfold Pas.rl
  rw [(two_cellsR h).1]
/-- What the loop has done: X is read, from place j on it goes on. -/
structure Tk (t : ByteArray) (i : Nat) (q : Bool) (j : Nat) (X : List Int) (p : Bool) : Prop where
  a : (txI t i).1 = X ++ (txI t j).1
  b : (txI t i).2.1 = (txI t j).2.1
  c : (q || (txI t i).2.2) = (p || (txI t j).2.2)
theorem Tk.hid {t : ByteArray} {i j : Nat} {q p : Bool} {X : List Int} (h : Tk t i q j X p) (h1 : j < t.size) (h2 : bt t j = 92) (h3 : j + 1 < t.size) : Tk t i q (j + 2) (X ++ [(Pas.hid (bt t (j + 1)) : Int)]) (p || badB (bt t (j + 1))) := by
  obtain ⟨a, b, c⟩ := h
  rw [txI_hid h1 h2 h3] at a b c
  exact ⟨by rw [a]; simp, b, by rw [c, Bool.or_assoc]⟩
theorem Tk.last {t : ByteArray} {i j : Nat} {q p : Bool} {X : List Int} (h : Tk t i q j X p) (h1 : j < t.size) (h2 : bt t j = 92) (h3 : ¬ j + 1 < t.size) : Tk t i q t.size (X ++ [0]) true := by
  obtain ⟨a, b, c⟩ := h
  rw [txI_last h1 h2 h3] at a b c
  have e := txI_end (t := t) (i := t.size) (Nat.lt_irrefl _)
  exact ⟨by rw [a, e]; simp, by rw [b, e], by rw [c]; simp⟩
theorem Tk.on {t : ByteArray} {i j : Nat} {q p : Bool} {X : List Int} (h : Tk t i q j X p) (h1 : j < t.size) (h2 : ¬ bt t j = 92) (h3 : ¬ sgnB (bt t j) = true) : Tk t i q (j + 1) (X ++ [(bt t j : Int)]) p := by
  obtain ⟨a, b, c⟩ := h
  rw [txI_on h1 h2 h3] at a b c
  exact ⟨by rw [a]; simp, b, c⟩
theorem Tk.stop {t : ByteArray} {i j : Nat} {q p : Bool} {X : List Int} (h : Tk t i q j X p) (h1 : txI t j = ([], j, false)) : (txI t i).1 = X ∧ (txI t i).2.1 = j ∧ (q || (txI t i).2.2) = p := by
  obtain ⟨a, b, c⟩ := h
  rw [h1] at a b c
  exact ⟨by rw [a]; simp, b, by rw [c, Bool.or_false]⟩
set_option maxRecDepth 100000 in
set_option maxHeartbeats 8000000 in
/-- takeText. -/
theorem text_any (A i : Nat) (t : ByteArray) (q : Bool) (w : World) (ht : t.size ≤ 1048576) (hi : i ≤ t.size) (hB : Bx w A (t.extract i t.size) q) :
    Calls Tryd.prog 68 #[.pointer (some ⟨A, 0, none⟩)] w fun e w' => e = .returned (.string (strOfNums (txI t i).1)) ∧ Bx w' A (t.extract (txI t i).2.1 t.size) (q || (txI t i).2.2) ∧ Kx A w w' := by
  obtain ⟨i0, hi0, hz0, hz1, hz2⟩ := info_parts infoB
  have hA := hB.lt
  have HB0 := hide hB
  have HT0 : Hid (Tk t i q i [] q) := hide ⟨by simp, rfl, rfl⟩
  clear hB
  go_enter Tryd.func68, Tryd.ntmps68
  go_wp2
  go_loopw [3] (fun tv wr => ∃ (j : Nat) (X : List Int) (p : Bool), j ≤ t.size ∧ X.length ≤ j ∧ Hid (By w.heap.size wr tv X) ∧ Hid (Bx wr A (t.extract j t.size) p) ∧ Hid (Kx A w wr) ∧ Hid (Tk t i q j X p)) (fun _ wr => rl A wr)
  case atStart => exact ⟨i, [], q, hi, Nat.zero_le _, hide (By.nil _ _), HB0, hide (Kx.refl _ _), HT0⟩
  case round =>
    obtain ⟨j, X, p, hj, hX, HO, HB, HK, HT⟩ := hrel
    clear HB0 HT0
    have hlw := (unhide HK).bel.size
    have HRL := hide (unhide HB).rl
    have hsz := ext_size t j
    by_cases hlt : j < t.size
    · have HB0 := hide (bt_ext t j 0 hlt)
      rw [Nat.add_zero] at HB0
      have HX := hide (fun k h => ext_ext t j k h)
      have HB1 := hide (fun h => bt_ext t j 1 h)
      have hE := empty_neR (b := t.extract j t.size) (by omega)
      have CH := hide (fun W h => hidden_any A (t.extract j t.size) p W (by omega) h)
      obtain ⟨c0, c1, f0, f1⟩ := two_cellsR (unhide HB)
      generalize hs : t.extract j t.size = s at *
      have h0s : (0 : Int) < (s.size : Int) := by omega
      have h1s : (1 : Int) ≤ (s.size : Int) := by omega
      have g1 : ∀ h, (s[0]'h).toNat = bt s 0 := fun h => bt_get s 0 h
      rw [unhide HB0] at g1
      have hbb := bt_lt t j
      by_cases h92 : bt t j = 92
      · have HT2 := hide (fun h => (unhide HT).hid hlt h92 h)
        have HT3 := hide (fun h => (unhide HT).last hlt h92 h)
        clear HT
        rw [h92] at g1
        by_cases h2 : j + 1 < t.size
        · have h2s : ¬ s.size < 2 := by omega
          have HT4 := hide ((unhide HT2) h2)
          have HX2 := hide ((unhide HX) 2 (by omega))
          rw [unhide HB1 h2] at CH
          rw [unhide HX2] at CH
          simp only [if_neg h2s, decide_eq_false h2s, Bool.false_or] at CH
          clear HT2 HT3 HB1 HX
          generalize hid (bt t (j + 1)) = x at *
          generalize badB (bt t (j + 1)) = y at *
          go_wp2_with (first
            | (go_at_call 78; refine ((unhide CH) _ (unhide HB)).mono ?_; rintro e w1 ⟨rfl, hb1, hk1⟩; have O1 := hide (By.kx (unhide HO) hA hk1); have K1 := hide ((unhide HK).trans hk1); have B1 := hide hb1; have hs1 := hk1.bel.size; clear hb1 hk1)
            | (at_builtin; refine wpList_appG _ rfl _ _ 22 rfl w.heap.size 5 i0 (.int .u8 0) 1 1 Tryd.underlying22 hi0 hz0 hz1 hz2 rfl (by decide) _ _ _ rfl (By.alloc (unhide O1) _) ⟨w1.heap.size, 0, none⟩ 1 1 [.int .u8 (x : Int)] rfl rfl (one_new _ _) (one_oneB _) ?c3 ?c4 ?c5 ?_))
          case c3 => unfold maxLen; omega
          case c4 => omega
          case c5 => simp; omega
          intro v' w2 hown hgrow _
          have st := (Kb.refl w.heap.size w1).app (by omega) (unhide O1) hgrow
          have O2 := hide (By.snoc (N := [(x : Int)]) hown rfl)
          have B2 := hide ((unhide B1).kb st)
          have K2 := hide ((unhide K1).kb st (Nat.le_of_lt hA))
          clear hown hgrow st
          go_wp2
          go_roundw
          case rel => exact ⟨j + 2, X ++ [(x : Int)], p || y, by omega, by simp; omega, O2, B2, K2, HT4⟩
          case measure => rw [(unhide B2).rl, unhide HRL, ext_size]; omega
        · have h2s : s.size < 2 := by omega
          have HT4 := hide ((unhide HT3) h2)
          simp only [if_pos h2s, decide_eq_true h2s, Bool.true_or, Bool.or_true] at CH
          clear HT2 HT3 HB1 HX
          have HEA := hide (ext_all t)
          rw [← ext_all t] at CH
          go_wp2_with (first
            | (go_at_call 78; refine ((unhide CH) _ (unhide HB)).mono ?_; rintro e w1 ⟨rfl, hb1, hk1⟩; have O1 := hide (By.kx (unhide HO) hA hk1); have K1 := hide ((unhide HK).trans hk1); have B1 := hide hb1; have hs1 := hk1.bel.size; clear hb1 hk1)
            | (at_builtin; refine wpList_appG _ rfl _ _ 22 rfl w.heap.size 5 i0 (.int .u8 0) 1 1 Tryd.underlying22 hi0 hz0 hz1 hz2 rfl (by decide) _ _ _ rfl (By.alloc (unhide O1) _) ⟨w1.heap.size, 0, none⟩ 1 1 [.int .u8 0] rfl rfl (one_new _ _) (one_oneB _) ?c3 ?c4 ?c5 ?_))
          case c3 => unfold maxLen; omega
          case c4 => omega
          case c5 => simp; omega
          intro v' w2 hown hgrow _
          have st := (Kb.refl w.heap.size w1).app (by omega) (unhide O1) hgrow
          have O2 := hide (By.snoc (N := [0]) hown rfl)
          have B2 := hide ((unhide B1).kb st)
          have K2 := hide ((unhide K1).kb st (Nat.le_of_lt hA))
          clear hown hgrow st
          go_wp2
          go_roundw
          case rel => exact ⟨t.size, X ++ [0], true, Nat.le_refl _, by simp; omega, O2, B2, K2, HT4⟩
          case measure => rw [(unhide B2).rl, unhide HRL, ext_size]; omega
      · have HS := hide (fun h => (unhide HT).stop (txI_sgn hlt h92 h))
        have HN := hide (fun h => (unhide HT).on hlt h92 h)
        have CS := hide (fun W => sign_any (bt t j) hbb W)
        have HX2 := hide ((unhide HX) 1 (by omega))
        clear HT CH HB1 HX
        generalize bt t j = b at *
        have h92' : ((b : Int) == 92) = false := by rw [beq_eq_false_iff_ne]; omega
        cases hsg : sgnB b with
        | true =>
          obtain ⟨e1, e2, e3⟩ := (unhide HS) hsg
          have hcv := conv_owned wr w.heap.size _ _ _ (unhide HO)
          have E1 := hide e1
          have E2 := hide e2
          have E3 := hide e3
          rw [hsg] at CS
          clear e1 e2 e3 HN HS hsg
          subst hs
          go_wp2_with (go_at_call 45; refine ((unhide CS) _).mono ?_; rintro e w' ⟨rfl, hw⟩; obtain rfl := hw.symm; clear hw)
          go_ret
          rw [unhide E1, unhide E2, unhide E3]
          exact ⟨rfl, unhide HB, unhide HK⟩
        | false =>
          have HT4 := hide ((unhide HN) (by rw [hsg]; decide))
          rw [hsg] at CS
          clear HN HS hsg
          go_wp2_with (first
            | (go_at_call 45; refine ((unhide CS) _).mono ?_; rintro e w' ⟨rfl, hw⟩; obtain rfl := hw.symm; clear hw)
            | (at_builtin; refine wpList_appG _ rfl _ _ 22 rfl w.heap.size 5 i0 (.int .u8 0) 1 1 Tryd.underlying22 hi0 hz0 hz1 hz2 rfl (by decide) _ _ _ rfl (By.alloc (unhide HO) _) ⟨wr.heap.size, 0, none⟩ 1 1 [.int .u8 (b : Int)] rfl rfl (one_new _ _) (one_oneB _) ?c3 ?c4 ?c5 ?_))
          case c3 => unfold maxLen; omega
          case c4 => omega
          case c5 => simp; omega
          intro v' w2 hown hgrow _
          have st := (Kb.refl w.heap.size wr).app (by omega) (unhide HO) hgrow
          have B2 := hide ((unhide HB).kb st)
          obtain ⟨d0, d1, k0, k1⟩ := two_cellsR (unhide B2)
          have O3 := hide (By.put (A := A) (j := 0) (u := .string (s.extract 1 s.size)) (By.snoc (N := [(b : Int)]) hown rfl) hA)
          have B3 := hide ((unhide B2).put0 (s.extract 1 s.size))
          have K3 := hide (((unhide HK).kb st (Nat.le_of_lt hA)).put 0 (.string (s.extract 1 s.size)))
          have HZ := hide hsz
          clear hown hgrow st hsz
          go_wp2
          go_roundw
          case rel => exact ⟨j + 1, X ++ [(b : Int)], p, by omega, by simp; omega, O3, hide (by rw [← unhide HX2]; exact unhide B3), K3, HT4⟩
          case measure => have := unhide HZ; rw [(unhide B3).rl, unhide HRL, ByteArray.size_extract]; omega
    · obtain ⟨e1, e2, e3⟩ := (unhide HT).stop (txI_end hlt)
      have hE := empty_eqR (b := t.extract j t.size) (by omega)
      have hcv := conv_owned wr w.heap.size _ _ _ (unhide HO)
      obtain ⟨c0, c1, f0, f1⟩ := two_cellsR (unhide HB)
      have E1 := hide e1
      have E2 := hide e2
      have E3 := hide e3
      clear e1 e2 e3 HT HRL
      go_wp2
      go_ret
      rw [unhide E1, unhide E2, unhide E3]
      exact ⟨rfl, unhide HB, unhide HK⟩
end Go.Proofs.YtklakcnapdhcnaaDoor.Pas
