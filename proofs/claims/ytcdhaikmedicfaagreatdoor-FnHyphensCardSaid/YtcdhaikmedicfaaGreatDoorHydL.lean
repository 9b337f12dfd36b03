/- The law FnHyphens: drawn hyphens of a drawn word stand within it, rising; drawn rows come to the same columns on both sides. -/
import Derived.Test.YtcdhaikmedicfaaGreatDoorHydC
import Derived.Test.YtcdhaikmedicfaaGreatDoorHYB
import Derived.Test.YtcdhaikmedicfaaGreatDoorCF
import Derived.Test.YtcdhaikmedicfaaGreatDoorLL
import Derived.BigQuiet
namespace Go.Proofs.YtcdhaikmedicfaaGreatDoor
namespace Hyd
open Go.RowKit Hyp
set_option linter.unusedVariables false
set_option linter.unusedSimpArgs false
theorem nth_app (L : List Int) (x : Int) (i : Nat) : (i < L.length → nth (L ++ [x]) i = nth L i) ∧ nth (L ++ [x]) L.length = x := by
  unfold nth
  constructor
  · intro h
    rw [List.getD_eq_getElem?_getD, List.getElem?_append_left h, ← List.getD_eq_getElem?_getD]
  · simp [List.getD_eq_getElem?_getD]
theorem hy_bd (best : List Int) : ∀ k, (∀ i, i < (hy best k).length → 2 ≤ nth (hy best k) i ∧ nth (hy best k) i ≤ (k : Int) + 1) ∧ ∀ i, i + 1 < (hy best k).length → nth (hy best k) i < nth (hy best k) (i + 1)
  | 0 => ⟨fun i h => absurd h (by simp [hy]), fun i h => absurd h (by simp [hy])⟩
  | k + 1 => by
    obtain ⟨h1, h2⟩ := hy_bd best k
    rw [hy]
    split
    · refine ⟨fun i hi => ?_, fun i hi => ?_⟩
      · by_cases e : i < (hy best k).length
        · rw [(nth_app _ _ i).1 e]
          have := h1 i e
          omega
        · rw [List.length_append, List.length_singleton] at hi
          obtain rfl : i = (hy best k).length := by omega
          rw [(nth_app _ _ 0).2]
          omega
      · rw [List.length_append, List.length_singleton] at hi
        by_cases e : i + 1 < (hy best k).length
        · rw [(nth_app _ _ i).1 (by omega), (nth_app _ _ (i + 1)).1 e]
          exact h2 i e
        · have e1 : i + 1 = (hy best k).length := by omega
          rw [(nth_app _ _ i).1 (by omega), e1, (nth_app _ _ 0).2]
          have := h1 i (by omega)
          omega
    · exact ⟨fun i hi => by have := h1 i hi; omega, h2⟩
/-- What the law asks of hyphens. -/
theorem hyO_bd (P : List ByteArray) (x : ByteArray) : (∀ i, i < (hyO P x).length → 2 ≤ nth (hyO P x) i ∧ nth (hyO P x) i ≤ (x.size : Int) - 3) ∧ ∀ i, i + 1 < (hyO P x).length → nth (hyO P x) i < nth (hyO P x) (i + 1) := by
  unfold hyO
  split
  · obtain ⟨h1, h2⟩ := hy_bd (bb (tx x) P P.length) (x.size - 4)
    refine ⟨fun i hi => ?_, h2⟩
    have hb := h1 i hi
    have hl := hy_len (bb (tx x) P P.length) (x.size - 4)
    omega
  · exact ⟨fun i h => absurd h (by simp), fun i h => absurd h (by simp)⟩
theorem codeB {w w' : World} {a : Option Addr} {len : Nat} (h : Dr.CodeIn w a len) (hb : Below w.heap.size w w') : Dr.CodeIn w' a len := by
  rcases h with h | ⟨cb, off, ha, hlt, hc⟩
  · exact .inl h
  · refine .inr ⟨cb, off, ha, Nat.lt_of_lt_of_le hlt hb.size, fun i hi => ?_⟩
    obtain ⟨z, h1, h2⟩ := hc i hi
    exact ⟨z, (hb.cell (p := ⟨cb, off + i, none⟩) hlt).trans h1, h2⟩
set_option maxRecDepth 100000 in
set_option maxHeartbeats 8000000 in
theorem lawHyd (a1 : Option Addr) (len1 cap1 : Nat) (a2 : Option Addr) (len2 cap2 : Nat) (w : World) (hc1 : Dr.CodeIn w a1 len1) (hc2 : Dr.CodeIn w a2 len2) (hl1 : len1 ≤ maxLen) (hl2 : len2 ≤ maxLen) (ht : TabAt w ∧ Wid.TabD w) :
    Calls Tryz.prog 3 #[.slice a1 len1 cap1, .slice a2 len2 cap2] w fun e w' => e = .returned (.bool true) ∧ Below w.heap.size w w' := by
  unfold maxLen at hl1 hl2
  by_cases g1 : 1048576 < len1
  · have g1' : (1048576 : Int) < (len1 : Int) := by omega
    go_enter Tryz.func3, Tryz.ntmps3
    go_wp2
    go_ret
    exact ⟨rfl, Below.refl _ _⟩
  have g1' : ¬ (1048576 : Int) < (len1 : Int) := by omega
  by_cases g2 : 1048576 < len2
  · have g2' : (1048576 : Int) < (len2 : Int) := by omega
    go_enter Tryz.func3, Tryz.ntmps3
    go_wp2
    go_ret
    exact ⟨rfl, Below.refl _ _⟩
  have g2' : ¬ (1048576 : Int) < (len2 : Int) := by omega
  have HT := hide ht
  have HC2 := hide hc2
  have CD := hide (Dr.drawH_any w a1 len1 cap1 (by omega) hc1)
  have TB := hide (fun W (h : Below w.heap.size w W) => (show TabAt W ∧ Wid.TabD W from ⟨(unhide HT).1.below h, (unhide HT).2.below h⟩))
  have DC := hide (fun W (h : Below w.heap.size w W) => Dr.drawC_any W a2 len2 cap2 (by omega) (codeB (unhide HC2) h))
  clear ht hc1 hc2
  go_enter Tryz.func3, Tryz.ntmps3
  go_wp2_with fail
  refine (unhide CD).mono ?_
  rintro e w2 ⟨v, L, t, rfl, ho2, hL, hLz, hts, hb2⟩
  have O2 := hide (StrsAt.owned ho2)
  have B2 := hide hb2
  have IM := hide (fun u W h => implHyph u L t W h (fun i hi => Nat.le_trans (hLz i hi) (by omega)) (by omega) (by omega))
  have SP := hide (fun u W h => specHyph u L t W h (fun i hi => Nat.le_trans (hLz i hi) (by omega)) (by omega) (by omega))
  obtain ⟨hbd, hri⟩ := hyO_bd L t
  have hn := hyO_len L t
  have HBD := hide hbd
  have HRI := hide hri
  clear ho2 hb2 hLz CD hbd hri
  generalize hyO L t = H at *
  go_wp2_with fail
  refine ((unhide IM) _ _ (unhide O2)).mono ?_
  rintro e w3 ⟨g0, rfl, ho3, hb3⟩
  have G3 := hide ho3
  have S3 := hide ((unhide O2).below hb3)
  have B3 := hide (Clm.joinCl (unhide B2) hb3)
  clear ho3 hb3 O2 B2
  go_wp2_with fail
  refine ((unhide SP) _ _ (unhide S3)).mono ?_
  rintro e w4 ⟨g1, rfl, ho4, hb4⟩
  have G4 := hide (ownsRow_below (unhide G3) hb4)
  have H4 := hide ho4
  have B4 := hide (Clm.joinCl (unhide B3) hb4)
  clear ho4 hb4 G3 S3 B3
  go_wp2_with fail
  refine (lwSame _ _ H _ (IntsAt.owned (unhide G4)) (IntsAt.owned (unhide H4)) (by omega)).mono ?_
  rintro e w5 ⟨rfl, hb5⟩
  have G5 := hide (ownsRow_below (unhide G4) hb5)
  have B5 := hide (Clm.joinCl (unhide B4) hb5)
  clear hb5 G4 H4 B4 IM SP
  obtain ⟨ga, gc, rfl⟩ := Clm.form_ownC (unhide G5)
  have z5 := (unhide B5).size
  obtain ⟨n, hnE⟩ : ∃ n, H.length = n := ⟨_, rfl⟩
  have HCE : Hid (∀ k, k < n → ∃ g, ga = some ⟨g, 0, none⟩ ∧ g < w5.heap.size ∧ ∀ j, j < n → w5.cell? ⟨g, j, none⟩ = some (.int .i64 (nth H j))) := hide (fun k hk => by
    have hG := unhide G5
    rw [hnE] at hG
    rcases hG.2 with ⟨_, h0⟩ | ⟨g, cap, cur, e, _⟩
    · omega
    · injection e with e1 e2 e3
      rw [e1] at hG
      refine ⟨g, e1, (hG.lt g rfl).2, fun j hj => ?_⟩
      have := Clm.cell_ofK hG j hj
      unfold nth
      exact this)
  rw [hnE] at hn HBD HRI ⊢
  clear hnE G5
  obtain ⟨yv, hyv⟩ : ∃ yv, (t.size : Int) - 3 = yv := ⟨_, rfl⟩
  rw [hyv] at HBD
  have hwy : IntKind.i64.wrap yv = yv := by simp [IntKind.wrap, IntKind.bits, IntKind.signed]; omega
  go_wp2_with fail
  go_loopw [8] (fun v8 wr => ∃ k : Nat, k ≤ n ∧ v8 = .int .i64 (k : Int) ∧ Hid (Below w5.heap.size w5 wr)) (fun v _ => n - (intOf v).toNat)
  case atStart => exact ⟨0, by omega, rfl, hide (Below.refl _ _)⟩
  case round =>
    obtain ⟨k, hk, rfl, HB⟩ := hrel
    by_cases hlt : k < n
    · have hkI : (k : Int) < (n : Int) := by omega
      have hk65 : k ≤ 65536 := by omega
      obtain ⟨g, rfl, hgl, hgc⟩ := (unhide HCE) k hlt
      have c1 := ((unhide HB).cell (p := ⟨g, k, none⟩) hgl).trans (hgc k hlt)
      obtain ⟨hx1, hx2⟩ := (unhide HBD) k hlt
      by_cases hk0 : k = 0
      · have hkz : ¬ (0 : Int) < (k : Int) := by omega
        have hkzd : decide (0 < k) = false := by simp; omega
        clear hgc hk0
        generalize nth H k = x at *
        have hx3 : ¬ x < 2 := by omega
        have hx3d : decide (x < 2) = false := by simpa using hx3
        have hx4 : ¬ yv < x := by omega
        have hx4d : decide (yv < x) = false := by simpa using hx4
        go_wp2_with fail
        go_quiet (fail)
        go_wp2_with fail
        go_roundw
        case rel => exact ⟨k + 1, by omega, by go_num, hide (bdrew (unhide HB) _)⟩
        case measure => (simp [intOf] <;> omega)
      · obtain ⟨j, hj⟩ : ∃ j, j + 1 = k := ⟨k - 1, by omega⟩
        have hkz : (0 : Int) < (k : Int) := by omega
        have hkzd : decide (0 < k) = true := by simp; omega
        have hjI : (k : Int) - 1 = (j : Int) := by omega
        have hjn : (j : Int) < (n : Int) := by omega
        have hj0 : (0 : Int) ≤ (j : Int) := by omega
        have c2 := ((unhide HB).cell (p := ⟨g, j, none⟩) hgl).trans (hgc j (by omega))
        have hr := (unhide HRI) j (by omega)
        rw [hj] at hr
        have hwj : IntKind.i64.wrap (j : Int) = (j : Int) := by simp [IntKind.wrap, IntKind.bits, IntKind.signed]; omega
        clear hgc hk0 hj
        generalize nth H k = x at *
        generalize nth H j = y at *
        have hx3 : ¬ x < 2 := by omega
        have hx3d : decide (x < 2) = false := by simpa using hx3
        have hx4 : ¬ yv < x := by omega
        have hx4d : decide (yv < x) = false := by simpa using hx4
        have hx5 : ¬ x ≤ y := by omega
        have hx5d : decide (x ≤ y) = false := by simpa using hx5
        go_wp2_with fail
        go_quiet (fail)
        go_wp2_with fail
        go_roundw
        case rel => exact ⟨k + 1, by omega, by go_num, hide (bdrew (unhide HB) _)⟩
        case measure => (simp [intOf] <;> omega)
    · obtain rfl : k = n := by omega
      have hkI : ¬ (k : Int) < (k : Int) := by omega
      have B6 := hide ((unhide B5).trans ((unhide HB).mono z5))
      clear HB HCE HBD HRI
      go_wp2_with fail
      refine ((unhide DC) _ (unhide B6)).mono ?_
      rintro e w6 ⟨v2, L2, gap, rfl, ho6, hL2, hb6⟩
      have O6 := hide (StrsAt.owned ho6)
      have B7 := hide (Clm.joinCl (unhide B6) hb6)
      have hcl := Clm.clm_len L2 gap
      clear ho6 hb6 B6
      go_wp2_with fail
      refine (Clm.implC v2 L2 gap _ (unhide O6) (by omega) ((unhide TB) _ (unhide B7)).1 ((unhide TB) _ (unhide B7)).2).mono ?_
      rintro e w7 ⟨g7, rfl, ho7, hb7⟩
      have G7 := hide ho7
      have O7 := hide ((unhide O6).below hb7)
      have B8 := hide (Clm.joinCl (unhide B7) hb7)
      clear ho7 hb7 O6 B7
      go_wp2_with fail
      refine (Clm.specC v2 L2 gap _ (unhide O7) (by omega)).mono ?_
      rintro e w8 ⟨g8, rfl, ho8, hb8⟩
      have G8 := hide (ownsRow_below (unhide G7) hb8)
      have H8 := hide ho8
      have B9 := hide (Clm.joinCl (unhide B8) hb8)
      clear ho8 hb8 G7 O7 B8
      go_wp2_with fail
      refine (lwTexts _ _ (Clm.clm L2 gap) _ (StrsAt.owned (unhide G8)) (StrsAt.owned (unhide H8)) (by omega)).mono ?_
      rintro e w9 ⟨rfl, hb9⟩
      have B10 := hide (Clm.joinCl (unhide B9) hb9)
      clear hb9
      go_wp2_with fail
      go_ret
      exact ⟨rfl, unhide B10⟩
end Hyd
end Go.Proofs.YtcdhaikmedicfaaGreatDoor
