/- Marks written into passes, and found there again: the calls. -/
import Derived.Test.YtefbfffngmhjfaaDoorPasN
namespace Go.Proofs.YtefbfffngmhjfaaDoor.Pas
open Go.RowKit
set_option linter.unusedVariables false
/-- Of what was there only blocks from lo to hi changed. -/
def Chg (lo hi : Nat) (w w' : World) : Prop := Below lo w w' ∧ ∀ b, hi ≤ b → b < w.heap.size → w'.heap[b]? = w.heap[b]?
theorem Chg.refl (lo hi : Nat) (w : World) : Chg lo hi w w := ⟨Below.refl _ _, fun _ _ _ => rfl⟩
theorem Chg.grown {lo hi : Nat} {w w1 w2 : World} {g : Option Nat} (h : Chg lo hi w w1) (hg : w1.grownBy w2 g) (hl : lo ≤ w.heap.size) (hb : ∀ k, g = some k → lo ≤ k ∧ k < hi) : Chg lo hi w w2 := by
  obtain ⟨h1, h2⟩ := h
  obtain ⟨g1, g2, g3, g4, g5⟩ := hg
  refine ⟨⟨g1.trans h1.os, g2.trans h1.tape, g3.trans h1.output, Nat.le_trans h1.size g4, fun k hk => ?_⟩, fun b hb1 hb2 => ?_⟩
  · exact (g5 k (Nat.lt_of_lt_of_le hk (Nat.le_trans hl h1.size)) (fun e => by have := hb k e.symm; omega)).trans (h1.block k hk)
  · exact (g5 b (Nat.lt_of_lt_of_le hb2 h1.size) (fun e => by have := hb b e.symm; omega)).trans (h2 b hb1 hb2)
theorem Chg.set {lo hi : Nat} {w w1 : World} {g j : Nat} {u : Value} (h : Chg lo hi w w1) (h1 : lo ≤ g) (h2 : g < hi) : Chg lo hi w (w1.setCell ⟨g, j, none⟩ u) := by
  refine ⟨h.1.setCell (p := ⟨g, j, none⟩) h1 u, fun b hb hl => ?_⟩
  rw [heap_setCell_other w1 ⟨g, j, none⟩ b u (by show b ≠ g; omega)]
  exact h.2 b hb hl
set_option maxRecDepth 100000 in
set_option maxHeartbeats 4000000 in
theorem markP_at (lo hi gv cap : Nat) (P : List Pa) (w : World) (hlo : lo ≤ w.heap.size) (hn : num P P.length ≤ 8388608) (hl : P.length ≤ 1048576) (h : PaG lo hi w (.slice (some ⟨gv, 0, none⟩) P.length cap) P) (hgv : lo ≤ gv ∧ gv < hi) :
    Calls Tryd.prog 15 #[.slice (some ⟨gv, 0, none⟩) P.length cap, .int .i64 1] w fun e w' => e = .returned (.int .i64 (num P P.length : Int)) ∧ PaG lo hi w' (.slice (some ⟨gv, 0, none⟩) P.length cap) (mkP P) ∧ Chg lo hi w w' := by
  have e0 : mkQ P 0 = P := by
    apply List.ext_getElem?
    intro i
    by_cases hi : i < P.length
    · have h1 : i < (mkQ P 0).length := by rw [mkQ_len]; exact hi
      have := mkQ_at P 0 i hi
      rw [if_neg (by omega)] at this
      unfold gp at this
      rw [List.getD_eq_getElem?_getD, List.getD_eq_getElem?_getD, List.getElem?_eq_getElem h1, List.getElem?_eq_getElem hi] at this
      rw [List.getElem?_eq_getElem h1, List.getElem?_eq_getElem hi]
      simpa using this
    · rw [List.getElem?_eq_none (by rw [mkQ_len]; omega), List.getElem?_eq_none (by omega)]
  have H0 : Hid (PaG lo hi w (.slice (some ⟨gv, 0, none⟩) P.length cap) (mkQ P 0)) := hide (by rw [e0]; exact h)
  have HNL := hide (fun i (h : i ≤ P.length) => num_le P i P.length h)
  clear h e0
  obtain ⟨hg1, hg2⟩ := hgv
  go_enter Tryd.func15, Tryd.ntmps15
  go_wp2
  go_loopw [1, 5] (fun cv iv wr => ∃ k : Nat, k ≤ P.length ∧ iv = .int .i64 k ∧ cv = .int .i64 (num P k : Int) ∧ Hid (PaG lo hi wr (.slice (some ⟨gv, 0, none⟩) P.length cap) (mkQ P k)) ∧ Hid (Chg lo hi w wr)) (fun _ iv _ => P.length - (intOf iv).toNat)
  case atStart => exact ⟨0, Nat.zero_le _, rfl, rfl, H0, hide (Chg.refl _ _ _)⟩
  case round =>
    obtain ⟨k, hk, rfl, rfl, HO, HG⟩ := hrel
    clear H0
    by_cases hlt : k < P.length
    · have hlt' : (k : Int) < (P.length : Int) := by omega
      obtain ⟨g, u, c1, hu, _, hput⟩ := (unhide HO).row (w2 := wr) hlt
      have hnk := (unhide HNL) (k + 1) (by omega)
      have hn1 : num P (k + 1) = num P k + (gp P k).1.length * 5 + 1 := rfl
      have hn0 := num_pos P k
      have C := hide (markWrs_any lo hi g u (gp P k).1 (num P k) wr hn0 (by omega) hu)
      have HP := hide hput
      have HL := hide (fun q hq => (hu.lt (k := q) hq))
      obtain ⟨ua, uc, hue⟩ := hu.ru.form
      clear hput hu HO
      have hbig : num P k + (gp P k).1.length * 5 + 1 ≤ 8388608 := by omega
      have HN1 := hide hn1
      clear hn1 hnk
      generalize (gp P k).1 = L at *
      generalize num P k = n0 at *
      subst hue
      go_wp2_with fail
      refine (unhide C).mono ?_
      rintro e w2 ⟨rfl, hr2, hg2'⟩
      obtain ⟨f1, ⟨x, f2⟩, f3, hpp⟩ := (unhide HP) w2 hr2 hg2'
      have Q2 := hide hpp
      have G2 := hide (((unhide HG).grown hg2' hlo (fun q hq => ⟨((unhide HL) q hq).1, ((unhide HL) q hq).2.1⟩)).set (j := k * 2 + 1) (u := .int .i64 ((n0 + L.length * 5 : Nat) : Int)) hg1 hg2)
      clear hpp hg2' hr2 HP HG C
      go_wp2
      go_roundw
      case rel => exact ⟨k + 1, by omega, by go_num, by have := unhide HN1; (congr 1) <;> omega, Q2, G2⟩
      case measure => simp [intOf]; omega
    · obtain rfl : k = P.length := by omega
      go_wp2
      go_ret
      exact ⟨rfl, unhide HO, unhide HG⟩
theorem markP_any (lo hi : Nat) (v : Value) (P : List Pa) (w : World) (hlo : lo ≤ w.heap.size) (hn : num P P.length ≤ 8388608) (hl : P.length ≤ 1048576) (h : PaG lo hi w v P) :
    Calls Tryd.prog 15 #[v, .int .i64 1] w fun e w' => e = .returned (.int .i64 (num P P.length : Int)) ∧ PaG lo hi w' v (mkP P) ∧ Chg lo hi w w' := by
  have h0 := h
  obtain ⟨gs, xs, h1, h2, h3, h4⟩ := h
  rcases h1.2 with ⟨rfl, hl0⟩ | ⟨gv, cap, cur, rfl, hg, r⟩
  · obtain rfl : P = [] := List.length_eq_zero_iff.1 hl0
    clear h1 h2 h3 h4
    have H0 := hide h0
    clear h0
    go_enter Tryd.func15, Tryd.ntmps15
    go_wp2
    go_loopw [1, 5] (fun cv iv wr => iv = .int .i64 0 ∧ cv = .int .i64 1 ∧ wr = w) (fun _ _ _ => 0)
    case atStart => exact ⟨rfl, rfl, rfl⟩
    case round =>
      obtain ⟨rfl, rfl, rfl⟩ := hrel
      go_wp2
      go_ret
      exact ⟨rfl, unhide H0, Chg.refl _ _ _⟩
  · exact markP_at lo hi gv cap P w hlo hn hl h0 ⟨hg, (h2 gv rfl).1⟩
set_option maxRecDepth 100000 in
set_option maxHeartbeats 4000000 in
theorem heldP_any (B : Nat) (v : Value) (P : List Pa) (w : World) (hn : num P P.length ≤ 8388608) (hl : P.length ≤ 1048576) (h : PaAt B w v (mkP P)) :
    Calls Tryd.prog 16 #[v, .int .i64 1] w fun e w' => e = .returned (.int .i64 (num P P.length : Int)) ∧ Below w.heap.size w w' := by
  obtain ⟨a, cap, rfl, hv⟩ := h
  have hml : (mkP P).length = P.length := mkQ_len P P.length
  rw [hml] at hv ⊢
  have HV := hide hv
  have HNL := hide (fun i (h : i ≤ P.length) => num_le P i P.length h)
  clear hv
  go_enter Tryd.func16, Tryd.ntmps16
  go_wp2
  go_loopw [1, 5] (fun cv iv wr => ∃ k : Nat, k ≤ P.length ∧ iv = .int .i64 k ∧ cv = .int .i64 (num P k : Int) ∧ Hid (Below w.heap.size w wr)) (fun _ iv _ => P.length - (intOf iv).toNat)
  case atStart => exact ⟨0, Nat.zero_le _, rfl, rfl, hide (Below.refl _ _)⟩
  case round =>
    obtain ⟨k, hk, rfl, rfl, HB⟩ := hrel
    by_cases hlt : k < P.length
    · have hlt' : (k : Int) < (P.length : Int) := by omega
      rcases unhide HV with h' | ⟨b, off, rfl, _, hbs, hc⟩
      · rw [h'] at hml; simp at hml; omega
      obtain ⟨u, c1, hu, c2⟩ := hc k hlt
      have hat : gp (mkP P) k = mkp P k := by unfold mkP; rw [mkQ_at P P.length k hlt, if_pos hlt]
      rw [hat] at hu c2
      have hu' : RuAt B w u (mkR (gp P k).1 (num P k)) := hu
      have c2' : w.cell? ⟨b, off + k * 2 + 1, none⟩ = some (.int .i64 ((num P k + (gp P k).1.length * 5 : Nat) : Int)) := c2
      have d1 := ((unhide HB).cell (p := ⟨b, off + k * 2, none⟩) hbs).trans c1
      have HD := hide c2'
      have hnk := (unhide HNL) (k + 1) (by omega)
      have hn1 : num P (k + 1) = num P k + (gp P k).1.length * 5 + 1 := rfl
      have hn0 := num_pos P k
      have C := hide (heldWrs_any B u (gp P k).1 (num P k) wr hn0 (by omega) (hu'.below (unhide HB)))
      obtain ⟨ua, uc, hue⟩ := hu.form
      clear hu hu' c1 c2 c2' hc hat
      have hbig : num P k + (gp P k).1.length * 5 + 1 ≤ 8388608 := by omega
      have HN1 := hide hn1
      clear hn1 hnk
      have hml2 : (mkp P k).1.length = (gp P k).1.length := mkR_len _ _
      rw [hml2] at hue
      generalize (gp P k).1 = L at *
      generalize num P k = n0 at *
      subst hue
      clear hml2
      have hBs := (unhide HB).size
      have hpos : ¬ ((n0 + L.length * 5 : Nat) : Int) < 0 := by omega
      have hnn : (((n0 + L.length * 5 : Nat) : Int) != ((n0 + L.length * 5 : Nat) : Int)) = false := by simp
      go_wp2_with fail
      refine (unhide C).mono ?_
      rintro e w2 ⟨rfl, hb2⟩
      have B2 := hide ((unhide HB).trans (hb2.mono hBs))
      have d2 := ((unhide B2).cell (p := ⟨b, off + k * 2 + 1, none⟩) hbs).trans (unhide HD)
      clear hb2 C HB
      go_wp2
      go_roundw
      case rel => exact ⟨k + 1, by omega, by go_num, by have := unhide HN1; (congr 1) <;> omega, B2⟩
      case measure => simp [intOf]; omega
    · obtain rfl : k = P.length := by omega
      go_wp2
      go_ret
      exact ⟨rfl, unhide HB⟩
end Go.Proofs.YtefbfffngmhjfaaDoor.Pas
