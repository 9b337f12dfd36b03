/- The law of OrderOf. -/
import Derived.Test.YtfnaclpkpjembaaBidS
namespace Go.Proofs.Ytfnaclpkpjembaa.Bd
open Go.RowKit
set_option linter.unusedVariables false
/-- A row of numbers of the call's own. -/
def Own (w : World) (B : Nat) (v : Value) (l : List Int) : Prop := w.ownsRow B 2 1 v l.length (l.map (Value.int .i64))
theorem Own.below {w w' : World} {B : Nat} {v : Value} {l : List Int} (h : Own w B v l) (hb : Below w.heap.size w w') : Own w' B v l := ownsRow_below h hb
theorem Own.at {w : World} {B : Nat} {v : Value} {l : List Int} (h : Own w B v l) : IntsAt w v l := IntsAt.owned h
theorem Own.keep {w w' : World} {B : Nat} {v : Value} {l : List Int} {r : Option Nat} (h : Own w B v l) (hg : w.grownBy w' r) (hne : ∀ k, v.ownBlock = some k → r ≠ some k) : Own w' B v l :=
  ownsRow_at h (fun k hk => hg.block k (World.ownsRow.lt h k hk).2 (fun e => hne k hk e.symm))
theorem grown_bel {w w' : World} {r : Option Nat} {B : Nat} (h : w.grownBy w' r) (hB : ∀ k, r = some k → B ≤ k) (hs : B ≤ w.heap.size) : Below B w w' := (Below.refl B w).grown h hs hB
set_option maxHeartbeats 1000000 in
theorem specOrder (v : Value) (L : List Int) (w : World) (h : IntsAt w v L) (hl : L.length ≤ 1048576) :
    Calls Try.prog 7 #[v] w fun e w' => ∃ sv, e = .returned sv ∧ Own w' w.heap.size sv (ordA L) ∧ Below w.heap.size w w' := by
  have AL := hide (l09Right_any v L w h hl)
  have HV : Hid (∀ wr, Below w.heap.size w wr → IntsAt wr v L) := hide (fun wr hb => h.below hb)
  clear h
  cases hok : okL L
  · have R : Hid (ordA L = []) := hide (by unfold ordA; rw [hok]; rfl)
    go_enter Try.func7, Try.ntmps7
    go_wp2_with fail
    refine (unhide AL).mono ?_
    rintro e w1 ⟨rfl, hb⟩
    rw [hok]
    have HB := hide hb
    clear hb AL
    have hs := (unhide HB).size
    go_wp2
    go_ret
    refine ⟨_, rfl, ?_, (unhide HB).alloc hs _⟩
    rw [unhide R]
    exact own_base (World.ownsRow_lit w1 #[] 0 (Nat.le_refl _) (by unfold maxLen; omega) rfl) hs
  · have R : Hid (ordA L = ordL L) := hide (by unfold ordA; rw [hok]; rfl)
    go_enter Try.func7, Try.ntmps7
    go_wp2_with fail
    refine (unhide AL).mono ?_
    rintro e w1 ⟨rfl, hb⟩
    rw [hok]
    have HB := hide hb
    clear hb AL
    go_wp2_with fail
    refine (l09Order_any v L w1 (unhide HV w1 (unhide HB)) hl).mono ?_
    rintro e w2 ⟨sv, rfl, ho, hb⟩
    have HO := hide ho
    have HB2 := hide hb
    clear ho hb
    have hs := (unhide HB).size
    go_wp2
    go_ret
    refine ⟨_, rfl, ?_, (unhide HB).trans ((unhide HB2).mono hs)⟩
    rw [unhide R]
    exact own_base (unhide HO) hs
set_option maxHeartbeats 4000000 in
set_option maxRecDepth 100000 in
theorem lawOrder (v : Value) (L : List Int) (w : World) (h : IntsAt w v L) (hm : L.length ≤ maxLen) :
    Calls Try.prog 3 #[v] w fun e w' => e = .returned (.bool true) ∧ Below w.heap.size w w' := by
  have HA := hide h
  obtain ⟨va, vc, rfl, _⟩ := h
  unfold maxLen at hm
  by_cases hl : 1048576 < L.length
  · have hl' : (1048576 : Int) < (L.length : Int) := by omega
    go_enter Try.func3, Try.ntmps3
    go_wp2
    go_ret
    exact ⟨rfl, Below.refl _ _⟩
  have hl' : ¬ (1048576 : Int) < (L.length : Int) := by omega
  have lA : L.length ≤ 1048576 := by omega
  have lO := ordA_len L
  go_enter Try.func3, Try.ntmps3
  go_wp2_with fail
  refine (toInts _ L _ (unhide HA) lA).mono ?_
  rintro e w1 ⟨rfl, hs, hb, _⟩
  have S1 : Hid (Own w1 w.heap.size _ L) := hide hs
  have W1 := hide hb
  clear hs hb
  go_wp2_with fail
  refine (specOrder _ L _ (unhide S1).at lA).mono ?_
  rintro e w2 ⟨wv, rfl, ho, hb⟩
  have Q2 := hide ho
  have W2 := hide ((unhide W1).trans (hb.mono (unhide W1).size))
  have N2 : Hid (∀ k, wv.ownBlock = some k → k < w2.heap.size) := hide (fun k hk => (World.ownsRow.lt (unhide Q2) k hk).2)
  clear ho hb S1 W1
  go_wp2_with fail
  refine (toInts _ L _ ((unhide HA).below (unhide W2)) lA).mono ?_
  rintro e w3 ⟨rfl, hs, hb, hz⟩
  have X3 : Hid (Own w3 w2.heap.size (.slice (some ⟨w2.heap.size, 0, none⟩) L.length L.length) L) := hide hs
  have Q3 := hide ((unhide Q2).below hb)
  have W3 := hide ((unhide W2).trans (hb.mono (unhide W2).size))
  have z2 := (unhide W2).size
  have z3 := hb.size
  clear hs hb Q2 W2
  generalize w2.heap.size = g at *
  go_wp2_with fail
  refine (implOrder _ L _ (unhide X3).at lA).mono ?_
  rintro e w4 ⟨gv, rfl, ho, hb⟩
  have G4 : Hid (Own w4 w3.heap.size gv (ordA L)) := hide ho
  have N4 : Hid (∀ k, gv.ownBlock = some k → w3.heap.size ≤ k) := hide (fun k hk => (World.ownsRow.lt (unhide G4) k hk).1)
  have X4 := hide ((unhide X3).below hb)
  have Q4 := hide ((unhide Q3).below hb)
  have W4 := hide ((unhide W3).trans (hb.mono (unhide W3).size))
  have z4 := hb.size
  clear ho hb X3 Q3 W3
  go_wp2_with fail
  refine (eqInts _ _ (ordA L) _ (unhide G4).at (unhide Q4).at (by omega)).mono ?_
  rintro e w5 ⟨rfl, hb⟩
  have G5 := hide ((unhide G4).below hb)
  have X5 := hide ((unhide X4).below hb)
  have Q5 := hide ((unhide Q4).below hb)
  have W5 := hide ((unhide W4).trans (hb.mono (unhide W4).size))
  have z5 := hb.size
  clear hb G4 X4 Q4 W4
  go_wp2_with fail
  refine (toInts _ L _ ((unhide HA).below (unhide W5)) lA).mono ?_
  rintro e w6 ⟨rfl, hs, hb, _⟩
  have E6 : Hid (Own w6 w5.heap.size _ L) := hide hs
  have G6 := hide ((unhide G5).below hb)
  have X6 := hide ((unhide X5).below hb)
  have Q6 := hide ((unhide Q5).below hb)
  have W6 := hide ((unhide W5).trans (hb.mono (unhide W5).size))
  have z6 := hb.size
  clear hs hb G5 X5 Q5 W5
  go_wp2_with fail
  refine (eqInts _ _ L _ (unhide X6).at (unhide E6).at lA).mono ?_
  rintro e w7 ⟨rfl, hb⟩
  have G7 := hide ((unhide G6).below hb)
  have X7 := hide ((unhide X6).below hb)
  have Q7 := hide ((unhide Q6).below hb)
  have W7 := hide ((unhide W6).trans (hb.mono (unhide W6).size))
  have z7 := hb.size
  clear hb G6 X6 Q6 W6 E6
  go_wp2_with fail
  refine (markI_own _ L.length _ _ 1 _ (by omega) lA (unhide X7)).mono ?_
  rintro e w8 ⟨rfl, _, hg⟩
  have G8 := hide ((unhide G7).keep hg (fun k hk e => by have := unhide N4 k hk; simp [Value.ownBlock] at e; omega))
  have Q8 := hide ((unhide Q7).keep hg (fun k hk e => by have := unhide N2 k hk; simp [Value.ownBlock] at e; omega))
  have W8 := hide ((unhide W7).trans (grown_bel hg (fun k e => by simp [Value.ownBlock] at e; omega) (unhide W7).size))
  have z8 := hg.size
  clear hg G7 X7 Q7 W7
  have hpos : ¬ (1 + (L.length : Int)) < 0 := by omega
  go_wp2_with fail
  refine (eqInts _ _ (ordA L) _ (unhide G8).at (unhide Q8).at (by omega)).mono ?_
  rintro e w9 ⟨rfl, hb⟩
  have G9 := hide ((unhide G8).below hb)
  have Q9 := hide ((unhide Q8).below hb)
  have W9 := hide ((unhide W8).trans (hb.mono (unhide W8).size))
  have z9 := hb.size
  clear hb G8 Q8 W8
  go_wp2_with fail
  refine (markI_own _ (ordA L).length _ _ 1 _ (by omega) (by omega) (unhide G9)).mono ?_
  rintro e w10 ⟨rfl, hmk, hg⟩
  have M10 := hide hmk
  have Q10 := hide ((unhide Q9).keep hg (fun k hk e => by have := unhide N2 k hk; have := unhide N4 k e; omega))
  have W10 := hide ((unhide W9).trans (grown_bel hg (fun k e => by have := unhide N4 k e; omega) (unhide W9).size))
  clear hmk hg G9 Q9 W9
  have hpos2 : ¬ (1 + ((ordA L).length : Int)) < 0 := by omega
  have hne : ((1 + ((ordA L).length : Int)) != (1 + ((ordA L).length : Int))) = false := by simp
  go_wp2_with fail
  refine (heldI_own _ (ordA L).length _ 1 _ (by omega) (by omega) (unhide M10)).mono ?_
  rintro e w11 ⟨rfl, rfl⟩
  go_wp2_with fail
  refine (toInts _ L _ ((unhide HA).below (unhide W10)) lA).mono ?_
  rintro e w12 ⟨rfl, hs, hb, _⟩
  have X12 : Hid (Own w12 w11.heap.size _ L) := hide hs
  have M12 := hide (ownsRow_below (unhide M10) hb)
  have Q12 := hide ((unhide Q10).below hb)
  have W12 := hide ((unhide W10).trans (hb.mono (unhide W10).size))
  clear hs hb M10 Q10 W10
  go_wp2_with fail
  refine (implOrder _ L _ (unhide X12).at lA).mono ?_
  rintro e w13 ⟨hv, rfl, ho, hb⟩
  have H13 : Hid (Own w13 w12.heap.size hv (ordA L)) := hide ho
  have M13 := hide (ownsRow_below (unhide M12) hb)
  have Q13 := hide ((unhide Q12).below hb)
  have W13 := hide ((unhide W12).trans (hb.mono (unhide W12).size))
  clear ho hb M12 Q12 W12 X12
  go_wp2_with fail
  refine (eqInts _ _ (ordA L) _ (unhide H13).at (unhide Q13).at (by omega)).mono ?_
  rintro e w14 ⟨rfl, hb⟩
  have M14 := hide (ownsRow_below (unhide M13) hb)
  have W14 := hide ((unhide W13).trans (hb.mono (unhide W13).size))
  clear hb M13 H13 Q13 W13
  go_wp2_with fail
  refine (heldI_own _ (ordA L).length _ 1 _ (by omega) (by omega) (unhide M14)).mono ?_
  rintro e w15 ⟨rfl, rfl⟩
  go_wp2
  go_ret
  exact ⟨rfl, unhide W14⟩
end Go.Proofs.Ytfnaclpkpjembaa.Bd
