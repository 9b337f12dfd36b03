/- The law of HyphensOf: both sides tell of every row of patterns and every word the same, and neither changes what it was handed. -/
import Derived.Test.YtgmpkapeemiecaaHypY
namespace Go.Proofs.Ytgmpkapeemiecaa
namespace Hyp
open Go.RowKit
set_option linter.unusedVariables false
theorem joinC {w w1 w2 : World} (h : Below w.heap.size w w1) (h2 : Below w1.heap.size w1 w2) : Below w.heap.size w w2 := h.trans (h2.mono h.size)
theorem own_atC {w w' : World} {B : Nat} {e : TypeId} {s : Nat} {v : Value} {n : Nat} {xs : List Value} (h : w.ownsRow B e s v n xs) (hs : ∀ k, v.ownBlock = some k → w'.heap[k]? = w.heap[k]?) : w'.ownsRow B e s v n xs := by
  refine ⟨h.1, ?_⟩
  rcases h.2 with h' | ⟨g, cap, cur, hv, hg, hh, r⟩
  · exact .inl h'
  · exact .inr ⟨g, cap, cur, hv, hg, (hs g (by rw [hv]; rfl)).trans hh, r⟩
set_option maxRecDepth 100000 in
set_option maxHeartbeats 8000000 in
theorem lawHyph (v : Value) (l : List ByteArray) (s : ByteArray) (w : World) (hv : StrsAt w v l) (hl : l.length ≤ 9223372036854775807) (hs : ∀ i, i < l.length → (nthS l i).size ≤ 9223372036854775807) :
    Calls Try.prog 4 #[v, .string s] w fun e w' => e = .returned (.bool true) ∧ Below w.heap.size w w' := by
  have HV := hide hv
  have SZ := hide (fun W h => szStrs_any v l 1048576 W h hl hs (Nat.le_refl _))
  obtain ⟨av, cap, rfl, _⟩ := hv
  clear hl hs
  by_cases hsz : 1048576 < s.size
  · have hsz' : (1048576 : Int) < (s.size : Int) := by omega
    go_enter Try.func4, Try.ntmps4
    go_wp2_with fail
    go_ret
    exact ⟨rfl, Below.refl _ _⟩
  have hsz' : ¬ (1048576 : Int) < (s.size : Int) := by omega
  go_enter Try.func4, Try.ntmps4
  go_wp2_with fail
  refine ((unhide SZ) _ (unhide HV)).mono ?_
  rintro e w1 ⟨r, rfl, hw1, hr⟩
  obtain rfl := hw1.symm
  clear hw1 SZ
  rcases hr with hneg | ⟨h0, _, hl, hs⟩
  · go_wp2
    go_ret
    exact ⟨rfl, Below.refl _ _⟩
  have hr0 : ¬ r < 0 := by omega
  have TO := hide (fun W h => toStrs_any (.slice av l.length cap) l W h hl)
  have SP := hide (fun u W h => specHyph u l s W h hs hl (by omega))
  have IM := hide (fun u W h => implHyph u l s W h hs hl (by omega))
  have EQ := hide (fun u u2 W h h2 => eqStrs u u2 l W h h2 hl)
  have MK := hide (fun base g cp W h1 h2 h => markS_oth base g cp l 1 W hl (by omega) (by omega) h1 h2 h)
  have hn := hyO_len l s
  generalize hyO l s = L at *
  have hn' : L.length ≤ 1048576 := by omega
  have hm : (1 + (L.length : Int) != 1 + (L.length : Int)) = false := by simp
  have h0' : ¬ (1 + (L.length : Int) < 0) := by omega
  have hk0 : ¬ (1 + (l.length : Int) < 0) := by omega
  have hk0d : decide (1 + (l.length : Int) < 0) = false := by simpa using hk0
  clear hs
  go_wp2_with fail
  refine ((unhide TO) _ (unhide HV)).mono ?_
  rintro e w2 ⟨rfl, ho2, hb2⟩
  have O2 := hide (StrsAt.owned ho2)
  have B2 := hide hb2
  clear ho2 hb2
  go_wp2_with fail
  refine ((unhide SP) _ _ (unhide O2)).mono ?_
  rintro e w3 ⟨v0, rfl, ho3, hb3⟩
  have S3 := hide ho3
  have K3 : Hid (∀ k, v0.ownBlock = some k → k < w3.heap.size) := hide (fun k hk => (ho3.lt k hk).2)
  have B3 := hide (joinC (unhide B2) hb3)
  clear ho3 hb3 O2 B2
  go_wp2_with fail
  refine ((unhide TO) _ ((unhide HV).below (unhide B3))).mono ?_
  rintro e w4 ⟨rfl, ho4, hb4⟩
  have X4 := hide ho4
  have S4 := hide (ownsRow_below (unhide S3) hb4)
  have B4 := hide (joinC (unhide B3) hb4)
  have hx4 : w3.heap.size < w4.heap.size := (ho4.lt w3.heap.size rfl).2
  clear ho4 hb4 S3
  go_wp2_with fail
  refine ((unhide IM) _ _ (StrsAt.owned (unhide X4))).mono ?_
  rintro e w5 ⟨g0, rfl, ho5, hb5⟩
  have G5 := hide ho5
  have K5 : Hid (∀ k, g0.ownBlock = some k → w4.heap.size ≤ k) := hide (fun k hk => (ho5.lt k hk).1)
  have X5 := hide (ownsRow_below (unhide X4) hb5)
  have S5 := hide (ownsRow_below (unhide S4) hb5)
  have B5 := hide (joinC (unhide B4) hb5)
  have z5 := hb5.size
  clear ho5 hb5 X4 B4 S4
  go_wp2_with fail
  refine (eqInts _ _ L _ (IntsAt.owned (unhide G5)) (IntsAt.owned (unhide S5)) hn').mono ?_
  rintro e w6 ⟨rfl, hb6⟩
  have G6 := hide (ownsRow_below (unhide G5) hb6)
  have X6 := hide (ownsRow_below (unhide X5) hb6)
  have S6 := hide (ownsRow_below (unhide S5) hb6)
  have B6 := hide (joinC (unhide B5) hb6)
  have z6 := hb6.size
  clear hb6 G5 X5 B5 S5
  go_wp2_with fail
  refine ((unhide TO) _ ((unhide HV).below (unhide B6))).mono ?_
  rintro e w7 ⟨rfl, ho7, hb7⟩
  have O7 := hide (StrsAt.owned ho7)
  have G7 := hide (ownsRow_below (unhide G6) hb7)
  have X7 := hide (ownsRow_below (unhide X6) hb7)
  have S7 := hide (ownsRow_below (unhide S6) hb7)
  have B7 := hide (joinC (unhide B6) hb7)
  have z7 := hb7.size
  clear ho7 hb7 G6 X6 B6 S6
  go_wp2_with fail
  refine ((unhide EQ) _ _ _ (StrsAt.owned (unhide X7)) (unhide O7)).mono ?_
  rintro e w8 ⟨rfl, hb8⟩
  have G8 := hide (ownsRow_below (unhide G7) hb8)
  have X8 := hide (ownsRow_below (unhide X7) hb8)
  have S8 := hide (ownsRow_below (unhide S7) hb8)
  have B8 := hide (joinC (unhide B7) hb8)
  have z8 := hb8.size
  clear hb8 G7 X7 B7 S7 O7
  have z3 := (unhide B3).size
  go_wp2_with fail
  refine ((unhide MK) w3.heap.size w3.heap.size _ _ (Nat.le_refl _) (by omega) (unhide X8)).mono ?_
  rintro e w9 ⟨rfl, _, hb9, ht9⟩
  have G9 := hide (own_atC (unhide G8) (fun k hk => ht9 k (by have := (unhide K5) k hk; omega) ((unhide G8).lt k hk).2))
  have S9 := hide (own_atC (unhide S8) (fun k hk => ht9 k (by have := (unhide K3) k hk; omega) ((unhide S8).lt k hk).2))
  have B9 := hide ((unhide B8).trans (hb9.mono z3))
  have z9 := hb9.size
  clear hb9 ht9 G8 X8 B8 S8
  go_wp2_with fail
  refine (eqInts _ _ L _ (IntsAt.owned (unhide G9)) (IntsAt.owned (unhide S9)) hn').mono ?_
  rintro e w10 ⟨rfl, hb10⟩
  have G10 := hide (ownsRow_below (unhide G9) hb10)
  have S10 := hide (ownsRow_below (unhide S9) hb10)
  have B10 := hide (joinC (unhide B9) hb10)
  have z10 := hb10.size
  clear hb10 G9 B9 S9
  go_wp2_with fail
  refine (markI_own _ L.length _ _ 1 _ (by omega) hn' (unhide G10)).mono ?_
  rintro e w11 ⟨rfl, ho11, hg11⟩
  have G11 := hide ho11
  have S11 := hide (own_atC (unhide S10) (fun k hk => hg11.block k ((unhide S10).lt k hk).2 (fun e => by have := (unhide K3) k hk; have := (unhide K5) k e.symm; omega)))
  have B11 := hide ((unhide B10).grown hg11 (by omega) (fun k hk => by have := (unhide K5) k hk; omega))
  clear ho11 hg11 G10 B10 S10
  go_wp2_with fail
  refine (heldI_own _ L.length _ 1 _ (by omega) hn' (unhide G11)).mono ?_
  rintro e w' ⟨rfl, hw⟩
  obtain rfl := hw.symm
  clear hw
  go_wp2_with fail
  refine ((unhide TO) _ ((unhide HV).below (unhide B11))).mono ?_
  rintro e w12 ⟨rfl, ho12, hb12⟩
  have O12 := hide (StrsAt.owned ho12)
  have G12 := hide (ownsRow_below (unhide G11) hb12)
  have S12 := hide (ownsRow_below (unhide S11) hb12)
  have B12 := hide (joinC (unhide B11) hb12)
  clear ho12 hb12 G11 B11 S11
  go_wp2_with fail
  refine ((unhide IM) _ _ (unhide O12)).mono ?_
  rintro e w13 ⟨g1, rfl, ho13, hb13⟩
  have H13 := hide ho13
  have G13 := hide (ownsRow_below (unhide G12) hb13)
  have S13 := hide (ownsRow_below (unhide S12) hb13)
  have B13 := hide (joinC (unhide B12) hb13)
  clear ho13 hb13 G12 B12 S12 O12
  go_wp2_with fail
  refine (eqInts _ _ L _ (IntsAt.owned (unhide H13)) (IntsAt.owned (unhide S13)) hn').mono ?_
  rintro e w14 ⟨rfl, hb14⟩
  have G14 := hide (ownsRow_below (unhide G13) hb14)
  have B14 := hide (joinC (unhide B13) hb14)
  clear hb14 G13 B13 S13 H13
  go_wp2_with fail
  refine (heldI_own _ L.length _ 1 _ (by omega) hn' (unhide G14)).mono ?_
  rintro e w' ⟨rfl, hw⟩
  obtain rfl := hw.symm
  clear hw
  go_wp2
  go_ret
  exact ⟨rfl, unhide B14⟩
end Hyp
end Go.Proofs.Ytgmpkapeemiecaa
