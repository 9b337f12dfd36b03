/- The law of PatternsFault: both sides tell of every row of texts the same, and neither changes what it was handed. -/
import Derived.Test.YtgmpkapeemiecaaHypH
namespace Go.Proofs.Ytgmpkapeemiecaa
namespace Hyp
open Go.RowKit
theorem joinB {w w1 w2 : World} (h : Below w.heap.size w w1) (h2 : Below w1.heap.size w1 w2) : Below w.heap.size w w2 := h.trans (h2.mono h.size)
set_option maxRecDepth 100000 in
set_option maxHeartbeats 4000000 in
theorem lawPatF (v : Value) (l : List ByteArray) (w : World) (hv : StrsAt w v l) (hl : l.length ≤ 9223372036854775807) (hs : ∀ i, i < l.length → (nthS l i).size ≤ 9223372036854775807) :
    Calls Try.prog 3 #[v] w fun e w' => e = .returned (.bool true) ∧ Below w.heap.size w w' := by
  have HV := hide hv
  have SZ := hide (fun W h => szStrs_any v l 1048576 W h hl hs (Nat.le_refl _))
  clear hv hl hs
  go_enter Try.func3, Try.ntmps3
  go_wp2_with fail
  refine ((unhide SZ) _ (unhide HV)).mono ?_
  rintro e w1 ⟨r, rfl, rfl, hr⟩
  clear SZ
  rcases hr with hneg | ⟨h0, _, hl, hs⟩
  · go_wp2
    go_ret
    exact ⟨rfl, Below.refl _ _⟩
  · have hr0 : ¬ r < 0 := by omega
    have TO := hide (fun W h => toStrs_any v l W h hl)
    have SP := hide (fun u W h => faultS u l W h hs hl)
    have IM := hide (fun u W h => faultI u l W h hs hl)
    have EQ := hide (fun u u2 W h h2 => eqStrs u u2 l W h h2 hl)
    clear hl hs
    generalize pf l = R at *
    have hRR : (R != R) = false := by simp
    go_wp2_with fail
    refine ((unhide TO) _ (unhide HV)).mono ?_
    rintro e w1 ⟨rfl, ho1, hb1⟩
    have O1 := hide (StrsAt.owned ho1)
    have B1 := hide hb1
    clear ho1 hb1
    go_wp2_with fail
    refine ((unhide SP) _ _ (unhide O1)).mono ?_
    rintro e w2 ⟨rfl, hb2⟩
    have B2 := hide (joinB (unhide B1) hb2)
    clear hb2 O1 B1
    go_wp2_with fail
    refine ((unhide TO) _ ((unhide HV).below (unhide B2))).mono ?_
    rintro e w3 ⟨rfl, ho3, hb3⟩
    have O3 := hide (StrsAt.owned ho3)
    have B3 := hide (joinB (unhide B2) hb3)
    clear ho3 hb3 B2
    generalize (Value.slice (some ⟨w2.heap.size, 0, none⟩) l.length l.length) = g at *
    go_wp2_with fail
    refine ((unhide IM) _ _ (unhide O3)).mono ?_
    rintro e w4 ⟨rfl, hb4⟩
    have O4 := hide ((unhide O3).below hb4)
    have B4 := hide (joinB (unhide B3) hb4)
    clear hb4 O3 B3
    go_wp2_with fail
    refine ((unhide TO) _ ((unhide HV).below (unhide B4))).mono ?_
    rintro e w5 ⟨rfl, ho5, hb5⟩
    have O5 := hide (StrsAt.owned ho5)
    have G5 := hide ((unhide O4).below hb5)
    have B5 := hide (joinB (unhide B4) hb5)
    clear ho5 hb5 B4 O4
    go_wp2_with fail
    refine ((unhide EQ) _ _ _ (unhide G5) (unhide O5)).mono ?_
    rintro e w6 ⟨rfl, hb6⟩
    have B6 := hide (joinB (unhide B5) hb6)
    clear hb6
    go_wp2
    go_ret
    exact ⟨rfl, unhide B6⟩
end Hyp
end Go.Proofs.Ytgmpkapeemiecaa
