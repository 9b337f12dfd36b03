/- The law of SentenceCuts. -/
import Derived.Test.YtdellmjafephiaaDoorSenV
namespace Go.Proofs.YtdellmjafephiaaDoor
namespace Sen
open Go.RowKit
set_option maxRecDepth 100000 in
set_option maxHeartbeats 1000000 in
theorem lawSen (s : ByteArray) (w : World) (ht : TabAt w) : Calls Tryd.prog 7 #[.string s] w fun e w' => e = .returned (.bool true) ∧ Below w.heap.size w w' := by
  by_cases hs : 1048576 < s.size
  · go_enter Tryd.func7, Tryd.ntmps7
    go_wp2
    go_ret
    exact ⟨rfl, Below.refl _ _⟩
  · obtain ⟨L, hL⟩ : ∃ L, senOut s = L := ⟨_, rfl⟩
    have HT := hide ht
    clear ht
    have hn := senOut_le s
    rw [hL] at hn
    have HS : Hid (s.size ≤ 1048576) := hide (by omega)
    have spec := fun W => specSen s W (unhide HS)
    have impl := fun W (h : TabAt W) => implSen s W h (unhide HS)
    rw [hL] at spec impl
    have SP := hide spec
    have IM := hide impl
    clear spec impl hL
    have hm : (1 + (L.length : Int) != 1 + (L.length : Int)) = false := by simp
    have h0 : ¬ (1 + (L.length : Int) < 0) := by omega
    go_enter Tryd.func7, Tryd.ntmps7
    go_wp2_with fail
    refine ((unhide SP) _).mono ?_
    rintro e w1 ⟨v0, rfl, ho0, hb1⟩
    have HO0 := hide ho0
    have HD := hide hb1
    clear ho0 hb1
    go_wp2_with fail
    refine ((unhide IM) _ ((unhide HT).below (unhide HD))).mono ?_
    rintro e w2 ⟨g, rfl, ho2, hb2⟩
    have HG2 := hide ho2
    have C2 := hide hb2
    clear ho2 hb2
    go_wp2_with fail
    refine (eqInts _ _ L _ (IntsAt.owned (unhide HG2)) ((unhide HO0).below (unhide C2)) (by omega)).mono ?_
    rintro e w3 ⟨rfl, hb3⟩
    have HG3 := hide (ownsRow_below (unhide HG2) hb3)
    have C3 := hide ((unhide C2).trans (hb3.mono (unhide C2).size))
    clear hb3 HG2 C2
    go_wp2_with fail
    refine (mark_any w1.heap.size g L 1 _ (by omega) (by omega) (by omega) (unhide HG3)).mono ?_
    rintro e w4 ⟨rfl, ho4, hb4⟩
    have HG4 := hide ho4
    have C4 := hide ((unhide C3).trans hb4)
    clear ho4 hb4 HG3 C3
    go_wp2_with fail
    refine (held_any g L.length 1 _ (by omega) (by omega) (by omega) (owned_seq (unhide HG4))).mono ?_
    rintro e w4' ⟨rfl, rfl⟩
    go_wp2_with fail
    refine ((unhide IM) _ (((unhide HT).below (unhide HD)).below (unhide C4))).mono ?_
    rintro e w5 ⟨h, rfl, ho5, hb5⟩
    have HH5 := hide ho5
    have HG5 := hide (ownsRow_below (unhide HG4) hb5)
    have C5 := hide ((unhide C4).trans (hb5.mono (unhide C4).size))
    clear ho5 hb5 HG4 C4
    go_wp2_with fail
    refine (eqInts _ _ L _ (IntsAt.owned (unhide HH5)) ((unhide HO0).below (unhide C5)) (by omega)).mono ?_
    rintro e w6 ⟨rfl, hb6⟩
    have HG6 := hide (ownsRow_below (unhide HG5) hb6)
    have C6 := hide ((unhide C5).trans (hb6.mono (unhide C5).size))
    clear hb6 HG5 C5 HH5
    go_wp2_with fail
    refine (held_any g L.length 1 _ (by omega) (by omega) (by omega) (owned_seq (unhide HG6))).mono ?_
    rintro e w6' ⟨rfl, rfl⟩
    go_wp2
    go_ret
    exact ⟨rfl, (unhide HD).trans ((unhide C6).mono (unhide HD).size)⟩
end Sen
end Go.Proofs.YtdellmjafephiaaDoor
