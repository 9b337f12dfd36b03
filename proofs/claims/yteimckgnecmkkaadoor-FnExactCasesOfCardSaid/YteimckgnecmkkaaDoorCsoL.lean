/- The law of CasesOf. -/
import Derived.Test.YteimckgnecmkkaaDoorCsoS
import Derived.Test.YteimckgnecmkkaaDoorMarks
namespace Go.Proofs.YteimckgnecmkkaaDoor.Cas
open Go.RowKit
set_option linter.unusedVariables false
theorem csI_csT (p : Int) : csI p = csT p := by
  unfold csI csT
  split
  · exact cs_eq (by omega)
  · rfl
theorem csI_le (p : Int) : (csI p).length ≤ 40000 := by
  rw [csI_csT]
  unfold csT csS
  split
  · have := fl_len p 32768
    split <;> simp <;> omega
  · simp
set_option maxRecDepth 100000 in
set_option maxHeartbeats 4000000 in
theorem lawCases (p : Int) (w : World) (ht : BlkAt w) : Calls Tryd.prog 3 #[.int .i64 p] w fun e w' => e = .returned (.bool true) ∧ Below w.heap.size w w' := by
  obtain ⟨L, hL⟩ : ∃ L, csI p = L := ⟨_, rfl⟩
  have HT := hide ht
  clear ht
  have hn := csI_le p
  rw [hL] at hn
  have spec := fun W => specCases p W
  have impl := fun W (h : BlkAt W) => implCases p W h
  rw [← csI_csT, hL] at spec
  rw [hL] at impl
  have SP := hide spec
  have IM := hide impl
  clear spec impl hL
  have hm : (1 + (L.length : Int) != 1 + (L.length : Int)) = false := by simp
  have h0 : ¬ (1 + (L.length : Int) < 0) := by omega
  go_enter Tryd.func3, Tryd.ntmps3
  go_wp2_with fail
  refine ((unhide SP) _).mono ?_
  rintro e w1 ⟨v0, rfl, ho0, hb1⟩
  have HO0 := hide (IntsAt.owned ho0)
  have HD := hide hb1
  clear ho0 hb1
  go_wp2_with fail
  refine ((unhide IM) _ ((unhide HT).below (unhide HD))).mono ?_
  rintro e w2 ⟨g, rfl, ho2, hb2⟩
  have HG2 := hide ho2
  have C2 := hide hb2
  clear ho2 hb2
  go_wp2_with fail
  refine (eqInts _ _ L _ (IntsAt.owned (unhide HG2)) ((unhide HO0).below (unhide C2)) (by omega)).mono ?_
  rintro e w3 ⟨rfl, hb3⟩
  have HG3 := hide (ownsRow_below (unhide HG2) hb3)
  have C3 := hide ((unhide C2).trans (hb3.mono (unhide C2).size))
  clear hb3 HG2 C2
  go_wp2_with fail
  refine (mark_any w1.heap.size g L 1 _ (by omega) (by omega) (by omega) (unhide HG3)).mono ?_
  rintro e w4 ⟨rfl, ho4, hb4⟩
  have HG4 := hide ho4
  have C4 := hide ((unhide C3).trans hb4)
  clear ho4 hb4 HG3 C3
  go_wp2_with fail
  refine (held_any g L.length 1 _ (by omega) (by omega) (by omega) (IntsAt.owned (unhide HG4))).mono ?_
  rintro e w4' ⟨rfl, rfl⟩
  go_wp2_with fail
  refine ((unhide IM) _ (((unhide HT).below (unhide HD)).below (unhide C4))).mono ?_
  rintro e w5 ⟨h, rfl, ho5, hb5⟩
  have HH5 := hide ho5
  have HG5 := hide (ownsRow_below (unhide HG4) hb5)
  have C5 := hide ((unhide C4).trans (hb5.mono (unhide C4).size))
  clear ho5 hb5 HG4 C4
  go_wp2_with fail
  refine (eqInts _ _ L _ (IntsAt.owned (unhide HH5)) ((unhide HO0).below (unhide C5)) (by omega)).mono ?_
  rintro e w6 ⟨rfl, hb6⟩
  have HG6 := hide (ownsRow_below (unhide HG5) hb6)
  have C6 := hide ((unhide C5).trans (hb6.mono (unhide C5).size))
  clear hb6 HG5 C5 HH5
  go_wp2_with fail
  refine (held_any g L.length 1 _ (by omega) (by omega) (by omega) (IntsAt.owned (unhide HG6))).mono ?_
  rintro e w6' ⟨rfl, rfl⟩
  go_wp2
  go_ret
  exact ⟨rfl, (unhide HD).trans ((unhide C6).mono (unhide HD).size)⟩
end Go.Proofs.YteimckgnecmkkaaDoor.Cas
