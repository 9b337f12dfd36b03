/- PackTrie of both. -/
import Derived.Test.YtjncfkcpjjnmdaaDoorLayI
import Derived.Test.YtjncfkcpjjnmdaaDoorGK
import Derived.Test.YtjncfkcpjjnmdaaDoorStpC
namespace Go.Proofs.YtjncfkcpjjnmdaaDoor
open Go.RowKit
theorem pkEnd_le (L : List Int) (i : Nat) : ∀ (f m : Nat), m ≤ L.length → pkEnd L i f m ≤ L.length
  | 0, m, h => h
  | f + 1, m, h => by
    show (if _ then _ else _) ≤ _
    split
    · rename_i c
      exact pkEnd_le L i f (m + 1) (by omega)
    · exact h
theorem pkF_len {L : List Int} (hn : L.length ≤ 40000) (hx : ∀ j, j < L.length → -9223372036854775808 ≤ nth L j ∧ nth L j ≤ 9223372036854775807) : ∀ (f i : Nat), (pkF L f i).length ≤ 44 * f
  | 0, _ => by simp [pkF]
  | f + 1, i => by
    show (if _ then _ else _ : List Int).length ≤ _
    split
    · rename_i hi
      have h1 := pkEnd_le L i L.length (i + 1) (by omega)
      have h2 := pkPiece_len L i (pkEndL L i) (by unfold pkEndL; omega) (hx i hi)
      have h3 := pkF_len hn hx f (pkEndL L i)
      rw [List.length_append]
      omega
    · simp
theorem pkRuns_len {L : List Int} (hn : L.length ≤ 40000) (hx : ∀ j, j < L.length → -9223372036854775808 ≤ nth L j ∧ nth L j ≤ 9223372036854775807) : (pkRuns L).length ≤ 1760000 := by
  have := pkF_len hn hx (L.length - 0) 0
  unfold pkRuns pkRest
  omega
def smallP (t : List Int) : List Int := if 65536 < t.length then [] else t
def pakOut (ix dt : List Int) : List Int := if trieFault ix dt = 0 then smallP (pkRuns ix ++ [59] ++ pkRuns dt) else []
theorem tf_cases (ix dt : List Int) : (trieFault ix dt = 0 ∧ ix.length ≤ 40000 ∧ dt.length ≤ 40000) ∨ trieFault ix dt = 1 := by
  unfold trieFault
  split
  · rename_i h
    exact .inl ⟨rfl, by omega, by omega⟩
  · exact .inr rfl
theorem smallPS (t : List Int) (w : World) : Calls Tryd.prog 36 #[.string (strOfNums t)] w fun e w' => e = .returned (.string (strOfNums (smallP t))) ∧ w' = w := by
  by_cases h : 65536 < t.length
  · have hz : 65536 < (strOfNums t).size := by rw [strOfNums_size]; exact h
    have HE : Hid (strOfNums (smallP t) = { data := #[] }) := hide (by unfold smallP; rw [if_pos h]; rfl)
    clear h
    generalize strOfNums t = s at *
    go_enter Tryd.func36, Tryd.ntmps36
    go_wp2
    go_ret
    exact ⟨by rw [unhide HE]; rfl, rfl⟩
  · have hz : (strOfNums t).size ≤ 65536 := by rw [strOfNums_size]; omega
    have e : smallP t = t := by unfold smallP; rw [if_neg h]
    rw [e]
    clear e h
    generalize strOfNums t = s at *
    go_enter Tryd.func36, Tryd.ntmps36
    go_wp2
    go_ret
    exact ⟨rfl, rfl⟩
/-- All are numbers of 64 bits. -/
def In64 (L : List Int) : Prop := ∀ j, j < L.length → -9223372036854775808 ≤ nth L j ∧ nth L j ≤ 9223372036854775807
theorem str59 (A B : List Int) : strOfNums A ++ { data := #[59] } ++ strOfNums B = strOfNums (A ++ [59] ++ B) := by
  rw [← nums_plus, ← nums_plus]
  rfl
set_option maxHeartbeats 1000000 in
set_option maxRecDepth 100000 in
theorem specPack (vi vd : Value) (ix dt : List Int) (w : World) (hi : DatAt w w.heap.size vi ix) (hd : DatAt w w.heap.size vd dt) (li : ix.length ≤ 1048576) (ld : dt.length ≤ 1048576) (xi : In64 ix) (xd : In64 dt) :
    Calls Tryd.prog 16 #[.agg #[vi, vd]] w fun e w' => e = .returned (.string (strOfNums (pakOut ix dt))) ∧ Below w.heap.size w w' := by
  have mixed : Tryd.prog.follows Departure.mixedOrders = true := by kernel_rfl
  have P1 := hide (hi.alloc (.cells #[vi, vd] 28))
  have Q1 := hide (hd.alloc (.cells #[vi, vd] 28))
  have CT := hide (specTF vi vd ix dt _ (unhide P1) (unhide Q1) li ld)
  clear hi hd
  rcases tf_cases ix dt with ⟨h0, n1, n2⟩ | h1
  · have hl1 := pkRuns_len n1 xi
    have hl2 := pkRuns_len n2 xd
    have HE : Hid (pakOut ix dt = smallP (pkRuns ix ++ [59] ++ pkRuns dt)) := hide (by unfold pakOut; rw [if_pos h0])
    have R1 := hide (fun (W : World) (h : IntsAt W vi ix) => runsS vi ix W h n1 xi)
    have R2 := hide (fun (W : World) (h : IntsAt W vd dt) => runsS vd dt W h n2 xd)
    obtain ⟨S, hS⟩ : ∃ S, S = strOfNums (pkRuns ix) ++ { data := #[59] } ++ strOfNums (pkRuns dt) := ⟨_, rfl⟩
    have SM : Hid (∀ W, Calls Tryd.prog 36 #[.string S] W fun e w' => e = .returned (.string (strOfNums (pakOut ix dt))) ∧ w' = W) := hide (fun W => by rw [hS, str59, unhide HE]; exact smallPS _ W)
    have hz1 : (strOfNums (pkRuns ix)).size ≤ 1760000 := by rw [strOfNums_size]; exact hl1
    have hz2 : (strOfNums (pkRuns dt)).size ≤ 1760000 := by rw [strOfNums_size]; exact hl2
    rw [h0] at CT
    clear h0 HE hl1 hl2 xi xd li ld n1 n2
    generalize strOfNums (pakOut ix dt) = Z at *
    generalize strOfNums (pkRuns ix) = A at *
    generalize strOfNums (pkRuns dt) = B at *
    have HS := hide hS
    clear hS
    go_enter Tryd.func16, Tryd.ntmps16
    go_wp2_with fail
    refine (unhide CT).mono ?_
    rintro e w2 ⟨rfl, hb2⟩
    have P2 := hide ((unhide P1).below hb2)
    have Q2 := hide ((unhide Q1).below hb2)
    have x0 := hb2.cell (p := ⟨w.heap.size, 0, none⟩) (by simp)
    have x1 := hb2.cell (p := ⟨w.heap.size, 1, none⟩) (by simp)
    simp at x0 x1
    have B2 := hide ((one_belowD w (.cells #[vi, vd] 28)).trans (hb2.mono (by simp)))
    have hxl := block_lt_of_cell x1
    clear hb2 P1 Q1 CT
    have hq1 : ¬ 9223372036854775807 < A.size + 1 := by omega
    have hq2 : ¬ 9223372036854775807 < A.size + 1 + B.size := by omega
    go_upto_region 3 with fail
    go_region_law (first
      | (refine step_call rfl 37 #[.tmp 7] #[26] rfl #[vi] (by simp [Act.eval]) (by kernel_rfl) (((unhide R1) _ (((unhide P2).ints (Nat.le_refl _)).below (bdrew (Below.refl _ _) _))).mono ?_); rintro e w3 ⟨rfl, hb3⟩; have Q3 := hide (((unhide Q2).below (bdrew (Below.refl _ _) _)).below hb3); have y1 := (hb3.cell (p := ⟨w.heap.size, 1, none⟩) hxl).trans x1; have B3 := hide ((bdrew (unhide B2) _).trans (hb3.mono (unhide B2).size)); clear hb3; refine ⟨_, rfl, ?_⟩)
      | (refine step_call rfl 37 #[.tmp 11] #[26] rfl #[vd] (by simp [Act.eval, Act.put]) (by kernel_rfl) (((unhide R2) _ ((unhide Q3).ints (Nat.le_refl _))).mono ?_); rintro e w4 ⟨rfl, hb4⟩; have B4 := hide ((unhide B3).trans (hb4.mono (unhide B3).size)); clear hb4; refine ⟨_, rfl, ?_⟩)
      | (refine step_call rfl 36 #[.tmp 13] #[9] rfl #[.string S] (by rw [unhide HS]; simp [Act.eval, Act.put]) (by kernel_rfl) (((unhide SM) _).mono ?_); rintro e w5 ⟨rfl, hw5⟩; replace hw5 := hw5.symm; subst hw5; refine ⟨_, rfl, ?_⟩))
    all_goals
      go_wp2
      go_ret
      exact ⟨rfl, unhide B4⟩
  · have HE : Hid (strOfNums (pakOut ix dt) = { data := #[] }) := hide (by unfold pakOut; rw [if_neg (by rw [h1]; decide)]; rfl)
    rw [h1] at CT
    clear h1 xi xd
    generalize strOfNums (pakOut ix dt) = Z at *
    go_enter Tryd.func16, Tryd.ntmps16
    go_wp2_with fail
    refine (unhide CT).mono ?_
    rintro e w2 ⟨rfl, hb2⟩
    have B2 := hide ((one_belowD w (.cells #[vi, vd] 28)).trans (hb2.mono (by simp)))
    clear hb2 CT
    go_wp2
    go_ret
    exact ⟨by rw [unhide HE]; rfl, unhide B2⟩
end Go.Proofs.YtjncfkcpjjnmdaaDoor
