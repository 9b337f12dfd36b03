/- The specification's word on a place. -/
import Derived.Test.YtbaedapnikhdgaaGreatDoorChrT
namespace Go.Proofs.YtbaedapnikhdgaaGreatDoor
namespace Chr
open Go.RowKit
theorem pik_on {L : List Int} {k : Nat} (h : mrk (nth L k) = true) : pik L (k + 1) = pik L k := by
  show (if mrk (L.getD k 0) then pik L k else _) = _
  rw [show mrk (L.getD k 0) = true from h]; rfl
theorem pik_end {L : List Int} {k : Nat} (h : mrk (nth L k) = false) : pik L (k + 1) = pic (nth L k) := by
  show (if mrk (L.getD k 0) then pik L k else _) = _
  rw [show mrk (L.getD k 0) = false from h]; rfl
theorem join2 {w w1 w2 : World} (h : Below w.heap.size w w1) (h2 : Below w1.heap.size w1 w2) : Below w.heap.size w w2 := h.trans (h2.mono h.size)
theorem pic_bd {r : Int} (h : pic r = true) : 7680 ≤ r ∧ r ≤ 7743 := by
  simpa [pic] using h
theorem flg_bd {r : Int} (h : flg r = true) : 7760 ≤ r ∧ r ≤ 7785 := by
  simpa [flg] using h
set_option maxRecDepth 100000 in
set_option maxHeartbeats 40000000 in
theorem sChar (b off cap n : Nat) (L : List Int) (w : World) (hr : RowAt w b off L) (hL : L.length ≤ 65536) (hn : n + 1 < L.length) : Calls Tryz.prog 54 #[.slice (some ⟨b, off, none⟩) L.length cap, .int .i64 ((n + 1 : Nat) : Int)] w fun e w' => e = .returned (.bool (charS L (n + 1))) ∧ Below w.heap.size w w' := by
  have hb := hr.1
  have HR := hide hr
  have k0 := hr.2 n (by omega)
  have k1 := hr.2 (n + 1) hn
  have hi1 : ((n + 1 : Nat) : Int) - 1 = (n : Int) := by omega
  have hi2 : ((n + 1 : Nat) : Int) - 2 = (n : Int) - 1 := by omega
  clear hr
  have CB := hide (fun W (h : RowAt W b off L) => sBound b off cap n L W h hL (by omega))
  have CN := hide (fun W (h : RowAt W b off L) => sFlags b off cap n L W h hL (by omega))
  have HD : Hid (charS L (n + 1) = if nth L n == 13 && nth L (n + 1) == 10 then false else if ctl (nth L n) || ctl (nth L (n + 1)) then true else if sylS (nth L n) (nth L (n + 1)) || mrk (nth L (n + 1)) then false
    else if (decide (1536 ≤ nth L (n + 1)) && decide (nth L (n + 1) ≤ 1567)) && bnd L n then false else if nth L n == 7936 && pic (nth L (n + 1)) then !pik L n else if flg (nth L n) && flg (nth L (n + 1)) then fls L n % 2 == 0 else true) := hide rfl
  generalize charS L (n + 1) = D at *
  have hfl := fls_le L n
  obtain ⟨l, hl⟩ : ∃ l, nth L n = l := ⟨_, rfl⟩
  obtain ⟨r, hrr⟩ : ∃ r, nth L (n + 1) = r := ⟨_, rfl⟩
  rw [hl] at k0 HD
  rw [hrr] at k1 HD
  clear hl hrr
  have CL := hide (fun W => sControl l W)
  have CR := hide (fun W => sControl r W)
  have CS := hide (fun W => sSyllable l r W)
  have CM := hide (fun W => sMark r W)
  have CP := hide (fun W => sPicture r W)
  have CF := hide (fun W => sFlag l W)
  have CG := hide (fun W => sFlag r W)
  cases h13 : (l == 13)
  · skip
    cases hcl : ctl l
    · cases hcr : ctl r
      · cases hs : sylS l r
        · cases hm : mrk r
          · rw [hcl] at CL
            rw [hcr] at CR
            rw [hs] at CS
            rw [hm] at CM
            by_cases h6 : 1536 ≤ r
            · by_cases h7' : r ≤ 1567
              · cases hbd : bnd L n
                · rw [hbd] at CB
                  cases h7 : (l == 7936)
                  · skip
                    cases hfl1 : flg l
                    · rw [hfl1] at CF
                      have HV : Hid (D = true) := hide (by rw [unhide HD]; simp [h13, hcl, hcr, hs, hm, hbd, h7, hfl1])
                      clear HD
                      go_enter Tryz.func54, Tryz.ntmps54
                      go_wp2_with (first | (go_at_call_of 79 l; refine ((unhide CL) _).mono ?_; rintro e w2 ⟨rfl, hb2⟩; have T2 := hide hb2; clear hb2) | (go_at_call_of 79 r; refine ((unhide CR) _).mono ?_; rintro e w3 ⟨rfl, hb3⟩; have T3 := hide (join2 (unhide T2) hb3); clear hb3) | (go_at_call 80; refine ((unhide CS) _).mono ?_; rintro e w9 ⟨rfl, hw9⟩; obtain rfl := hw9.symm; clear hw9) | (go_at_call 81; refine ((unhide CM) _).mono ?_; rintro e w4 ⟨rfl, hb4⟩; have T4 := hide (join2 (unhide T3) hb4); have R4 := hide ((unhide HR).below (unhide T4)); clear hb4) | (go_at_call 82; refine ((unhide CB) _ (unhide R4)).mono ?_; rintro e w9 ⟨rfl, hw9⟩; obtain rfl := hw9.symm; clear hw9) | (go_at_call_of 83 l; refine ((unhide CF) _).mono ?_; rintro e w9 ⟨rfl, hw9⟩; obtain rfl := hw9.symm; clear hw9))
                      go_ret
                      exact ⟨by rw [unhide HV]; rfl, unhide T4⟩
                    · rw [hfl1] at CF
                      cases hfr : flg r
                      · rw [hfr] at CG
                        have HV : Hid (D = true) := hide (by rw [unhide HD]; simp [h13, hcl, hcr, hs, hm, hbd, h7, hfl1, hfr])
                        clear HD
                        go_enter Tryz.func54, Tryz.ntmps54
                        go_wp2_with (first | (go_at_call_of 79 l; refine ((unhide CL) _).mono ?_; rintro e w2 ⟨rfl, hb2⟩; have T2 := hide hb2; clear hb2) | (go_at_call_of 79 r; refine ((unhide CR) _).mono ?_; rintro e w3 ⟨rfl, hb3⟩; have T3 := hide (join2 (unhide T2) hb3); clear hb3) | (go_at_call 80; refine ((unhide CS) _).mono ?_; rintro e w9 ⟨rfl, hw9⟩; obtain rfl := hw9.symm; clear hw9) | (go_at_call 81; refine ((unhide CM) _).mono ?_; rintro e w4 ⟨rfl, hb4⟩; have T4 := hide (join2 (unhide T3) hb4); have R4 := hide ((unhide HR).below (unhide T4)); clear hb4) | (go_at_call 82; refine ((unhide CB) _ (unhide R4)).mono ?_; rintro e w9 ⟨rfl, hw9⟩; obtain rfl := hw9.symm; clear hw9) | (go_at_call_of 83 l; refine ((unhide CF) _).mono ?_; rintro e w9 ⟨rfl, hw9⟩; obtain rfl := hw9.symm; clear hw9) | (go_at_call_of 83 r; refine ((unhide CG) _).mono ?_; rintro e w9 ⟨rfl, hw9⟩; obtain rfl := hw9.symm; clear hw9))
                        go_ret
                        exact ⟨by rw [unhide HV]; rfl, unhide T4⟩
                      · rw [hfr] at CG
                        have := flg_bd hfr
                        omega
                  · cases hp : pic r
                    · rw [hp] at CP
                      cases hfl1 : flg l
                      · rw [hfl1] at CF
                        have HV : Hid (D = true) := hide (by rw [unhide HD]; simp [h13, hcl, hcr, hs, hm, hbd, h7, hp, hfl1])
                        clear HD
                        go_enter Tryz.func54, Tryz.ntmps54
                        go_wp2_with (first | (go_at_call_of 79 l; refine ((unhide CL) _).mono ?_; rintro e w2 ⟨rfl, hb2⟩; have T2 := hide hb2; clear hb2) | (go_at_call_of 79 r; refine ((unhide CR) _).mono ?_; rintro e w3 ⟨rfl, hb3⟩; have T3 := hide (join2 (unhide T2) hb3); clear hb3) | (go_at_call 80; refine ((unhide CS) _).mono ?_; rintro e w9 ⟨rfl, hw9⟩; obtain rfl := hw9.symm; clear hw9) | (go_at_call 81; refine ((unhide CM) _).mono ?_; rintro e w4 ⟨rfl, hb4⟩; have T4 := hide (join2 (unhide T3) hb4); have R4 := hide ((unhide HR).below (unhide T4)); clear hb4) | (go_at_call 82; refine ((unhide CB) _ (unhide R4)).mono ?_; rintro e w9 ⟨rfl, hw9⟩; obtain rfl := hw9.symm; clear hw9) | (go_at_call 56; refine ((unhide CP) _).mono ?_; rintro e w9 ⟨rfl, hw9⟩; obtain rfl := hw9.symm; clear hw9) | (go_at_call_of 83 l; refine ((unhide CF) _).mono ?_; rintro e w9 ⟨rfl, hw9⟩; obtain rfl := hw9.symm; clear hw9))
                        go_ret
                        exact ⟨by rw [unhide HV]; rfl, unhide T4⟩
                      · rw [hfl1] at CF
                        cases hfr : flg r
                        · rw [hfr] at CG
                          have HV : Hid (D = true) := hide (by rw [unhide HD]; simp [h13, hcl, hcr, hs, hm, hbd, h7, hp, hfl1, hfr])
                          clear HD
                          go_enter Tryz.func54, Tryz.ntmps54
                          go_wp2_with (first | (go_at_call_of 79 l; refine ((unhide CL) _).mono ?_; rintro e w2 ⟨rfl, hb2⟩; have T2 := hide hb2; clear hb2) | (go_at_call_of 79 r; refine ((unhide CR) _).mono ?_; rintro e w3 ⟨rfl, hb3⟩; have T3 := hide (join2 (unhide T2) hb3); clear hb3) | (go_at_call 80; refine ((unhide CS) _).mono ?_; rintro e w9 ⟨rfl, hw9⟩; obtain rfl := hw9.symm; clear hw9) | (go_at_call 81; refine ((unhide CM) _).mono ?_; rintro e w4 ⟨rfl, hb4⟩; have T4 := hide (join2 (unhide T3) hb4); have R4 := hide ((unhide HR).below (unhide T4)); clear hb4) | (go_at_call 82; refine ((unhide CB) _ (unhide R4)).mono ?_; rintro e w9 ⟨rfl, hw9⟩; obtain rfl := hw9.symm; clear hw9) | (go_at_call 56; refine ((unhide CP) _).mono ?_; rintro e w9 ⟨rfl, hw9⟩; obtain rfl := hw9.symm; clear hw9) | (go_at_call_of 83 l; refine ((unhide CF) _).mono ?_; rintro e w9 ⟨rfl, hw9⟩; obtain rfl := hw9.symm; clear hw9) | (go_at_call_of 83 r; refine ((unhide CG) _).mono ?_; rintro e w9 ⟨rfl, hw9⟩; obtain rfl := hw9.symm; clear hw9))
                          go_ret
                          exact ⟨by rw [unhide HV]; rfl, unhide T4⟩
                        · rw [hfr] at CG
                          have := flg_bd hfr
                          omega
                    · rw [hp] at CP
                      have := pic_bd hp
                      omega
                · rw [hbd] at CB
                  have HV : Hid (D = false) := hide (by rw [unhide HD]; simp [h13, hcl, hcr, hs, hm, h6, h7', hbd])
                  clear HD
                  go_enter Tryz.func54, Tryz.ntmps54
                  go_wp2_with (first | (go_at_call_of 79 l; refine ((unhide CL) _).mono ?_; rintro e w2 ⟨rfl, hb2⟩; have T2 := hide hb2; clear hb2) | (go_at_call_of 79 r; refine ((unhide CR) _).mono ?_; rintro e w3 ⟨rfl, hb3⟩; have T3 := hide (join2 (unhide T2) hb3); clear hb3) | (go_at_call 80; refine ((unhide CS) _).mono ?_; rintro e w9 ⟨rfl, hw9⟩; obtain rfl := hw9.symm; clear hw9) | (go_at_call 81; refine ((unhide CM) _).mono ?_; rintro e w4 ⟨rfl, hb4⟩; have T4 := hide (join2 (unhide T3) hb4); have R4 := hide ((unhide HR).below (unhide T4)); clear hb4) | (go_at_call 82; refine ((unhide CB) _ (unhide R4)).mono ?_; rintro e w9 ⟨rfl, hw9⟩; obtain rfl := hw9.symm; clear hw9))
                  go_ret
                  exact ⟨by rw [unhide HV]; rfl, unhide T4⟩
              · skip
                cases h7 : (l == 7936)
                · skip
                  cases hfl1 : flg l
                  · rw [hfl1] at CF
                    have HV : Hid (D = true) := hide (by rw [unhide HD]; simp [h13, hcl, hcr, hs, hm, h7', h7, hfl1])
                    clear HD
                    go_enter Tryz.func54, Tryz.ntmps54
                    go_wp2_with (first | (go_at_call_of 79 l; refine ((unhide CL) _).mono ?_; rintro e w2 ⟨rfl, hb2⟩; have T2 := hide hb2; clear hb2) | (go_at_call_of 79 r; refine ((unhide CR) _).mono ?_; rintro e w3 ⟨rfl, hb3⟩; have T3 := hide (join2 (unhide T2) hb3); clear hb3) | (go_at_call 80; refine ((unhide CS) _).mono ?_; rintro e w9 ⟨rfl, hw9⟩; obtain rfl := hw9.symm; clear hw9) | (go_at_call 81; refine ((unhide CM) _).mono ?_; rintro e w4 ⟨rfl, hb4⟩; have T4 := hide (join2 (unhide T3) hb4); have R4 := hide ((unhide HR).below (unhide T4)); clear hb4) | (go_at_call_of 83 l; refine ((unhide CF) _).mono ?_; rintro e w9 ⟨rfl, hw9⟩; obtain rfl := hw9.symm; clear hw9))
                    go_ret
                    exact ⟨by rw [unhide HV]; rfl, unhide T4⟩
                  · rw [hfl1] at CF
                    cases hfr : flg r
                    · rw [hfr] at CG
                      have HV : Hid (D = true) := hide (by rw [unhide HD]; simp [h13, hcl, hcr, hs, hm, h7', h7, hfl1, hfr])
                      clear HD
                      go_enter Tryz.func54, Tryz.ntmps54
                      go_wp2_with (first | (go_at_call_of 79 l; refine ((unhide CL) _).mono ?_; rintro e w2 ⟨rfl, hb2⟩; have T2 := hide hb2; clear hb2) | (go_at_call_of 79 r; refine ((unhide CR) _).mono ?_; rintro e w3 ⟨rfl, hb3⟩; have T3 := hide (join2 (unhide T2) hb3); clear hb3) | (go_at_call 80; refine ((unhide CS) _).mono ?_; rintro e w9 ⟨rfl, hw9⟩; obtain rfl := hw9.symm; clear hw9) | (go_at_call 81; refine ((unhide CM) _).mono ?_; rintro e w4 ⟨rfl, hb4⟩; have T4 := hide (join2 (unhide T3) hb4); have R4 := hide ((unhide HR).below (unhide T4)); clear hb4) | (go_at_call_of 83 l; refine ((unhide CF) _).mono ?_; rintro e w9 ⟨rfl, hw9⟩; obtain rfl := hw9.symm; clear hw9) | (go_at_call_of 83 r; refine ((unhide CG) _).mono ?_; rintro e w9 ⟨rfl, hw9⟩; obtain rfl := hw9.symm; clear hw9))
                      go_ret
                      exact ⟨by rw [unhide HV]; rfl, unhide T4⟩
                    · rw [hfr] at CG
                      obtain ⟨m, hm2⟩ : ∃ m, fls L n % 2 = m := ⟨_, rfl⟩
                      have HD2 : Hid (D = (m == 0)) := hide (by rw [unhide HD, hm2]; simp [h13, hcl, hcr, hs, hm, h7', h7, hfl1, hfr])
                      obtain ⟨f, hf⟩ : ∃ f, fls L n = f := ⟨_, rfl⟩
                      rw [hf] at hm2 hfl CN
                      have e1 : ((f : Int)).tmod 2 = (m : Int) := by rw [Int.tmod_eq_emod_of_nonneg (by omega)]; omega
                      have hmm : ((m : Int) == 0) = (m == 0) := by rw [Bool.eq_iff_iff]; simp
                      have HMM := hide hmm
                      clear HD hf hm2 hmm
                      go_enter Tryz.func54, Tryz.ntmps54
                      go_wp2_with (first | (go_at_call_of 79 l; refine ((unhide CL) _).mono ?_; rintro e w2 ⟨rfl, hb2⟩; have T2 := hide hb2; clear hb2) | (go_at_call_of 79 r; refine ((unhide CR) _).mono ?_; rintro e w3 ⟨rfl, hb3⟩; have T3 := hide (join2 (unhide T2) hb3); clear hb3) | (go_at_call 80; refine ((unhide CS) _).mono ?_; rintro e w9 ⟨rfl, hw9⟩; obtain rfl := hw9.symm; clear hw9) | (go_at_call 81; refine ((unhide CM) _).mono ?_; rintro e w4 ⟨rfl, hb4⟩; have T4 := hide (join2 (unhide T3) hb4); have R4 := hide ((unhide HR).below (unhide T4)); clear hb4) | (go_at_call_of 83 l; refine ((unhide CF) _).mono ?_; rintro e w9 ⟨rfl, hw9⟩; obtain rfl := hw9.symm; clear hw9) | (go_at_call_of 83 r; refine ((unhide CG) _).mono ?_; rintro e w9 ⟨rfl, hw9⟩; obtain rfl := hw9.symm; clear hw9) | (go_at_call 84; refine ((unhide CN) _ (unhide R4)).mono ?_; rintro e w9 ⟨rfl, hw9⟩; obtain rfl := hw9.symm; clear hw9))
                      go_ret
                      exact ⟨by rw [unhide HD2, ← unhide HMM]; rfl, unhide T4⟩
                · cases hp : pic r
                  · rw [hp] at CP
                    cases hfl1 : flg l
                    · rw [hfl1] at CF
                      have HV : Hid (D = true) := hide (by rw [unhide HD]; simp [h13, hcl, hcr, hs, hm, h7', h7, hp, hfl1])
                      clear HD
                      go_enter Tryz.func54, Tryz.ntmps54
                      go_wp2_with (first | (go_at_call_of 79 l; refine ((unhide CL) _).mono ?_; rintro e w2 ⟨rfl, hb2⟩; have T2 := hide hb2; clear hb2) | (go_at_call_of 79 r; refine ((unhide CR) _).mono ?_; rintro e w3 ⟨rfl, hb3⟩; have T3 := hide (join2 (unhide T2) hb3); clear hb3) | (go_at_call 80; refine ((unhide CS) _).mono ?_; rintro e w9 ⟨rfl, hw9⟩; obtain rfl := hw9.symm; clear hw9) | (go_at_call 81; refine ((unhide CM) _).mono ?_; rintro e w4 ⟨rfl, hb4⟩; have T4 := hide (join2 (unhide T3) hb4); have R4 := hide ((unhide HR).below (unhide T4)); clear hb4) | (go_at_call 56; refine ((unhide CP) _).mono ?_; rintro e w9 ⟨rfl, hw9⟩; obtain rfl := hw9.symm; clear hw9) | (go_at_call_of 83 l; refine ((unhide CF) _).mono ?_; rintro e w9 ⟨rfl, hw9⟩; obtain rfl := hw9.symm; clear hw9))
                      go_ret
                      exact ⟨by rw [unhide HV]; rfl, unhide T4⟩
                    · rw [hfl1] at CF
                      cases hfr : flg r
                      · rw [hfr] at CG
                        have HV : Hid (D = true) := hide (by rw [unhide HD]; simp [h13, hcl, hcr, hs, hm, h7', h7, hp, hfl1, hfr])
                        clear HD
                        go_enter Tryz.func54, Tryz.ntmps54
                        go_wp2_with (first | (go_at_call_of 79 l; refine ((unhide CL) _).mono ?_; rintro e w2 ⟨rfl, hb2⟩; have T2 := hide hb2; clear hb2) | (go_at_call_of 79 r; refine ((unhide CR) _).mono ?_; rintro e w3 ⟨rfl, hb3⟩; have T3 := hide (join2 (unhide T2) hb3); clear hb3) | (go_at_call 80; refine ((unhide CS) _).mono ?_; rintro e w9 ⟨rfl, hw9⟩; obtain rfl := hw9.symm; clear hw9) | (go_at_call 81; refine ((unhide CM) _).mono ?_; rintro e w4 ⟨rfl, hb4⟩; have T4 := hide (join2 (unhide T3) hb4); have R4 := hide ((unhide HR).below (unhide T4)); clear hb4) | (go_at_call 56; refine ((unhide CP) _).mono ?_; rintro e w9 ⟨rfl, hw9⟩; obtain rfl := hw9.symm; clear hw9) | (go_at_call_of 83 l; refine ((unhide CF) _).mono ?_; rintro e w9 ⟨rfl, hw9⟩; obtain rfl := hw9.symm; clear hw9) | (go_at_call_of 83 r; refine ((unhide CG) _).mono ?_; rintro e w9 ⟨rfl, hw9⟩; obtain rfl := hw9.symm; clear hw9))
                        go_ret
                        exact ⟨by rw [unhide HV]; rfl, unhide T4⟩
                      · rw [hfr] at CG
                        obtain ⟨m, hm2⟩ : ∃ m, fls L n % 2 = m := ⟨_, rfl⟩
                        have HD2 : Hid (D = (m == 0)) := hide (by rw [unhide HD, hm2]; simp [h13, hcl, hcr, hs, hm, h7', h7, hp, hfl1, hfr])
                        obtain ⟨f, hf⟩ : ∃ f, fls L n = f := ⟨_, rfl⟩
                        rw [hf] at hm2 hfl CN
                        have e1 : ((f : Int)).tmod 2 = (m : Int) := by rw [Int.tmod_eq_emod_of_nonneg (by omega)]; omega
                        have hmm : ((m : Int) == 0) = (m == 0) := by rw [Bool.eq_iff_iff]; simp
                        have HMM := hide hmm
                        clear HD hf hm2 hmm
                        go_enter Tryz.func54, Tryz.ntmps54
                        go_wp2_with (first | (go_at_call_of 79 l; refine ((unhide CL) _).mono ?_; rintro e w2 ⟨rfl, hb2⟩; have T2 := hide hb2; clear hb2) | (go_at_call_of 79 r; refine ((unhide CR) _).mono ?_; rintro e w3 ⟨rfl, hb3⟩; have T3 := hide (join2 (unhide T2) hb3); clear hb3) | (go_at_call 80; refine ((unhide CS) _).mono ?_; rintro e w9 ⟨rfl, hw9⟩; obtain rfl := hw9.symm; clear hw9) | (go_at_call 81; refine ((unhide CM) _).mono ?_; rintro e w4 ⟨rfl, hb4⟩; have T4 := hide (join2 (unhide T3) hb4); have R4 := hide ((unhide HR).below (unhide T4)); clear hb4) | (go_at_call 56; refine ((unhide CP) _).mono ?_; rintro e w9 ⟨rfl, hw9⟩; obtain rfl := hw9.symm; clear hw9) | (go_at_call_of 83 l; refine ((unhide CF) _).mono ?_; rintro e w9 ⟨rfl, hw9⟩; obtain rfl := hw9.symm; clear hw9) | (go_at_call_of 83 r; refine ((unhide CG) _).mono ?_; rintro e w9 ⟨rfl, hw9⟩; obtain rfl := hw9.symm; clear hw9) | (go_at_call 84; refine ((unhide CN) _ (unhide R4)).mono ?_; rintro e w9 ⟨rfl, hw9⟩; obtain rfl := hw9.symm; clear hw9))
                        go_ret
                        exact ⟨by rw [unhide HD2, ← unhide HMM]; rfl, unhide T4⟩
                  · rw [hp] at CP
                    have HV : Hid (D = !pik L n) := hide (by rw [unhide HD]; simp [h13, hcl, hcr, hs, hm, h7', h7, hp])
                    clear HD
                    go_enter Tryz.func54, Tryz.ntmps54
                    go_wp2_with (first | (go_at_call_of 79 l; refine ((unhide CL) _).mono ?_; rintro e w2 ⟨rfl, hb2⟩; have T2 := hide hb2; clear hb2) | (go_at_call_of 79 r; refine ((unhide CR) _).mono ?_; rintro e w3 ⟨rfl, hb3⟩; have T3 := hide (join2 (unhide T2) hb3); clear hb3) | (go_at_call 80; refine ((unhide CS) _).mono ?_; rintro e w9 ⟨rfl, hw9⟩; obtain rfl := hw9.symm; clear hw9) | (go_at_call 81; refine ((unhide CM) _).mono ?_; rintro e w4 ⟨rfl, hb4⟩; have T4 := hide (join2 (unhide T3) hb4); have R4 := hide ((unhide HR).below (unhide T4)); clear hb4) | (go_at_call 56; refine ((unhide CP) _).mono ?_; rintro e w9 ⟨rfl, hw9⟩; obtain rfl := hw9.symm; clear hw9))
                    go_loopw [7] (fun x wr => ∃ k : Nat, x = .int .i64 ((k : Int) - 1) ∧ k ≤ n ∧ Hid (pik L k = pik L n) ∧ Hid (Below w.heap.size w wr)) (fun x _ => ((intOf x) + 1).toNat)
                    case atStart => exact ⟨n, by go_num, by omega, hide rfl, T4⟩
                    case round =>
                      obtain ⟨k, rfl, hk, HK, TB⟩ := hrel
                      cases k with
                      | zero =>
                        have HV2 : Hid (D = true) := hide (by rw [unhide HV, ← unhide HK]; rfl)
                        go_wp2
                        go_ret
                        exact ⟨by rw [unhide HV2]; rfl, unhide TB⟩
                      | succ k =>
                        have RB := (unhide HR).below (unhide TB)
                        have c0 := RB.2 k (by omega)
                        have hbr := RB.1
                        have RH := hide RB
                        clear RB
                        have hk1 : ((k + 1 : Nat) : Int) - 1 = (k : Int) := by omega
                        obtain ⟨y, hy⟩ : ∃ y, nth L k = y := ⟨_, rfl⟩
                        have HY := hide hy
                        rw [hy] at c0
                        clear hy
                        have CY := hide (fun W => sMark y W)
                        have CQ := hide (fun W => sPicture y W)
                        cases hmy : mrk y
                        · rw [hmy] at CY
                          have HV2 : Hid (D = !pic y) := hide (by rw [unhide HV, ← unhide HK, pik_end (by rw [unhide HY]; exact hmy), unhide HY])
                          go_wp2_with (first | (go_at_call 81; refine ((unhide CY) _).mono ?_; rintro e w5 ⟨rfl, hb5⟩; have c5 := (hb5.cell (p := ⟨b, off + k, none⟩) hbr).trans c0; have hbr5 := Nat.lt_of_lt_of_le hbr hb5.size; have T5 := hide (join2 (unhide TB) hb5); clear hb5) | (go_at_call 56; refine ((unhide CQ) _).mono ?_; rintro e w9 ⟨rfl, hw9⟩; obtain rfl := hw9.symm; clear hw9))
                          go_ret
                          exact ⟨by rw [unhide HV2]; rfl, unhide T5⟩
                        · rw [hmy] at CY
                          have HK2 : Hid (pik L k = pik L n) := hide (by rw [← unhide HK, pik_on (by rw [unhide HY]; exact hmy)])
                          go_wp2_with (first | (go_at_call 81; refine ((unhide CY) _).mono ?_; rintro e w5 ⟨rfl, hb5⟩; have T5 := hide (join2 (unhide TB) hb5); clear hb5))
                          go_roundw
                          case rel => exact ⟨k, by go_num, by omega, HK2, T5⟩
                          case measure => simp [intOf]
            · skip
              cases h7 : (l == 7936)
              · skip
                cases hfl1 : flg l
                · rw [hfl1] at CF
                  have HV : Hid (D = true) := hide (by rw [unhide HD]; simp [h13, hcl, hcr, hs, hm, h6, h7, hfl1])
                  clear HD
                  go_enter Tryz.func54, Tryz.ntmps54
                  go_wp2_with (first | (go_at_call_of 79 l; refine ((unhide CL) _).mono ?_; rintro e w2 ⟨rfl, hb2⟩; have T2 := hide hb2; clear hb2) | (go_at_call_of 79 r; refine ((unhide CR) _).mono ?_; rintro e w3 ⟨rfl, hb3⟩; have T3 := hide (join2 (unhide T2) hb3); clear hb3) | (go_at_call 80; refine ((unhide CS) _).mono ?_; rintro e w9 ⟨rfl, hw9⟩; obtain rfl := hw9.symm; clear hw9) | (go_at_call 81; refine ((unhide CM) _).mono ?_; rintro e w4 ⟨rfl, hb4⟩; have T4 := hide (join2 (unhide T3) hb4); have R4 := hide ((unhide HR).below (unhide T4)); clear hb4) | (go_at_call_of 83 l; refine ((unhide CF) _).mono ?_; rintro e w9 ⟨rfl, hw9⟩; obtain rfl := hw9.symm; clear hw9))
                  go_ret
                  exact ⟨by rw [unhide HV]; rfl, unhide T4⟩
                · rw [hfl1] at CF
                  cases hfr : flg r
                  · rw [hfr] at CG
                    have HV : Hid (D = true) := hide (by rw [unhide HD]; simp [h13, hcl, hcr, hs, hm, h6, h7, hfl1, hfr])
                    clear HD
                    go_enter Tryz.func54, Tryz.ntmps54
                    go_wp2_with (first | (go_at_call_of 79 l; refine ((unhide CL) _).mono ?_; rintro e w2 ⟨rfl, hb2⟩; have T2 := hide hb2; clear hb2) | (go_at_call_of 79 r; refine ((unhide CR) _).mono ?_; rintro e w3 ⟨rfl, hb3⟩; have T3 := hide (join2 (unhide T2) hb3); clear hb3) | (go_at_call 80; refine ((unhide CS) _).mono ?_; rintro e w9 ⟨rfl, hw9⟩; obtain rfl := hw9.symm; clear hw9) | (go_at_call 81; refine ((unhide CM) _).mono ?_; rintro e w4 ⟨rfl, hb4⟩; have T4 := hide (join2 (unhide T3) hb4); have R4 := hide ((unhide HR).below (unhide T4)); clear hb4) | (go_at_call_of 83 l; refine ((unhide CF) _).mono ?_; rintro e w9 ⟨rfl, hw9⟩; obtain rfl := hw9.symm; clear hw9) | (go_at_call_of 83 r; refine ((unhide CG) _).mono ?_; rintro e w9 ⟨rfl, hw9⟩; obtain rfl := hw9.symm; clear hw9))
                    go_ret
                    exact ⟨by rw [unhide HV]; rfl, unhide T4⟩
                  · rw [hfr] at CG
                    have := flg_bd hfr
                    omega
              · cases hp : pic r
                · rw [hp] at CP
                  cases hfl1 : flg l
                  · rw [hfl1] at CF
                    have HV : Hid (D = true) := hide (by rw [unhide HD]; simp [h13, hcl, hcr, hs, hm, h6, h7, hp, hfl1])
                    clear HD
                    go_enter Tryz.func54, Tryz.ntmps54
                    go_wp2_with (first | (go_at_call_of 79 l; refine ((unhide CL) _).mono ?_; rintro e w2 ⟨rfl, hb2⟩; have T2 := hide hb2; clear hb2) | (go_at_call_of 79 r; refine ((unhide CR) _).mono ?_; rintro e w3 ⟨rfl, hb3⟩; have T3 := hide (join2 (unhide T2) hb3); clear hb3) | (go_at_call 80; refine ((unhide CS) _).mono ?_; rintro e w9 ⟨rfl, hw9⟩; obtain rfl := hw9.symm; clear hw9) | (go_at_call 81; refine ((unhide CM) _).mono ?_; rintro e w4 ⟨rfl, hb4⟩; have T4 := hide (join2 (unhide T3) hb4); have R4 := hide ((unhide HR).below (unhide T4)); clear hb4) | (go_at_call 56; refine ((unhide CP) _).mono ?_; rintro e w9 ⟨rfl, hw9⟩; obtain rfl := hw9.symm; clear hw9) | (go_at_call_of 83 l; refine ((unhide CF) _).mono ?_; rintro e w9 ⟨rfl, hw9⟩; obtain rfl := hw9.symm; clear hw9))
                    go_ret
                    exact ⟨by rw [unhide HV]; rfl, unhide T4⟩
                  · rw [hfl1] at CF
                    cases hfr : flg r
                    · rw [hfr] at CG
                      have HV : Hid (D = true) := hide (by rw [unhide HD]; simp [h13, hcl, hcr, hs, hm, h6, h7, hp, hfl1, hfr])
                      clear HD
                      go_enter Tryz.func54, Tryz.ntmps54
                      go_wp2_with (first | (go_at_call_of 79 l; refine ((unhide CL) _).mono ?_; rintro e w2 ⟨rfl, hb2⟩; have T2 := hide hb2; clear hb2) | (go_at_call_of 79 r; refine ((unhide CR) _).mono ?_; rintro e w3 ⟨rfl, hb3⟩; have T3 := hide (join2 (unhide T2) hb3); clear hb3) | (go_at_call 80; refine ((unhide CS) _).mono ?_; rintro e w9 ⟨rfl, hw9⟩; obtain rfl := hw9.symm; clear hw9) | (go_at_call 81; refine ((unhide CM) _).mono ?_; rintro e w4 ⟨rfl, hb4⟩; have T4 := hide (join2 (unhide T3) hb4); have R4 := hide ((unhide HR).below (unhide T4)); clear hb4) | (go_at_call 56; refine ((unhide CP) _).mono ?_; rintro e w9 ⟨rfl, hw9⟩; obtain rfl := hw9.symm; clear hw9) | (go_at_call_of 83 l; refine ((unhide CF) _).mono ?_; rintro e w9 ⟨rfl, hw9⟩; obtain rfl := hw9.symm; clear hw9) | (go_at_call_of 83 r; refine ((unhide CG) _).mono ?_; rintro e w9 ⟨rfl, hw9⟩; obtain rfl := hw9.symm; clear hw9))
                      go_ret
                      exact ⟨by rw [unhide HV]; rfl, unhide T4⟩
                    · rw [hfr] at CG
                      have := flg_bd hfr
                      omega
                · rw [hp] at CP
                  have := pic_bd hp
                  omega
          · rw [hcl] at CL
            rw [hcr] at CR
            rw [hs] at CS
            rw [hm] at CM
            have HV : Hid (D = false) := hide (by rw [unhide HD]; simp [h13, hcl, hcr, hs, hm])
            clear HD
            go_enter Tryz.func54, Tryz.ntmps54
            go_wp2_with (first | (go_at_call_of 79 l; refine ((unhide CL) _).mono ?_; rintro e w2 ⟨rfl, hb2⟩; have T2 := hide hb2; clear hb2) | (go_at_call_of 79 r; refine ((unhide CR) _).mono ?_; rintro e w3 ⟨rfl, hb3⟩; have T3 := hide (join2 (unhide T2) hb3); clear hb3) | (go_at_call 80; refine ((unhide CS) _).mono ?_; rintro e w9 ⟨rfl, hw9⟩; obtain rfl := hw9.symm; clear hw9) | (go_at_call 81; refine ((unhide CM) _).mono ?_; rintro e w4 ⟨rfl, hb4⟩; have T4 := hide (join2 (unhide T3) hb4); have R4 := hide ((unhide HR).below (unhide T4)); clear hb4))
            go_ret
            exact ⟨by rw [unhide HV]; rfl, unhide T4⟩
        · rw [hcl] at CL
          rw [hcr] at CR
          rw [hs] at CS
          have HV : Hid (D = false) := hide (by rw [unhide HD]; simp [h13, hcl, hcr, hs])
          clear HD
          go_enter Tryz.func54, Tryz.ntmps54
          go_wp2_with (first | (go_at_call_of 79 l; refine ((unhide CL) _).mono ?_; rintro e w2 ⟨rfl, hb2⟩; have T2 := hide hb2; clear hb2) | (go_at_call_of 79 r; refine ((unhide CR) _).mono ?_; rintro e w3 ⟨rfl, hb3⟩; have T3 := hide (join2 (unhide T2) hb3); clear hb3) | (go_at_call 80; refine ((unhide CS) _).mono ?_; rintro e w9 ⟨rfl, hw9⟩; obtain rfl := hw9.symm; clear hw9))
          go_ret
          exact ⟨by rw [unhide HV]; rfl, unhide T3⟩
      · rw [hcl] at CL
        rw [hcr] at CR
        have HV : Hid (D = true) := hide (by rw [unhide HD]; simp [h13, hcl, hcr])
        clear HD
        go_enter Tryz.func54, Tryz.ntmps54
        go_wp2_with (first | (go_at_call_of 79 l; refine ((unhide CL) _).mono ?_; rintro e w2 ⟨rfl, hb2⟩; have T2 := hide hb2; clear hb2) | (go_at_call_of 79 r; refine ((unhide CR) _).mono ?_; rintro e w3 ⟨rfl, hb3⟩; have T3 := hide (join2 (unhide T2) hb3); clear hb3))
        go_ret
        exact ⟨by rw [unhide HV]; rfl, unhide T3⟩
    · rw [hcl] at CL
      have HV : Hid (D = true) := hide (by rw [unhide HD]; simp [h13, hcl])
      clear HD
      go_enter Tryz.func54, Tryz.ntmps54
      go_wp2_with (first | (go_at_call_of 79 l; refine ((unhide CL) _).mono ?_; rintro e w2 ⟨rfl, hb2⟩; have T2 := hide hb2; clear hb2))
      go_ret
      exact ⟨by rw [unhide HV]; rfl, unhide T2⟩
  · cases h10 : (r == 10)
    · skip
      cases hcl : ctl l
      · cases hcr : ctl r
        · cases hs : sylS l r
          · cases hm : mrk r
            · rw [hcl] at CL
              rw [hcr] at CR
              rw [hs] at CS
              rw [hm] at CM
              by_cases h6 : 1536 ≤ r
              · by_cases h7' : r ≤ 1567
                · cases hbd : bnd L n
                  · rw [hbd] at CB
                    cases h7 : (l == 7936)
                    · skip
                      cases hfl1 : flg l
                      · rw [hfl1] at CF
                        have HV : Hid (D = true) := hide (by rw [unhide HD]; simp [h13, h10, hcl, hcr, hs, hm, hbd, h7, hfl1])
                        clear HD
                        go_enter Tryz.func54, Tryz.ntmps54
                        go_wp2_with (first | (go_at_call_of 79 l; refine ((unhide CL) _).mono ?_; rintro e w2 ⟨rfl, hb2⟩; have T2 := hide hb2; clear hb2) | (go_at_call_of 79 r; refine ((unhide CR) _).mono ?_; rintro e w3 ⟨rfl, hb3⟩; have T3 := hide (join2 (unhide T2) hb3); clear hb3) | (go_at_call 80; refine ((unhide CS) _).mono ?_; rintro e w9 ⟨rfl, hw9⟩; obtain rfl := hw9.symm; clear hw9) | (go_at_call 81; refine ((unhide CM) _).mono ?_; rintro e w4 ⟨rfl, hb4⟩; have T4 := hide (join2 (unhide T3) hb4); have R4 := hide ((unhide HR).below (unhide T4)); clear hb4) | (go_at_call 82; refine ((unhide CB) _ (unhide R4)).mono ?_; rintro e w9 ⟨rfl, hw9⟩; obtain rfl := hw9.symm; clear hw9) | (go_at_call_of 83 l; refine ((unhide CF) _).mono ?_; rintro e w9 ⟨rfl, hw9⟩; obtain rfl := hw9.symm; clear hw9))
                        go_ret
                        exact ⟨by rw [unhide HV]; rfl, unhide T4⟩
                      · rw [hfl1] at CF
                        cases hfr : flg r
                        · rw [hfr] at CG
                          have HV : Hid (D = true) := hide (by rw [unhide HD]; simp [h13, h10, hcl, hcr, hs, hm, hbd, h7, hfl1, hfr])
                          clear HD
                          go_enter Tryz.func54, Tryz.ntmps54
                          go_wp2_with (first | (go_at_call_of 79 l; refine ((unhide CL) _).mono ?_; rintro e w2 ⟨rfl, hb2⟩; have T2 := hide hb2; clear hb2) | (go_at_call_of 79 r; refine ((unhide CR) _).mono ?_; rintro e w3 ⟨rfl, hb3⟩; have T3 := hide (join2 (unhide T2) hb3); clear hb3) | (go_at_call 80; refine ((unhide CS) _).mono ?_; rintro e w9 ⟨rfl, hw9⟩; obtain rfl := hw9.symm; clear hw9) | (go_at_call 81; refine ((unhide CM) _).mono ?_; rintro e w4 ⟨rfl, hb4⟩; have T4 := hide (join2 (unhide T3) hb4); have R4 := hide ((unhide HR).below (unhide T4)); clear hb4) | (go_at_call 82; refine ((unhide CB) _ (unhide R4)).mono ?_; rintro e w9 ⟨rfl, hw9⟩; obtain rfl := hw9.symm; clear hw9) | (go_at_call_of 83 l; refine ((unhide CF) _).mono ?_; rintro e w9 ⟨rfl, hw9⟩; obtain rfl := hw9.symm; clear hw9) | (go_at_call_of 83 r; refine ((unhide CG) _).mono ?_; rintro e w9 ⟨rfl, hw9⟩; obtain rfl := hw9.symm; clear hw9))
                          go_ret
                          exact ⟨by rw [unhide HV]; rfl, unhide T4⟩
                        · rw [hfr] at CG
                          have := flg_bd hfr
                          omega
                    · have a1 := eq_of_beq h13
                      have a2 := eq_of_beq h7
                      omega
                  · rw [hbd] at CB
                    have HV : Hid (D = false) := hide (by rw [unhide HD]; simp [h13, h10, hcl, hcr, hs, hm, h6, h7', hbd])
                    clear HD
                    go_enter Tryz.func54, Tryz.ntmps54
                    go_wp2_with (first | (go_at_call_of 79 l; refine ((unhide CL) _).mono ?_; rintro e w2 ⟨rfl, hb2⟩; have T2 := hide hb2; clear hb2) | (go_at_call_of 79 r; refine ((unhide CR) _).mono ?_; rintro e w3 ⟨rfl, hb3⟩; have T3 := hide (join2 (unhide T2) hb3); clear hb3) | (go_at_call 80; refine ((unhide CS) _).mono ?_; rintro e w9 ⟨rfl, hw9⟩; obtain rfl := hw9.symm; clear hw9) | (go_at_call 81; refine ((unhide CM) _).mono ?_; rintro e w4 ⟨rfl, hb4⟩; have T4 := hide (join2 (unhide T3) hb4); have R4 := hide ((unhide HR).below (unhide T4)); clear hb4) | (go_at_call 82; refine ((unhide CB) _ (unhide R4)).mono ?_; rintro e w9 ⟨rfl, hw9⟩; obtain rfl := hw9.symm; clear hw9))
                    go_ret
                    exact ⟨by rw [unhide HV]; rfl, unhide T4⟩
                · skip
                  cases h7 : (l == 7936)
                  · skip
                    cases hfl1 : flg l
                    · rw [hfl1] at CF
                      have HV : Hid (D = true) := hide (by rw [unhide HD]; simp [h13, h10, hcl, hcr, hs, hm, h7', h7, hfl1])
                      clear HD
                      go_enter Tryz.func54, Tryz.ntmps54
                      go_wp2_with (first | (go_at_call_of 79 l; refine ((unhide CL) _).mono ?_; rintro e w2 ⟨rfl, hb2⟩; have T2 := hide hb2; clear hb2) | (go_at_call_of 79 r; refine ((unhide CR) _).mono ?_; rintro e w3 ⟨rfl, hb3⟩; have T3 := hide (join2 (unhide T2) hb3); clear hb3) | (go_at_call 80; refine ((unhide CS) _).mono ?_; rintro e w9 ⟨rfl, hw9⟩; obtain rfl := hw9.symm; clear hw9) | (go_at_call 81; refine ((unhide CM) _).mono ?_; rintro e w4 ⟨rfl, hb4⟩; have T4 := hide (join2 (unhide T3) hb4); have R4 := hide ((unhide HR).below (unhide T4)); clear hb4) | (go_at_call_of 83 l; refine ((unhide CF) _).mono ?_; rintro e w9 ⟨rfl, hw9⟩; obtain rfl := hw9.symm; clear hw9))
                      go_ret
                      exact ⟨by rw [unhide HV]; rfl, unhide T4⟩
                    · rw [hfl1] at CF
                      cases hfr : flg r
                      · rw [hfr] at CG
                        have HV : Hid (D = true) := hide (by rw [unhide HD]; simp [h13, h10, hcl, hcr, hs, hm, h7', h7, hfl1, hfr])
                        clear HD
                        go_enter Tryz.func54, Tryz.ntmps54
                        go_wp2_with (first | (go_at_call_of 79 l; refine ((unhide CL) _).mono ?_; rintro e w2 ⟨rfl, hb2⟩; have T2 := hide hb2; clear hb2) | (go_at_call_of 79 r; refine ((unhide CR) _).mono ?_; rintro e w3 ⟨rfl, hb3⟩; have T3 := hide (join2 (unhide T2) hb3); clear hb3) | (go_at_call 80; refine ((unhide CS) _).mono ?_; rintro e w9 ⟨rfl, hw9⟩; obtain rfl := hw9.symm; clear hw9) | (go_at_call 81; refine ((unhide CM) _).mono ?_; rintro e w4 ⟨rfl, hb4⟩; have T4 := hide (join2 (unhide T3) hb4); have R4 := hide ((unhide HR).below (unhide T4)); clear hb4) | (go_at_call_of 83 l; refine ((unhide CF) _).mono ?_; rintro e w9 ⟨rfl, hw9⟩; obtain rfl := hw9.symm; clear hw9) | (go_at_call_of 83 r; refine ((unhide CG) _).mono ?_; rintro e w9 ⟨rfl, hw9⟩; obtain rfl := hw9.symm; clear hw9))
                        go_ret
                        exact ⟨by rw [unhide HV]; rfl, unhide T4⟩
                      · rw [hfr] at CG
                        obtain ⟨m, hm2⟩ : ∃ m, fls L n % 2 = m := ⟨_, rfl⟩
                        have HD2 : Hid (D = (m == 0)) := hide (by rw [unhide HD, hm2]; simp [h13, h10, hcl, hcr, hs, hm, h7', h7, hfl1, hfr])
                        obtain ⟨f, hf⟩ : ∃ f, fls L n = f := ⟨_, rfl⟩
                        rw [hf] at hm2 hfl CN
                        have e1 : ((f : Int)).tmod 2 = (m : Int) := by rw [Int.tmod_eq_emod_of_nonneg (by omega)]; omega
                        have hmm : ((m : Int) == 0) = (m == 0) := by rw [Bool.eq_iff_iff]; simp
                        have HMM := hide hmm
                        clear HD hf hm2 hmm
                        go_enter Tryz.func54, Tryz.ntmps54
                        go_wp2_with (first | (go_at_call_of 79 l; refine ((unhide CL) _).mono ?_; rintro e w2 ⟨rfl, hb2⟩; have T2 := hide hb2; clear hb2) | (go_at_call_of 79 r; refine ((unhide CR) _).mono ?_; rintro e w3 ⟨rfl, hb3⟩; have T3 := hide (join2 (unhide T2) hb3); clear hb3) | (go_at_call 80; refine ((unhide CS) _).mono ?_; rintro e w9 ⟨rfl, hw9⟩; obtain rfl := hw9.symm; clear hw9) | (go_at_call 81; refine ((unhide CM) _).mono ?_; rintro e w4 ⟨rfl, hb4⟩; have T4 := hide (join2 (unhide T3) hb4); have R4 := hide ((unhide HR).below (unhide T4)); clear hb4) | (go_at_call_of 83 l; refine ((unhide CF) _).mono ?_; rintro e w9 ⟨rfl, hw9⟩; obtain rfl := hw9.symm; clear hw9) | (go_at_call_of 83 r; refine ((unhide CG) _).mono ?_; rintro e w9 ⟨rfl, hw9⟩; obtain rfl := hw9.symm; clear hw9) | (go_at_call 84; refine ((unhide CN) _ (unhide R4)).mono ?_; rintro e w9 ⟨rfl, hw9⟩; obtain rfl := hw9.symm; clear hw9))
                        go_ret
                        exact ⟨by rw [unhide HD2, ← unhide HMM]; rfl, unhide T4⟩
                  · have a1 := eq_of_beq h13
                    have a2 := eq_of_beq h7
                    omega
              · skip
                cases h7 : (l == 7936)
                · skip
                  cases hfl1 : flg l
                  · rw [hfl1] at CF
                    have HV : Hid (D = true) := hide (by rw [unhide HD]; simp [h13, h10, hcl, hcr, hs, hm, h6, h7, hfl1])
                    clear HD
                    go_enter Tryz.func54, Tryz.ntmps54
                    go_wp2_with (first | (go_at_call_of 79 l; refine ((unhide CL) _).mono ?_; rintro e w2 ⟨rfl, hb2⟩; have T2 := hide hb2; clear hb2) | (go_at_call_of 79 r; refine ((unhide CR) _).mono ?_; rintro e w3 ⟨rfl, hb3⟩; have T3 := hide (join2 (unhide T2) hb3); clear hb3) | (go_at_call 80; refine ((unhide CS) _).mono ?_; rintro e w9 ⟨rfl, hw9⟩; obtain rfl := hw9.symm; clear hw9) | (go_at_call 81; refine ((unhide CM) _).mono ?_; rintro e w4 ⟨rfl, hb4⟩; have T4 := hide (join2 (unhide T3) hb4); have R4 := hide ((unhide HR).below (unhide T4)); clear hb4) | (go_at_call_of 83 l; refine ((unhide CF) _).mono ?_; rintro e w9 ⟨rfl, hw9⟩; obtain rfl := hw9.symm; clear hw9))
                    go_ret
                    exact ⟨by rw [unhide HV]; rfl, unhide T4⟩
                  · rw [hfl1] at CF
                    cases hfr : flg r
                    · rw [hfr] at CG
                      have HV : Hid (D = true) := hide (by rw [unhide HD]; simp [h13, h10, hcl, hcr, hs, hm, h6, h7, hfl1, hfr])
                      clear HD
                      go_enter Tryz.func54, Tryz.ntmps54
                      go_wp2_with (first | (go_at_call_of 79 l; refine ((unhide CL) _).mono ?_; rintro e w2 ⟨rfl, hb2⟩; have T2 := hide hb2; clear hb2) | (go_at_call_of 79 r; refine ((unhide CR) _).mono ?_; rintro e w3 ⟨rfl, hb3⟩; have T3 := hide (join2 (unhide T2) hb3); clear hb3) | (go_at_call 80; refine ((unhide CS) _).mono ?_; rintro e w9 ⟨rfl, hw9⟩; obtain rfl := hw9.symm; clear hw9) | (go_at_call 81; refine ((unhide CM) _).mono ?_; rintro e w4 ⟨rfl, hb4⟩; have T4 := hide (join2 (unhide T3) hb4); have R4 := hide ((unhide HR).below (unhide T4)); clear hb4) | (go_at_call_of 83 l; refine ((unhide CF) _).mono ?_; rintro e w9 ⟨rfl, hw9⟩; obtain rfl := hw9.symm; clear hw9) | (go_at_call_of 83 r; refine ((unhide CG) _).mono ?_; rintro e w9 ⟨rfl, hw9⟩; obtain rfl := hw9.symm; clear hw9))
                      go_ret
                      exact ⟨by rw [unhide HV]; rfl, unhide T4⟩
                    · rw [hfr] at CG
                      have := flg_bd hfr
                      omega
                · have a1 := eq_of_beq h13
                  have a2 := eq_of_beq h7
                  omega
            · rw [hcl] at CL
              rw [hcr] at CR
              rw [hs] at CS
              rw [hm] at CM
              have HV : Hid (D = false) := hide (by rw [unhide HD]; simp [h13, h10, hcl, hcr, hs, hm])
              clear HD
              go_enter Tryz.func54, Tryz.ntmps54
              go_wp2_with (first | (go_at_call_of 79 l; refine ((unhide CL) _).mono ?_; rintro e w2 ⟨rfl, hb2⟩; have T2 := hide hb2; clear hb2) | (go_at_call_of 79 r; refine ((unhide CR) _).mono ?_; rintro e w3 ⟨rfl, hb3⟩; have T3 := hide (join2 (unhide T2) hb3); clear hb3) | (go_at_call 80; refine ((unhide CS) _).mono ?_; rintro e w9 ⟨rfl, hw9⟩; obtain rfl := hw9.symm; clear hw9) | (go_at_call 81; refine ((unhide CM) _).mono ?_; rintro e w4 ⟨rfl, hb4⟩; have T4 := hide (join2 (unhide T3) hb4); have R4 := hide ((unhide HR).below (unhide T4)); clear hb4))
              go_ret
              exact ⟨by rw [unhide HV]; rfl, unhide T4⟩
          · rw [hcl] at CL
            rw [hcr] at CR
            rw [hs] at CS
            have HV : Hid (D = false) := hide (by rw [unhide HD]; simp [h13, h10, hcl, hcr, hs])
            clear HD
            go_enter Tryz.func54, Tryz.ntmps54
            go_wp2_with (first | (go_at_call_of 79 l; refine ((unhide CL) _).mono ?_; rintro e w2 ⟨rfl, hb2⟩; have T2 := hide hb2; clear hb2) | (go_at_call_of 79 r; refine ((unhide CR) _).mono ?_; rintro e w3 ⟨rfl, hb3⟩; have T3 := hide (join2 (unhide T2) hb3); clear hb3) | (go_at_call 80; refine ((unhide CS) _).mono ?_; rintro e w9 ⟨rfl, hw9⟩; obtain rfl := hw9.symm; clear hw9))
            go_ret
            exact ⟨by rw [unhide HV]; rfl, unhide T3⟩
        · rw [hcl] at CL
          rw [hcr] at CR
          have HV : Hid (D = true) := hide (by rw [unhide HD]; simp [h13, h10, hcl, hcr])
          clear HD
          go_enter Tryz.func54, Tryz.ntmps54
          go_wp2_with (first | (go_at_call_of 79 l; refine ((unhide CL) _).mono ?_; rintro e w2 ⟨rfl, hb2⟩; have T2 := hide hb2; clear hb2) | (go_at_call_of 79 r; refine ((unhide CR) _).mono ?_; rintro e w3 ⟨rfl, hb3⟩; have T3 := hide (join2 (unhide T2) hb3); clear hb3))
          go_ret
          exact ⟨by rw [unhide HV]; rfl, unhide T3⟩
      · rw [hcl] at CL
        have HV : Hid (D = true) := hide (by rw [unhide HD]; simp [h13, h10, hcl])
        clear HD
        go_enter Tryz.func54, Tryz.ntmps54
        go_wp2_with (first | (go_at_call_of 79 l; refine ((unhide CL) _).mono ?_; rintro e w2 ⟨rfl, hb2⟩; have T2 := hide hb2; clear hb2))
        go_ret
        exact ⟨by rw [unhide HV]; rfl, unhide T2⟩
    · skip
      have HV : Hid (D = false) := hide (by rw [unhide HD]; simp [h13, h10])
      clear HD
      go_enter Tryz.func54, Tryz.ntmps54
      go_wp2
      go_ret
      exact ⟨by rw [unhide HV]; rfl, Below.refl _ _⟩
end Chr
end Go.Proofs.YtbaedapnikhdgaaGreatDoor
