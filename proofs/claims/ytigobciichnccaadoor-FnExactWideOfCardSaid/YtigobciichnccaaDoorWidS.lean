/- How wide a text is, as the specification tells it. -/
import Derived.Test.YtigobciichnccaaDoorMQ
import Derived.Test.YtigobciichnccaaDoorAlgU
namespace Go.Proofs.YtigobciichnccaaDoor
namespace Wid
open Go.RowKit Chr
set_option linter.unusedVariables false
/-- What the program gathers is what the specification cuts. -/
theorem chA_chars (s : ByteArray) (hs : s.size ≤ 65536) : Chr.chA s = Chr.charsOut s := by
  unfold Chr.charsOut Chr.cutsOut
  rw [if_neg (by omega)]
  unfold Chr.chA
  by_cases h0 : s.size = 0
  · rw [if_pos h0]
    have hp : pts s = [] := List.length_eq_zero_iff.1 (by have := pts_le s; omega)
    rw [hp]
    rfl
  · rw [if_neg h0]
    have hpos := Chr.pts_pos (s := s) (by omega)
    obtain ⟨k, hk⟩ : ∃ k, (pts s).length = k + 1 := ⟨(pts s).length - 1, by omega⟩
    have hB : (Chr.bsS (pts s)).length = k + 1 := by rw [Chr.bsS_len, hk]
    have hb0 : (Chr.bsS (pts s)).getD 0 false = true := by rw [Chr.bsS_at _ _ hpos]; rfl
    rw [Chr.sts_eq, hk, Chr.along_all s (Chr.plS s) (Chr.bsS (pts s)) hb0 rfl k]
    have e1 : Chr.ctP (Chr.plS s) (Chr.bsS (pts s)) (k + 1) = Chr.ctk s (Chr.bsS (pts s)) (k + 1) := Chr.ctP_ctk s (Chr.bsS (pts s)) (k + 1)
    unfold Chr.cutsL
    rw [if_neg (by omega), hB, e1]
    rfl
set_option maxRecDepth 100000 in
set_option maxHeartbeats 4000000 in
theorem charS (x : ByteArray) (h : 0 < x.size) (h2 : x.size ≤ 65536) (w : World) : Calls Tryd.prog 25 #[.string x] w fun e w' => e = .returned (.int .i64 (wc x)) ∧ Below w.heap.size w w' := by
  have CN := hide (next_any x 0 w h (by omega))
  have HW : Hid (wc x = wd (dP x 0 : Int)) := hide rfl
  generalize (dP x 0 : Int) = p at *
  generalize (dN x 0 : Int) = q at *
  have CP := hide (fun W => sPicture p W)
  have CC := hide (fun W => sCat p W)
  have HD : Hid (wd p = if sil p = true ∨ ide p = true ∨ pic p = true then 2 else if cat p = 1 ∨ cat p = 11 ∨ cat p = 3 then 0 else 1) := hide rfl
  have HS : Hid (sil p = (decide (12288 ≤ p) && decide (p ≤ 23459))) := hide rfl
  have HI : Hid (ide p = (decide (24576 ≤ p) && decide (p ≤ 26623))) := hide rfl
  generalize pic p = b3 at *
  generalize cat p = c at *
  generalize wd p = W0 at *
  have HC : Hid ((if cat p = 1 ∨ cat p = 11 ∨ cat p = 3 then (0 : Int) else 1) = (if cat p = 1 ∨ cat p = 11 ∨ cat p = 3 then (0 : Int) else 1)) := hide rfl
  have HT1 : 12288 ≤ p → p ≤ 23459 → W0 = 2 := fun a b => by rw [unhide HD, if_pos (.inl (by rw [unhide HS]; simp [a, b]))]
  have HT2 : 24576 ≤ p → p ≤ 26623 → W0 = 2 := fun a b => by rw [unhide HD, if_pos (.inr (.inl (by rw [unhide HI]; simp [a, b])))]
  have HT3 : b3 = true → W0 = 2 := fun a => by rw [unhide HD, if_pos (.inr (.inr a))]
  have HN : ¬ (12288 ≤ p ∧ p ≤ 23459) → ¬ (24576 ≤ p ∧ p ≤ 26623) → b3 = false → W0 = if (c == 1) = true ∨ (c == 11) = true ∨ (c == 3) = true then 0 else 1 := fun a b d => by
    rw [unhide HD, if_neg]
    · simp only [beq_iff_eq]
    · rw [unhide HS, unhide HI, d]
      simp only [Bool.and_eq_true, decide_eq_true_eq, Bool.false_eq_true, or_false]
      omega
  have K1 := hide HT1
  have K2 := hide HT2
  have K3 := hide HT3
  have K4 := hide HN
  clear HT1 HT2 HT3 HN HD HS HI HC
  have fin2 : ∀ {w' : World}, W0 = 2 → Below w.heap.size w w' → Ending.returned (.int .i64 2) = .returned (.int .i64 (wc x)) ∧ Below w.heap.size w w' := fun a b => ⟨by rw [unhide HW, a], b⟩
  by_cases a1 : 12288 ≤ p
  · by_cases a2 : p ≤ 23459
    · go_enter Tryd.func25, Tryd.ntmps25
      go_wp2_with (first
        | (go_at_call 46; refine (unhide CN).mono ?_; rintro e w1 ⟨⟨ok, rfl⟩, hb1⟩; have B1 := hide hb1; clear hb1)
        | (go_at_call 47; refine ((unhide CC) _).mono ?_; rintro e w2 ⟨rfl, hb2⟩; have B2 := hide ((unhide B1).trans (hb2.mono (unhide B1).size)); clear hb2))
      go_ret
      exact fin2 ((unhide K1) a1 a2) (unhide B2)
    · by_cases a3 : 24576 ≤ p
      · by_cases a4 : p ≤ 26623
        · go_enter Tryd.func25, Tryd.ntmps25
          go_wp2_with (first
            | (go_at_call 46; refine (unhide CN).mono ?_; rintro e w1 ⟨⟨ok, rfl⟩, hb1⟩; have B1 := hide hb1; clear hb1)
            | (go_at_call 47; refine ((unhide CC) _).mono ?_; rintro e w2 ⟨rfl, hb2⟩; have B2 := hide ((unhide B1).trans (hb2.mono (unhide B1).size)); clear hb2))
          go_ret
          exact fin2 ((unhide K2) a3 a4) (unhide B2)
        · have K5 := hide ((unhide K4) (by omega) (by omega))
          cases b3
          case true =>
            go_enter Tryd.func25, Tryd.ntmps25
            go_wp2_with (first
              | (go_at_call 46; refine (unhide CN).mono ?_; rintro e w1 ⟨⟨ok, rfl⟩, hb1⟩; have B1 := hide hb1; clear hb1)
              | (go_at_call 47; refine ((unhide CC) _).mono ?_; rintro e w2 ⟨rfl, hb2⟩; have B2 := hide ((unhide B1).trans (hb2.mono (unhide B1).size)); clear hb2)
              | (go_at_call 48; refine ((unhide CP) _).mono ?_; rintro e w' ⟨rfl, hw⟩; obtain rfl := hw.symm; clear hw))
            go_ret
            exact fin2 ((unhide K3) (by first | rfl | trivial)) (unhide B2)
          case false =>
            have K6 := hide ((unhide K5) (by first | rfl | trivial))
            cases h1 : (c == 1) <;> cases h11 : (c == 11) <;> cases h3 : (c == 3)
            all_goals
              rw [h1, h11, h3] at K6
              go_enter Tryd.func25, Tryd.ntmps25
              go_wp2_with (first
                | (go_at_call 46; refine (unhide CN).mono ?_; rintro e w1 ⟨⟨ok, rfl⟩, hb1⟩; have B1 := hide hb1; clear hb1)
                | (go_at_call 47; refine ((unhide CC) _).mono ?_; rintro e w2 ⟨rfl, hb2⟩; have B2 := hide ((unhide B1).trans (hb2.mono (unhide B1).size)); clear hb2)
                | (go_at_call 48; refine ((unhide CP) _).mono ?_; rintro e w' ⟨rfl, hw⟩; obtain rfl := hw.symm; clear hw))
              go_ret
              exact ⟨by rw [unhide HW, unhide K6]; rfl, unhide B2⟩
      · have K5 := hide ((unhide K4) (by omega) (by omega))
        cases b3
        case true =>
          go_enter Tryd.func25, Tryd.ntmps25
          go_wp2_with (first
            | (go_at_call 46; refine (unhide CN).mono ?_; rintro e w1 ⟨⟨ok, rfl⟩, hb1⟩; have B1 := hide hb1; clear hb1)
            | (go_at_call 47; refine ((unhide CC) _).mono ?_; rintro e w2 ⟨rfl, hb2⟩; have B2 := hide ((unhide B1).trans (hb2.mono (unhide B1).size)); clear hb2)
            | (go_at_call 48; refine ((unhide CP) _).mono ?_; rintro e w' ⟨rfl, hw⟩; obtain rfl := hw.symm; clear hw))
          go_ret
          exact fin2 ((unhide K3) (by first | rfl | trivial)) (unhide B2)
        case false =>
          have K6 := hide ((unhide K5) (by first | rfl | trivial))
          cases h1 : (c == 1) <;> cases h11 : (c == 11) <;> cases h3 : (c == 3)
          all_goals
            rw [h1, h11, h3] at K6
            go_enter Tryd.func25, Tryd.ntmps25
            go_wp2_with (first
              | (go_at_call 46; refine (unhide CN).mono ?_; rintro e w1 ⟨⟨ok, rfl⟩, hb1⟩; have B1 := hide hb1; clear hb1)
              | (go_at_call 47; refine ((unhide CC) _).mono ?_; rintro e w2 ⟨rfl, hb2⟩; have B2 := hide ((unhide B1).trans (hb2.mono (unhide B1).size)); clear hb2)
              | (go_at_call 48; refine ((unhide CP) _).mono ?_; rintro e w' ⟨rfl, hw⟩; obtain rfl := hw.symm; clear hw))
            go_ret
            exact ⟨by rw [unhide HW, unhide K6]; rfl, unhide B2⟩
  · have a3 : ¬ 24576 ≤ p := by omega
    have K5 := hide ((unhide K4) (by omega) (by omega))
    cases b3
    case true =>
      go_enter Tryd.func25, Tryd.ntmps25
      go_wp2_with (first
        | (go_at_call 46; refine (unhide CN).mono ?_; rintro e w1 ⟨⟨ok, rfl⟩, hb1⟩; have B1 := hide hb1; clear hb1)
        | (go_at_call 47; refine ((unhide CC) _).mono ?_; rintro e w2 ⟨rfl, hb2⟩; have B2 := hide ((unhide B1).trans (hb2.mono (unhide B1).size)); clear hb2)
        | (go_at_call 48; refine ((unhide CP) _).mono ?_; rintro e w' ⟨rfl, hw⟩; obtain rfl := hw.symm; clear hw))
      go_ret
      exact fin2 ((unhide K3) (by first | rfl | trivial)) (unhide B2)
    case false =>
      have K6 := hide ((unhide K5) (by first | rfl | trivial))
      cases h1 : (c == 1) <;> cases h11 : (c == 11) <;> cases h3 : (c == 3)
      all_goals
        rw [h1, h11, h3] at K6
        go_enter Tryd.func25, Tryd.ntmps25
        go_wp2_with (first
          | (go_at_call 46; refine (unhide CN).mono ?_; rintro e w1 ⟨⟨ok, rfl⟩, hb1⟩; have B1 := hide hb1; clear hb1)
          | (go_at_call 47; refine ((unhide CC) _).mono ?_; rintro e w2 ⟨rfl, hb2⟩; have B2 := hide ((unhide B1).trans (hb2.mono (unhide B1).size)); clear hb2)
          | (go_at_call 48; refine ((unhide CP) _).mono ?_; rintro e w' ⟨rfl, hw⟩; obtain rfl := hw.symm; clear hw))
        go_ret
        exact ⟨by rw [unhide HW, unhide K6]; rfl, unhide B2⟩
set_option maxRecDepth 100000 in
set_option maxHeartbeats 4000000 in
theorem wideS (s : ByteArray) (hs : s.size ≤ 65536) (w : World) : Calls Tryd.prog 9 #[.string s] w fun e w' => e = .returned (.int .i64 (ws (charsOut s))) ∧ Below w.heap.size w w' := by
  have CC := hide (fun W => Chr.sChars s W hs)
  have CP := hide (fun v W h => Chr.pieces_s s v W h)
  have HE : Hid (Chr.cutsL s (Chr.bsS (pts s)) = Chr.cutsOut s) := hide (by unfold Chr.cutsOut; rw [if_neg (by omega)])
  have hl := Chr.charsOut_le s
  have CX := hide (fun k (hk : k < (charsOut s).length) W => charS (nthS (charsOut s) k) (chars_pos s hs k hk).1 (chars_pos s hs k hk).2 W)
  generalize Chr.charsOut s = Z at *
  have HBD := hide (fun k => ws_bd (Z.take k))
  go_enter Tryd.func9, Tryd.ntmps9
  go_wp2_with (first
    | (go_at_call 24; refine ((unhide CC) _).mono ?_; clear CC; rintro e w1 ⟨v1, rfl, hI, hB1⟩; rw [unhide HE] at hI; have I1 := hide hI; have B1 := hide hB1; clear hI hB1)
    | (go_at_call 23; refine ((unhide CP) _ _ (unhide I1)).mono ?_; clear CP; rintro e w2 ⟨v2, rfl, hI2, hB2⟩; have B2 := hide ((unhide B1).trans (hB2.mono (unhide B1).size)); obtain ⟨a2, c2, rfl, hc2⟩ := hI2; have O2 := hide hc2; clear hB2 hc2))
  go_loopw [4, 5] (fun v4 v5 wr => ∃ k : Nat, k ≤ Z.length ∧ v4 = .int .i64 (ws (Z.take k)) ∧ v5 = .int .i64 (k : Int) ∧ Hid (Below w2.heap.size w2 wr)) (fun _ x _ => Z.length - (intOf x).toNat)
  case atStart => exact ⟨0, by omega, rfl, rfl, hide (Below.refl _ _)⟩
  case round =>
    obtain ⟨k, hk, rfl, rfl, HB⟩ := hrel
    by_cases hlt : k < Z.length
    · obtain ⟨b, off, rfl, hbs, hc⟩ : ∃ b off, a2 = some ⟨b, off, none⟩ ∧ b < w2.heap.size ∧ ∀ i, i < Z.length → w2.cell? ⟨b, off + i, none⟩ = some (.string (nthS Z i)) := by
        rcases unhide O2 with h | ⟨b, off, e, h1, h2⟩
        · rw [h] at hlt; simp at hlt
        · exact ⟨b, off, e, h1, h2⟩
      have c1 := ((unhide HB).cell (p := ⟨b, off + k, none⟩) hbs).trans (hc k hlt)
      have CK := hide ((unhide CX) k hlt)
      have HS := hide (ws_take Z k hlt)
      have hb1 := (unhide HBD) k
      have hb2 := wc_bd (nthS Z k)
      have htl : (Z.take k).length ≤ k := by simp; omega
      generalize nthS Z k = x at *
      clear hc
      have hw : wrap64 (ws (Z.take k) + wc x) = ws (Z.take (k + 1)) := by
        rw [unhide HS]
        unfold wrap64; omega
      generalize ws (Z.take k) = a at *
      go_wp2_with (go_at_call 25; refine ((unhide CK) _).mono ?_; rintro e w3 ⟨rfl, hb3⟩; have B3 := hide ((unhide HB).trans (hb3.mono (unhide HB).size)); clear hb3)
      go_round
      case rel => exact ⟨k + 1, by omega, by rw [unhide HS], by go_num, B3⟩
      case measure => simp [intOf]; omega
    · obtain rfl : k = Z.length := by omega
      go_wp2
      go_ret
      exact ⟨by rw [List.take_length]; rfl, (unhide B2).trans ((unhide HB).mono (unhide B2).size)⟩
theorem specWide (s : ByteArray) (w : World) (hs : s.size ≤ 1048576) : Calls Tryd.prog 5 #[.string s] w fun e w' => e = .returned (.int .i64 (if 65536 < s.size then 0 else ws (charsOut s))) ∧ Below w.heap.size w w' := by
  by_cases h1 : 65536 < s.size
  · have hgt : (65536 : Int) < (s.size : Int) := by omega
    rw [if_pos h1]
    go_enter Tryd.func5, Tryd.ntmps5
    go_wp2
    go_ret
    exact ⟨rfl, Below.refl _ _⟩
  · have hle : ¬ (65536 : Int) < (s.size : Int) := by omega
    rw [if_neg h1]
    have CW := hide (wideS s (by omega) w)
    generalize ws (charsOut s) = r at *
    go_enter Tryd.func5, Tryd.ntmps5
    go_wp2_with (go_at_call 9; refine (unhide CW).mono ?_; rintro e w1 ⟨rfl, hb1⟩; have B1 := hide hb1; clear hb1)
    go_ret
    exact ⟨rfl, unhide B1⟩
end Wid
end Go.Proofs.YtigobciichnccaaDoor
