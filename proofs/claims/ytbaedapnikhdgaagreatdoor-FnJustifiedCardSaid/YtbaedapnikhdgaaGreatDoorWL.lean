/- Several texts in one. -/
import Derived.Test.YtbaedapnikhdgaaGreatDoorMQ
import Derived.Test.YtbaedapnikhdgaaGreatDoorAL
import Derived.Test.YtbaedapnikhdgaaGreatDoorShelfD
import Derived.OrdersIn
import Derived.Deep.RegionHeld3
/- How wide a text is, as the specification tells it. -/
namespace Go.Proofs.YtbaedapnikhdgaaGreatDoor
namespace Wid
open Go.RowKit Chr
set_option linter.unusedVariables false
/-- What the program gathers is what the specification cuts. -/
theorem chA_chars (s : ByteArray) (hs : s.size ≤ 65536) : Chr.chA s = Chr.charsOut s := by
  unfold Chr.charsOut Chr.cutsOut
  rw [if_neg (by omega)]
  unfold Chr.chA
  by_cases h0 : s.size = 0
  · rw [if_pos h0]
    have hp : pts s = [] := List.length_eq_zero_iff.1 (by have := pts_le s; omega)
    rw [hp]
    rfl
  · rw [if_neg h0]
    have hpos := Chr.pts_pos (s := s) (by omega)
    obtain ⟨k, hk⟩ : ∃ k, (pts s).length = k + 1 := ⟨(pts s).length - 1, by omega⟩
    have hB : (Chr.bsS (pts s)).length = k + 1 := by rw [Chr.bsS_len, hk]
    have hb0 : (Chr.bsS (pts s)).getD 0 false = true := by rw [Chr.bsS_at _ _ hpos]; rfl
    rw [Chr.sts_eq, hk, Chr.along_all s (Chr.plS s) (Chr.bsS (pts s)) hb0 rfl k]
    have e1 : Chr.ctP (Chr.plS s) (Chr.bsS (pts s)) (k + 1) = Chr.ctk s (Chr.bsS (pts s)) (k + 1) := Chr.ctP_ctk s (Chr.bsS (pts s)) (k + 1)
    unfold Chr.cutsL
    rw [if_neg (by omega), hB, e1]
    rfl
set_option maxRecDepth 100000 in
set_option maxHeartbeats 4000000 in
theorem charS (x : ByteArray) (h : 0 < x.size) (h2 : x.size ≤ 65536) (w : World) : Calls Tryz.prog 33 #[.string x] w fun e w' => e = .returned (.int .i64 (wc x)) ∧ Below w.heap.size w w' := by
  have CN := hide (next_any x 0 w h (by omega))
  have HW : Hid (wc x = wd (dP x 0 : Int)) := hide rfl
  generalize (dP x 0 : Int) = p at *
  generalize (dN x 0 : Int) = q at *
  have CP := hide (fun W => sPicture p W)
  have CC := hide (fun W => sCat p W)
  have HD : Hid (wd p = if sil p = true ∨ ide p = true ∨ pic p = true then 2 else if cat p = 1 ∨ cat p = 11 ∨ cat p = 3 then 0 else 1) := hide rfl
  have HS : Hid (sil p = (decide (12288 ≤ p) && decide (p ≤ 23459))) := hide rfl
  have HI : Hid (ide p = (decide (24576 ≤ p) && decide (p ≤ 26623))) := hide rfl
  generalize pic p = b3 at *
  generalize cat p = c at *
  generalize wd p = W0 at *
  have HC : Hid ((if cat p = 1 ∨ cat p = 11 ∨ cat p = 3 then (0 : Int) else 1) = (if cat p = 1 ∨ cat p = 11 ∨ cat p = 3 then (0 : Int) else 1)) := hide rfl
  have HT1 : 12288 ≤ p → p ≤ 23459 → W0 = 2 := fun a b => by rw [unhide HD, if_pos (.inl (by rw [unhide HS]; simp [a, b]))]
  have HT2 : 24576 ≤ p → p ≤ 26623 → W0 = 2 := fun a b => by rw [unhide HD, if_pos (.inr (.inl (by rw [unhide HI]; simp [a, b])))]
  have HT3 : b3 = true → W0 = 2 := fun a => by rw [unhide HD, if_pos (.inr (.inr a))]
  have HN : ¬ (12288 ≤ p ∧ p ≤ 23459) → ¬ (24576 ≤ p ∧ p ≤ 26623) → b3 = false → W0 = if (c == 1) = true ∨ (c == 11) = true ∨ (c == 3) = true then 0 else 1 := fun a b d => by
    rw [unhide HD, if_neg]
    · simp only [beq_iff_eq]
    · rw [unhide HS, unhide HI, d]
      simp only [Bool.and_eq_true, decide_eq_true_eq, Bool.false_eq_true, or_false]
      omega
  have K1 := hide HT1
  have K2 := hide HT2
  have K3 := hide HT3
  have K4 := hide HN
  clear HT1 HT2 HT3 HN HD HS HI HC
  have fin2 : ∀ {w' : World}, W0 = 2 → Below w.heap.size w w' → Ending.returned (.int .i64 2) = .returned (.int .i64 (wc x)) ∧ Below w.heap.size w w' := fun a b => ⟨by rw [unhide HW, a], b⟩
  by_cases a1 : 12288 ≤ p
  · by_cases a2 : p ≤ 23459
    · go_enter Tryz.func33, Tryz.ntmps33
      go_wp2_with (first
        | (go_at_call 42; refine (unhide CN).mono ?_; rintro e w1 ⟨⟨ok, rfl⟩, hb1⟩; have B1 := hide hb1; clear hb1)
        | (go_at_call 55; refine ((unhide CC) _).mono ?_; rintro e w2 ⟨rfl, hb2⟩; have B2 := hide ((unhide B1).trans (hb2.mono (unhide B1).size)); clear hb2))
      go_ret
      exact fin2 ((unhide K1) a1 a2) (unhide B2)
    · by_cases a3 : 24576 ≤ p
      · by_cases a4 : p ≤ 26623
        · go_enter Tryz.func33, Tryz.ntmps33
          go_wp2_with (first
            | (go_at_call 42; refine (unhide CN).mono ?_; rintro e w1 ⟨⟨ok, rfl⟩, hb1⟩; have B1 := hide hb1; clear hb1)
            | (go_at_call 55; refine ((unhide CC) _).mono ?_; rintro e w2 ⟨rfl, hb2⟩; have B2 := hide ((unhide B1).trans (hb2.mono (unhide B1).size)); clear hb2))
          go_ret
          exact fin2 ((unhide K2) a3 a4) (unhide B2)
        · have K5 := hide ((unhide K4) (by omega) (by omega))
          cases b3
          case true =>
            go_enter Tryz.func33, Tryz.ntmps33
            go_wp2_with (first
              | (go_at_call 42; refine (unhide CN).mono ?_; rintro e w1 ⟨⟨ok, rfl⟩, hb1⟩; have B1 := hide hb1; clear hb1)
              | (go_at_call 55; refine ((unhide CC) _).mono ?_; rintro e w2 ⟨rfl, hb2⟩; have B2 := hide ((unhide B1).trans (hb2.mono (unhide B1).size)); clear hb2)
              | (go_at_call 56; refine ((unhide CP) _).mono ?_; rintro e w' ⟨rfl, hw⟩; obtain rfl := hw.symm; clear hw))
            go_ret
            exact fin2 ((unhide K3) (by first | rfl | trivial)) (unhide B2)
          case false =>
            have K6 := hide ((unhide K5) (by first | rfl | trivial))
            cases h1 : (c == 1) <;> cases h11 : (c == 11) <;> cases h3 : (c == 3)
            all_goals
              rw [h1, h11, h3] at K6
              go_enter Tryz.func33, Tryz.ntmps33
              go_wp2_with (first
                | (go_at_call 42; refine (unhide CN).mono ?_; rintro e w1 ⟨⟨ok, rfl⟩, hb1⟩; have B1 := hide hb1; clear hb1)
                | (go_at_call 55; refine ((unhide CC) _).mono ?_; rintro e w2 ⟨rfl, hb2⟩; have B2 := hide ((unhide B1).trans (hb2.mono (unhide B1).size)); clear hb2)
                | (go_at_call 56; refine ((unhide CP) _).mono ?_; rintro e w' ⟨rfl, hw⟩; obtain rfl := hw.symm; clear hw))
              go_ret
              exact ⟨by rw [unhide HW, unhide K6]; rfl, unhide B2⟩
      · have K5 := hide ((unhide K4) (by omega) (by omega))
        cases b3
        case true =>
          go_enter Tryz.func33, Tryz.ntmps33
          go_wp2_with (first
            | (go_at_call 42; refine (unhide CN).mono ?_; rintro e w1 ⟨⟨ok, rfl⟩, hb1⟩; have B1 := hide hb1; clear hb1)
            | (go_at_call 55; refine ((unhide CC) _).mono ?_; rintro e w2 ⟨rfl, hb2⟩; have B2 := hide ((unhide B1).trans (hb2.mono (unhide B1).size)); clear hb2)
            | (go_at_call 56; refine ((unhide CP) _).mono ?_; rintro e w' ⟨rfl, hw⟩; obtain rfl := hw.symm; clear hw))
          go_ret
          exact fin2 ((unhide K3) (by first | rfl | trivial)) (unhide B2)
        case false =>
          have K6 := hide ((unhide K5) (by first | rfl | trivial))
          cases h1 : (c == 1) <;> cases h11 : (c == 11) <;> cases h3 : (c == 3)
          all_goals
            rw [h1, h11, h3] at K6
            go_enter Tryz.func33, Tryz.ntmps33
            go_wp2_with (first
              | (go_at_call 42; refine (unhide CN).mono ?_; rintro e w1 ⟨⟨ok, rfl⟩, hb1⟩; have B1 := hide hb1; clear hb1)
              | (go_at_call 55; refine ((unhide CC) _).mono ?_; rintro e w2 ⟨rfl, hb2⟩; have B2 := hide ((unhide B1).trans (hb2.mono (unhide B1).size)); clear hb2)
              | (go_at_call 56; refine ((unhide CP) _).mono ?_; rintro e w' ⟨rfl, hw⟩; obtain rfl := hw.symm; clear hw))
            go_ret
            exact ⟨by rw [unhide HW, unhide K6]; rfl, unhide B2⟩
  · have a3 : ¬ 24576 ≤ p := by omega
    have K5 := hide ((unhide K4) (by omega) (by omega))
    cases b3
    case true =>
      go_enter Tryz.func33, Tryz.ntmps33
      go_wp2_with (first
        | (go_at_call 42; refine (unhide CN).mono ?_; rintro e w1 ⟨⟨ok, rfl⟩, hb1⟩; have B1 := hide hb1; clear hb1)
        | (go_at_call 55; refine ((unhide CC) _).mono ?_; rintro e w2 ⟨rfl, hb2⟩; have B2 := hide ((unhide B1).trans (hb2.mono (unhide B1).size)); clear hb2)
        | (go_at_call 56; refine ((unhide CP) _).mono ?_; rintro e w' ⟨rfl, hw⟩; obtain rfl := hw.symm; clear hw))
      go_ret
      exact fin2 ((unhide K3) (by first | rfl | trivial)) (unhide B2)
    case false =>
      have K6 := hide ((unhide K5) (by first | rfl | trivial))
      cases h1 : (c == 1) <;> cases h11 : (c == 11) <;> cases h3 : (c == 3)
      all_goals
        rw [h1, h11, h3] at K6
        go_enter Tryz.func33, Tryz.ntmps33
        go_wp2_with (first
          | (go_at_call 42; refine (unhide CN).mono ?_; rintro e w1 ⟨⟨ok, rfl⟩, hb1⟩; have B1 := hide hb1; clear hb1)
          | (go_at_call 55; refine ((unhide CC) _).mono ?_; rintro e w2 ⟨rfl, hb2⟩; have B2 := hide ((unhide B1).trans (hb2.mono (unhide B1).size)); clear hb2)
          | (go_at_call 56; refine ((unhide CP) _).mono ?_; rintro e w' ⟨rfl, hw⟩; obtain rfl := hw.symm; clear hw))
        go_ret
        exact ⟨by rw [unhide HW, unhide K6]; rfl, unhide B2⟩
set_option maxRecDepth 100000 in
set_option maxHeartbeats 4000000 in
theorem wideS (s : ByteArray) (hs : s.size ≤ 65536) (w : World) : Calls Tryz.prog 12 #[.string s] w fun e w' => e = .returned (.int .i64 (ws (charsOut s))) ∧ Below w.heap.size w w' := by
  have CC := hide (fun W => Chr.sChars s W hs)
  have CP := hide (fun v W h => Chr.pieces_s s v W h)
  have HE : Hid (Chr.cutsL s (Chr.bsS (pts s)) = Chr.cutsOut s) := hide (by unfold Chr.cutsOut; rw [if_neg (by omega)])
  have hl := Chr.charsOut_le s
  have CX := hide (fun k (hk : k < (charsOut s).length) W => charS (nthS (charsOut s) k) (chars_pos s hs k hk).1 (chars_pos s hs k hk).2 W)
  generalize Chr.charsOut s = Z at *
  have HBD := hide (fun k => ws_bd (Z.take k))
  go_enter Tryz.func12, Tryz.ntmps12
  go_wp2_with (first
    | (go_at_call 32; refine ((unhide CC) _).mono ?_; clear CC; rintro e w1 ⟨v1, rfl, hI, hB1⟩; rw [unhide HE] at hI; have I1 := hide hI; have B1 := hide hB1; clear hI hB1)
    | (go_at_call 31; refine ((unhide CP) _ _ (unhide I1)).mono ?_; clear CP; rintro e w2 ⟨v2, rfl, hI2, hB2⟩; have B2 := hide ((unhide B1).trans (hB2.mono (unhide B1).size)); obtain ⟨a2, c2, rfl, hc2⟩ := hI2; have O2 := hide hc2; clear hB2 hc2))
  go_loopw [4, 5] (fun v4 v5 wr => ∃ k : Nat, k ≤ Z.length ∧ v4 = .int .i64 (ws (Z.take k)) ∧ v5 = .int .i64 (k : Int) ∧ Hid (Below w2.heap.size w2 wr)) (fun _ x _ => Z.length - (intOf x).toNat)
  case atStart => exact ⟨0, by omega, rfl, rfl, hide (Below.refl _ _)⟩
  case round =>
    obtain ⟨k, hk, rfl, rfl, HB⟩ := hrel
    by_cases hlt : k < Z.length
    · obtain ⟨b, off, rfl, hbs, hc⟩ : ∃ b off, a2 = some ⟨b, off, none⟩ ∧ b < w2.heap.size ∧ ∀ i, i < Z.length → w2.cell? ⟨b, off + i, none⟩ = some (.string (nthS Z i)) := by
        rcases unhide O2 with h | ⟨b, off, e, h1, h2⟩
        · rw [h] at hlt; simp at hlt
        · exact ⟨b, off, e, h1, h2⟩
      have c1 := ((unhide HB).cell (p := ⟨b, off + k, none⟩) hbs).trans (hc k hlt)
      have CK := hide ((unhide CX) k hlt)
      have HS := hide (ws_take Z k hlt)
      have hb1 := (unhide HBD) k
      have hb2 := wc_bd (nthS Z k)
      have htl : (Z.take k).length ≤ k := by simp; omega
      generalize nthS Z k = x at *
      clear hc
      have hw : wrap64 (ws (Z.take k) + wc x) = ws (Z.take (k + 1)) := by
        rw [unhide HS]
        unfold wrap64; omega
      generalize ws (Z.take k) = a at *
      go_wp2_with (go_at_call 33; refine ((unhide CK) _).mono ?_; rintro e w3 ⟨rfl, hb3⟩; have B3 := hide ((unhide HB).trans (hb3.mono (unhide HB).size)); clear hb3)
      go_round
      case rel => exact ⟨k + 1, by omega, by rw [unhide HS], by go_num, B3⟩
      case measure => simp [intOf]; omega
    · obtain rfl : k = Z.length := by omega
      go_wp2
      go_ret
      exact ⟨by rw [List.take_length]; rfl, (unhide B2).trans ((unhide HB).mono (unhide B2).size)⟩
end Wid
end Go.Proofs.YtbaedapnikhdgaaGreatDoor
/- How wide a character is, as the program tells it. -/
namespace Go.Proofs.YtbaedapnikhdgaaGreatDoor
namespace Wid
open Go.RowKit Chr
set_option linter.unusedVariables false
def TabD (w : World) : Prop := Lib.Utf8Tabs (Tryz.laysDec_ren.g 3) (Tryz.laysDec_ren.g 4) w
theorem ideB (p : Int) (w : World) (ht : TabAt w) : Calls Tryz.prog 49 #[.int .i64 p] w fun e w' => e = .returned (.bool (ide p)) ∧ Below w.heap.size w w' := by
  have C := hide (scrI_any p w ht)
  have HE := hide (ide_iff p)
  clear ht
  generalize scr p = c at *
  go_enter Tryz.func49, Tryz.ntmps49
  go_wp2_with (go_at_call 76; refine (unhide C).mono ?_; rintro e w2 ⟨rfl, hb2⟩)
  go_ret
  exact ⟨by rw [← unhide HE]; rfl, hb2⟩
theorem dec_le (size pos b0 b1 b2 b3 : Nat) (h : b0 < 256) : (dec size pos b0 b1 b2 b3).1 ≤ 1114111 := by
  unfold dec
  repeat' split
  all_goals (first | omega | (simp only; omega))
/-- The first point by which the program goes. -/
def gp (x : ByteArray) : Int := ((Lib.decodeGo x).1 : Int)
theorem go_at (x : ByteArray) (h : 0 < x.size) : Lib.decodeGo x = Utf8.decode x 0 := by
  show (if x.size = 0 then (65533, 0) else Utf8.decode x 0) = _
  rw [if_neg (by omega)]
theorem gp_bd (x : ByteArray) : 0 ≤ gp x ∧ gp x ≤ 1114111 := by
  unfold gp
  by_cases h : 0 < x.size
  · rw [go_at x h, decode_dec]
    have := dec_le x.size 0 (bt x 0) (bt x (0 + 1)) (bt x (0 + 2)) (bt x (0 + 3)) (bt_lt x 0)
    omega
  · have e : Lib.decodeGo x = (65533, 0) := by
      show (if x.size = 0 then (65533, 0) else Utf8.decode x 0) = _
      rw [if_pos (by omega)]
    rw [e]
    omega
def wg (x : ByteArray) : Int := wd (gp x)
theorem wg_eq (x : ByteArray) (h : 0 < x.size) : wg x = wc x := by
  unfold wg wc gp
  rw [go_at x h]
  rfl
theorem wg_bd (x : ByteArray) : 0 ≤ wg x ∧ wg x ≤ 2 := wd_bd _
def wgs : List ByteArray → Int
  | [] => 0
  | x :: l => wg x + wgs l
theorem wgs_bd (l : List ByteArray) : 0 ≤ wgs l ∧ wgs l ≤ 2 * (l.length : Int) := by
  induction l with
  | nil => exact ⟨Int.le_refl _, Int.le_refl _⟩
  | cons x l ih =>
    have := wg_bd x
    simp only [wgs, List.length_cons]
    omega
theorem wgs_snoc (l : List ByteArray) (x : ByteArray) : wgs (l ++ [x]) = wgs l + wg x := by
  induction l with
  | nil => simp [wgs]
  | cons y l ih => simp only [List.cons_append, wgs, ih]; omega
theorem wgs_eq (l : List ByteArray) (h : ∀ k, k < l.length → 0 < (nthS l k).size) : wgs l = ws l := by
  induction l with
  | nil => rfl
  | cons x l ih =>
    have h0 := h 0 (by simp)
    have hx : wg x = wc x := wg_eq x (by simpa [nthS] using h0)
    rw [wgs, ws, hx, ih (fun k hk => by have := h (k + 1) (by simp; omega); simpa [nthS] using this)]
theorem decD (x : ByteArray) (w : World) (hT : TabD w) : Calls Tryz.prog 47 #[.string x] w fun e w' => (∃ q : Int, e = .returned (.tuple #[.int .i32 (gp x), .int .i64 q])) ∧ Below w.heap.size w w' := by
  refine (Any.utf8_DecodeRuneInString Tryz.laysDec x w hT).mono (fun e' w' h' => ⟨⟨_, h'.1⟩, h'.2⟩)
theorem TabD.below {w w' : World} (h : TabD w) (hb : Below w.heap.size w w') : TabD w' := Utf8Tabs_below h hb
set_option maxRecDepth 100000 in
set_option maxHeartbeats 4000000 in
theorem wide_any (x : ByteArray) (w : World) (ht : TabAt w) (hT : TabD w) : Calls Tryz.prog 27 #[.string x] w fun e w' => e = .returned (.int .i64 (wg x)) ∧ Below w.heap.size w w' := by
  have CD := hide (decD x w hT)
  have HT := hide ht
  obtain ⟨p0, p1⟩ := gp_bd x
  have HW : Hid (wg x = wd (gp x)) := hide rfl
  generalize gp x = p at *
  clear hT ht
  have CS := hide (fun W => isSyllable_any p W)
  have CI := hide (fun W hW => ideB p W hW)
  have CP := hide (fun W => isPicture_any p W)
  have CC := hide (fun W hW => cat_any p W hW)
  have HD : Hid (wd p = if sil p = true ∨ ide p = true ∨ pic p = true then 2 else if cat p = 1 ∨ cat p = 11 ∨ cat p = 3 then 0 else 1) := hide rfl
  generalize sil p = b1 at *
  generalize ide p = b2 at *
  generalize pic p = b3 at *
  generalize cat p = c at *
  cases b1
  case true =>
    go_enter Tryz.func27, Tryz.ntmps27
    go_wp2_with (first
      | (go_at_call 47; refine (unhide CD).mono ?_; rintro e w1 ⟨⟨q, rfl⟩, hb1⟩; have B1 := hide hb1; have T1 := hide ((unhide HT).below hb1); clear hb1)
      | (go_at_call 48; refine ((unhide CS) _).mono ?_; rintro e w' ⟨rfl, hw⟩; obtain rfl := hw.symm; clear hw))
    go_ret
    exact ⟨by rw [unhide HW, unhide HD]; rfl, unhide B1⟩
  case false =>
  cases b2
  case true =>
    go_enter Tryz.func27, Tryz.ntmps27
    go_wp2_with (first
      | (go_at_call 47; refine (unhide CD).mono ?_; rintro e w1 ⟨⟨q, rfl⟩, hb1⟩; have B1 := hide hb1; have T1 := hide ((unhide HT).below hb1); clear hb1)
      | (go_at_call 48; refine ((unhide CS) _).mono ?_; rintro e w' ⟨rfl, hw⟩; obtain rfl := hw.symm; clear hw)
      | (go_at_call 49; refine ((unhide CI) _ (unhide T1)).mono ?_; rintro e w2 ⟨rfl, hb2⟩; have B2 := hide ((unhide B1).trans (hb2.mono (unhide B1).size)); have T2 := hide ((unhide T1).below hb2); clear hb2))
    go_ret
    exact ⟨by rw [unhide HW, unhide HD]; rfl, unhide B2⟩
  case false =>
  cases b3
  case true =>
    go_enter Tryz.func27, Tryz.ntmps27
    go_wp2_with (first
      | (go_at_call 47; refine (unhide CD).mono ?_; rintro e w1 ⟨⟨q, rfl⟩, hb1⟩; have B1 := hide hb1; have T1 := hide ((unhide HT).below hb1); clear hb1)
      | (go_at_call 48; refine ((unhide CS) _).mono ?_; rintro e w' ⟨rfl, hw⟩; obtain rfl := hw.symm; clear hw)
      | (go_at_call 50; refine ((unhide CP) _).mono ?_; rintro e w' ⟨rfl, hw⟩; obtain rfl := hw.symm; clear hw)
      | (go_at_call 49; refine ((unhide CI) _ (unhide T1)).mono ?_; rintro e w2 ⟨rfl, hb2⟩; have B2 := hide ((unhide B1).trans (hb2.mono (unhide B1).size)); have T2 := hide ((unhide T1).below hb2); clear hb2))
    go_ret
    exact ⟨by rw [unhide HW, unhide HD]; rfl, unhide B2⟩
  case false =>
  have HD2 : Hid (wd p = if c = 1 ∨ c = 11 ∨ c = 3 then 0 else 1) := hide (by rw [unhide HD, if_neg (by simp)])
  clear HD
  cases h1 : (c == 1) <;> cases h11 : (c == 11) <;> cases h3 : (c == 3)
  all_goals
    have HV : Hid (wd p = if (c == 1) = true ∨ (c == 11) = true ∨ (c == 3) = true then 0 else 1) := hide (by rw [unhide HD2]; simp only [beq_iff_eq])
    rw [h1, h11, h3] at HV
    go_enter Tryz.func27, Tryz.ntmps27
    go_wp2_with (first
      | (go_at_call 47; refine (unhide CD).mono ?_; rintro e w1 ⟨⟨q, rfl⟩, hb1⟩; have B1 := hide hb1; have T1 := hide ((unhide HT).below hb1); clear hb1)
      | (go_at_call 48; refine ((unhide CS) _).mono ?_; rintro e w' ⟨rfl, hw⟩; obtain rfl := hw.symm; clear hw)
      | (go_at_call 50; refine ((unhide CP) _).mono ?_; rintro e w' ⟨rfl, hw⟩; obtain rfl := hw.symm; clear hw)
      | (go_at_call 49; refine ((unhide CI) _ (unhide T1)).mono ?_; rintro e w2 ⟨rfl, hb2⟩; have B2 := hide ((unhide B1).trans (hb2.mono (unhide B1).size)); have T2 := hide ((unhide T1).below hb2); clear hb2)
      | (go_at_call 51; refine ((unhide CC) _ (unhide T2)).mono ?_; rintro e w3 ⟨rfl, o3, hw3⟩; have B3 := hide (show Below w.heap.size w w3 by rw [hw3]; exact (unhide B2).alloc (unhide B2).size _); clear hw3))
    go_ret
    exact ⟨by rw [unhide HW, unhide HV]; rfl, unhide B3⟩
end Wid
end Go.Proofs.YtbaedapnikhdgaaGreatDoor
/- A drawn region by one invariant over what has been done already: one step an operation, whatever the order. -/
namespace Go.Proofs.YtbaedapnikhdgaaGreatDoor.Wid
section
variable {F : Fence} {n : Nat} {P : Program} {ops : Array Oper} {Q : Exit → Act → World → Prop}
theorem cnt_set : ∀ (l : List Bool) (i : Nat), l[i]? = some false → (l.set i true).count false + 1 = l.count false
  | [], i, h => by simp at h
  | b :: l, 0, h => by
    simp at h
    subst h
    simp
  | b :: l, i + 1, h => by
    have ih := cnt_set l i (by simpa using h)
    rw [List.set_cons_succ, List.count_cons, List.count_cons]
    omega
/-- Each operation waits for earlier ones alone. -/
def backs (ops : Array Oper) : Bool := (List.range ops.size).all fun i => ((ops[i]?).map (·.after.all fun e => !Region.binds .any e || decide (e.on < i))).getD true
theorem ready_nil {l : Array Bool} (hb : backs ops = true) (hl : l.size = ops.size) (hr : Region.ready .any ops l = []) (i : Nat) : i < ops.size → l[i]? = some true := by
  induction i using Nat.strongRecOn with
  | _ i ih =>
    intro hi
    have hil : i < l.size := by omega
    cases e : l[i] with
    | true => rw [Array.getElem?_eq_getElem hil, e]
    | false =>
      have hm : i ∈ Region.ready .any ops l := by
        refine mem_ready.2 ⟨by simp [hil, e], ops[i], Array.getElem?_eq_getElem hi, fun d hd hbd => ?_⟩
        have h1 := List.all_eq_true.1 hb i (List.mem_range.2 hi)
        rw [Array.getElem?_eq_getElem hi] at h1
        simp only [Option.map_some, Option.getD_some] at h1
        rw [Array.all_eq_true_iff_forall_mem] at h1
        have h2 := h1 d hd
        rw [hbd] at h2
        have h3 : d.on < i := by simpa using h2
        have h4 := ih d.on h3 (by omega)
        rw [Array.getD_eq_getD_getElem?, h4]
        rfl
      rw [hr] at hm
      cases hm
theorem wpAnyIn_inv (Inv : Array Bool → Act → World → Prop) (hb : backs ops = true) (hz : ∀ l a w, Inv l a w → l.size = ops.size)
    (hs : ∀ i l a w, Inv l a w → i ∈ Region.ready .any ops l → wpOpIn F n P ops Q i (fun a' w' => Inv (l.setIfInBounds i true) a' w') a w)
    (he : ∀ a w, Inv (Array.replicate ops.size true) a w → Q .normal a w) :
    ∀ (fuel : Nat) (l : Array Bool) (a : Act) (w : World), l.toList.count false ≤ fuel → Inv l a w → wpAnyIn F n P .any ops Q fuel l a w := by
  have hend : ∀ l a w, Inv l a w → Region.ready .any ops l = [] → Q .normal a w := fun l a w h hr => by
    have h1 := ready_nil hb (hz l a w h) hr
    have e : l = Array.replicate ops.size true := by
      apply Array.ext
      · rw [hz l a w h]; simp
      · intro i h2 h3
        have := h1 i (by rw [← hz l a w h]; exact h2)
        rw [Array.getElem?_eq_getElem h2] at this
        rw [Option.some.inj this]
        simp
    rw [e] at h
    exact he a w h
  intro fuel
  induction fuel with
  | zero =>
    intro l a w hc h
    have hr : Region.ready .any ops l = [] := by
      cases e : Region.ready .any ops l with
      | nil => rfl
      | cons i t =>
        have hi := (mem_ready.1 (show i ∈ Region.ready .any ops l by rw [e]; simp)).1
        rcases Nat.lt_or_ge i l.size with h' | h'
        · have h0 : false ∈ l.toList := by
            rw [← Array.mem_def]
            simp [h'] at hi
            rw [← hi]
            exact Array.getElem_mem h'
          have := List.count_pos_iff.2 h0
          omega
        · rw [Array.getD_eq_getD_getElem?, Array.getElem?_eq_none h'] at hi
          cases hi
    exact ⟨hr, hend l a w h hr⟩
  | succ fuel ih =>
    intro l a w hc h
    refine ⟨fun hr => hend l a w h hr, fun i hi => wpOpIn_mono (fun a' w' h' => ih _ a' w' ?_ h') (hs i l a w h hi)⟩
    have h1 := (mem_ready.1 hi).1
    rcases Nat.lt_or_ge i l.size with h' | h'
    · have h2 : l.toList[i]? = some false := by
        simp [h'] at h1
        rw [Array.getElem?_toList, Array.getElem?_eq_getElem h', h1]
      have := cnt_set l.toList i h2
      rw [Array.toList_setIfInBounds]
      omega
    · rw [Array.getD_eq_getD_getElem?, Array.getElem?_eq_none h'] at h1
      cases h1
theorem region_inv {id : Nat} {a : Act} {w : World} (hm : P.follows .mixedOrders = true) (Inv : Array Bool → Act → World → Prop) (hb : backs ops = true) (hz : ∀ l a w, Inv l a w → l.size = ops.size)
    (h0 : Inv (Array.replicate ops.size false) a w.drew)
    (hs : ∀ i l a w, Inv l a w → i ∈ Region.ready .any ops l → wpOpIn F n P ops Q i (fun a' w' => Inv (l.setIfInBounds i true) a' w') a w)
    (he : ∀ a w, Inv (Array.replicate ops.size true) a w → Q .normal a w) : (Code.region id ops true).wpIn F n P Q a w :=
  wpIn_region_any hm (wpAnyIn_inv Inv hb hz hs he ops.size _ a _ (by simp) h0)
end
end Go.Proofs.YtbaedapnikhdgaaGreatDoor.Wid
/- How wide a text is, as the program tells it; the law. -/
namespace Go.Proofs.YtbaedapnikhdgaaGreatDoor
namespace Wid
open Go.RowKit Go.Shelf Chr
set_option linter.unusedVariables false
set_option linter.unusedSimpArgs false
attribute [local go_sem] Oper.semAt_some
theorem mixedW : Tryz.prog.follows Departure.mixedOrders = true := by kernel_rfl
theorem grown_of {V V' : World} (h : Below V.heap.size V V') : V.grownBy V' none := ⟨h.os, h.tape, h.output, h.size, fun k hk _ => h.block k hk⟩
/-- While characters come: the box of the sum, the record. -/
structure Wx (w V : World) (rc : Obj) (c : Int) : Prop where
  bq : Boxed V w.heap.size 2 (.int .i64 c)
  bd : V.heap[w.heap.size + 2]? = some (.deferred (some []))
  bl : V.heap[w.heap.size + 3]? = some rc
  bel : Below w.heap.size w V
theorem Wx.lt {w V : World} {rc : Obj} {c : Int} (h : Wx w V rc c) : w.heap.size + 3 < V.heap.size := (Array.getElem?_eq_some_iff.1 h.bl).1
theorem Wx.grown {w V V' : World} {rc : Obj} {c : Int} {row : Option Nat} (h : Wx w V rc c) (hg : V.grownBy V' row) (hr : ∀ r, row = some r → w.heap.size + 4 ≤ r) : Wx w V' rc c := by
  have hlt := h.lt
  have hne : ∀ k, k < w.heap.size + 4 → some k ≠ row := fun k h1 e => by have := hr k e.symm; omega
  exact ⟨h.bq.kept hg (hne _ (by omega)), (hg.block _ (by omega) (hne _ (by omega))).trans h.bd, (hg.block _ (by omega) (hne _ (by omega))).trans h.bl, h.bel.grown hg (by omega) (fun k e => by have := hr k e; omega)⟩
theorem Wx.below {w V V' : World} {rc : Obj} {c : Int} (h : Wx w V rc c) (hb : Below V.heap.size V V') : Wx w V' rc c :=
  h.grown (row := none) ⟨hb.os, hb.tape, hb.output, hb.size, fun k hk _ => hb.block k hk⟩ (fun r e => by cases e)
theorem Wx.rcd {w V : World} {rc : Obj} {c : Int} (h : Wx w V rc c) (rc' : Obj) : Wx w (V.putObj (w.heap.size + 3) rc') rc' c := by
  have hg := grownBy_putObj' V (w.heap.size + 3) rc'
  have hlt := h.lt
  have hne : ∀ k, k ≠ w.heap.size + 3 → some k ≠ some (w.heap.size + 3) := fun k h1 e => by injection e with e; omega
  exact ⟨h.bq.kept hg (hne _ (by omega)), (hg.block _ (by omega) (hne _ (by omega))).trans h.bd, World.putObj_heap_same (by omega), h.bel.grown hg (by omega) (fun k e => by injection e with e; omega)⟩
theorem Wx.set {w V : World} {rc : Obj} {c : Int} (h : Wx w V rc c) (c' : Int) : Wx w (V.setCell ⟨w.heap.size, 0, none⟩ (.int .i64 c')) rc c' := by
  have hg := grownBy_setCell' V w.heap.size (.int .i64 c')
  have hlt := h.lt
  have hne : ∀ k, k ≠ w.heap.size → some k ≠ some w.heap.size := fun k h1 e => by injection e with e; omega
  exact ⟨h.bq.set _, (hg.block _ (by omega) (hne _ (by omega))).trans h.bd, (hg.block _ (by omega) (hne _ (by omega))).trans h.bl, h.bel.setCell (p := ⟨w.heap.size, 0, none⟩) (Nat.le_refl _) _⟩
/-- What a round writes: the box of the sum, its record. -/
def Oth (g : Nat) (Va V : World) : Prop := Va.heap.size ≤ V.heap.size ∧ ∀ j, j < Va.heap.size → j ≠ g → j ≠ g + 3 → V.heap[j]? = Va.heap[j]?
theorem Oth.refl (g : Nat) (V : World) : Oth g V V := ⟨Nat.le_refl _, fun _ _ _ _ => rfl⟩
theorem Oth.grown {g : Nat} {Va V V' : World} {row : Option Nat} (h : Oth g Va V) (hg : V.grownBy V' row) (hr : ∀ r, row = some r → r = g ∨ r = g + 3) : Oth g Va V' :=
  ⟨Nat.le_trans h.1 hg.size, fun j a b c => (hg.block j (Nat.lt_of_lt_of_le a h.1) (fun e' => by rcases hr j e'.symm with h | h <;> omega)).trans (h.2 j a b c)⟩
theorem Oth.below {g : Nat} {Va V V' : World} (h : Oth g Va V) (hb : Below V.heap.size V V') : Oth g Va V' :=
  h.grown (row := none) ⟨hb.os, hb.tape, hb.output, hb.size, fun k hk _ => hb.block k hk⟩ (fun r e => by cases e)
theorem wide_walk (s : ByteArray) (hs : s.size ≤ 65536) (w w2 : World) (ht : TabAt w) (hz : w2.heap.size = w.heap.size + 2) (bQ : Boxed w2 w.heap.size 2 (.int .i64 0)) (bT : Boxed w2 (w.heap.size + 1) 9 (.string s)) (hB2 : Below w.heap.size w w2)
    {fn : FuncId} {tm : Array Value} {ps : Array Tmp} {asg bd : Code} {d : Nat}
    (hBody : ∀ pre x Va, Wx w Va (.loop (lrec .ready none fn tm ps asg bd d)) (wgs pre) → pre.length < 65537 → w.heap.size + 6 < Va.heap.size → YieldAt Fence.wide 4 Tryz.prog (w.heap.size + 3) #[.string x] Va fun e Vb =>
      e = .returned (.bool true) ∧ Wx w Vb (.loop (lrec .ready none fn tm ps asg bd d)) (wgs (pre ++ [x])) ∧ Ka (w.heap.size + 4) (w.heap.size + 1) Va Vb) :
    CallsIn Fence.wide 5 Tryz.prog 43 #[.func (.yield (w.heap.size + 3)) #[] #[], .pointer (some ⟨w.heap.size + 1, 0, none⟩)] ((w2.alloc (.deferred (some []))).alloc (.loop (lrec .ready none fn tm ps asg bd d))) fun e V => (∃ v, e = .returned v) ∧
      Wx w V (.loop (lrec .ready none fn tm ps asg bd d)) (wgs (chA s)) := by
  generalize hrc : Obj.loop (lrec .ready none fn tm ps asg bd d) = rc at *
  obtain ⟨W, hW⟩ : ∃ W, W = (w2.alloc (.deferred (some []))).alloc rc := ⟨_, rfl⟩
  have hz3 : (w2.alloc (.deferred (some []))).heap.size = w.heap.size + 3 := by simp [hz]
  have hWz : W.heap.size = w.heap.size + 4 := by rw [hW]; simp [hz]
  have hB3 : Below w2.heap.size w2 W := by rw [hW]; exact ((Below.refl _ _).alloc (Nat.le_refl _) _).alloc (by simp) _
  have W0 : Wx w W rc 0 := by
    refine ⟨(hB3.block _ (by omega)).trans bQ, ?_, ?_, hB2.trans (hB3.mono (by omega))⟩
    · rw [hW, Below.heap_alloc _ _ _ (by omega), ← hz]
      exact heap_alloc_last _ _
    · rw [hW, ← hz3]
      exact heap_alloc_last _ _
  have bT3 : W.cell? ⟨w.heap.size + 1, 0, none⟩ = some (.string s) := (hB3.cell (p := ⟨w.heap.size + 1, 0, none⟩) (by show w.heap.size + 1 < _; omega)).trans bT.cell
  have ht3 : TabAt W := ht.below W0.bel
  have htl : 2 < W.heap.size := by have := ht.1; have := W0.bel.size; omega
  rw [← hW]
  clear hW hB3 hB2 bQ bT
  refine (along_in 5 (w.heap.size + 3) (w.heap.size + 1) s hs W ht3 htl bT3 (by omega) (fun pre V => Wx w V rc (wgs pre)) (fun _ _ => False) ?_ ?_ W0).mono ?_
  · intro pre Va Vb row h hg hr
    exact h.grown hg (fun r e => by rcases hr r e with h | h <;> omega)
  · intro pre x Va h hp hsz
    rw [hWz] at hsz ⊢
    exact YieldAt.mono (hBody pre x Va h hp (by omega)) (fun e Vb h => .inl h)
  · rintro e V ⟨he, h | ⟨_, _, h⟩⟩
    · exact ⟨he, h⟩
    · exact h.elim
set_option maxRecDepth 100000 in
set_option maxHeartbeats 4000000 in
theorem wide_in (s : ByteArray) (hs : s.size ≤ 65536) (w : World) (ht : TabAt w) (hT : TabD w) :
    CallsIn Fence.wide 6 Tryz.prog 8 #[.string s] w fun e w' => e = .returned (.int .i64 (wgs (chA s))) ∧ Below w.heap.size w w' := by
  have h1 : 1 ≤ 6 := by omega
  have hle : ¬ (65536 : Int) < (s.size : Int) := by omega
  have CA := hide (fun W => (callsIn_wide (n := 5)).2 (along_any s W))
  have CL := hide (fun W => (callsIn_wide (n := 5)).2 (short_any s W hle))
  have HT := hide ht
  have HTD := hide hT
  clear ht hT
  have hmx := mixedW
  refine callsIn_of_wp_marks Tryz.func8 rfl trivial ?_ rfl
  simp only [Tryz.ntmps8, List.size_toArray, List.length_cons, List.length_nil, Nat.reduceAdd, Nat.reduceSub, Array.replicate_succ, Array.replicate_zero, List.push_toArray, List.append_toArray, List.nil_append, List.cons_append]
  gi_wp2_with (first
    | ((first | refine ⟨trivial, (fun h => (by cases h)), ?_⟩ | refine ⟨trivial, ?_⟩); gi_at_call 25; refine ((unhide CL) _).mono ?_; clear CL; rintro e W1 ⟨rfl, hw1⟩; obtain rfl := hw1.symm; clear hw1)
    | ((first | refine ⟨trivial, (fun h => (by cases h)), ?_⟩ | refine ⟨trivial, ?_⟩); gi_at_call 26; refine ((unhide CA) _).mono ?_; clear CA; rintro e W1 ⟨rfl, rfl⟩))
  obtain ⟨w2, hw2⟩ : ∃ w2, w2 = (w.alloc (.cells #[.int .i64 0] 2)).alloc (.cells #[.string s] 9) := ⟨_, rfl⟩
  have e1 : (w.alloc (.cells #[.int .i64 0] 2)).heap.size = w.heap.size + 1 := by simp
  have hz : w2.heap.size = w.heap.size + 2 := by rw [hw2]; simp
  have bQ : Boxed w2 w.heap.size 2 (.int .i64 0) := by rw [hw2]; exact (Boxed.new w 2 _).alloc _
  have bT : Boxed w2 (w.heap.size + 1) 9 (.string s) := by rw [hw2, ← e1]; exact Boxed.new _ 9 _
  have hB2 : Below w.heap.size w w2 := by rw [hw2]; exact ((Below.refl _ _).alloc (Nat.le_refl _) _).alloc (by simp) _
  rw [← hw2]
  clear hw2 e1
  refine range_walkR rfl h1 (gf := 43) (lb := #[.pointer (some ⟨w.heap.size + 1, 0, none⟩)]) rfl trivial (enters_of Tryz.func43 (by kernel_rfl) rfl) ?_
  intro fn hfn
  rw [hz]
  have hgr : 2 < w.heap.size := (unhide HT).1
  refine (wide_walk s hs w w2 (unhide HT) hz bQ bT hB2 (d := w.heap.size + 2) ?body).mono ?done
  case body =>
    intro pre x Va h hp hsz
    have hbd := wgs_bd pre
    have hbx := wg_bd x
    have hsn := wgs_snoc pre x
    have hT1 := (unhide HT).below h.bel
    have hD1 := (unhide HTD).below h.bel
    refine yield_roundR trivial h.bl rfl { tmps := #[.string s, undef, .int .i64 0, .pointer (some ⟨w.heap.size, 0, none⟩), .string x, .string s, .bool false, .string s, .func (.func 43) #[] #[.pointer (some ⟨w.heap.size + 1, 0, none⟩)], .string x, undef, undef, undef, undef, undef], defers := [] } (fun K hK => ?ha) ?hb
    case ha =>
      gi_wp2
      exact hK
    case hb =>
      intro rc2 hrc2
      have HR := hide hrc2
      have hh : Wx w Va (.loop (rc2 .ready none)) (wgs pre) := by rw [hrc2]; exact h
      clear hrc2 h
      have h2 := hh.rcd (.loop (rc2 .busy none))
      have o2 : Oth w.heap.size Va (Va.putObj (w.heap.size + 3) (.loop (rc2 .busy none))) := (Oth.refl _ Va).grown (grownBy_putObj' Va (w.heap.size + 3) _) (fun r e => by injection e with e; omega)
      have hbv : Below 0 Va (Va.putObj (w.heap.size + 3) (.loop (rc2 .busy none))) := (Below.refl _ _).grown (grownBy_putObj' Va (w.heap.size + 3) _) (by omega) (fun k e => by omega)
      have hT2 := (unhide HT).below h2.bel
      have hD2 := (unhide HTD).below h2.bel
      generalize Va.putObj (w.heap.size + 3) (.loop (rc2 .busy none)) = V1 at *
      have CW := hide (fun n W (ht : TabAt W) (hd : TabD W) => CallsIn.inRound (w.heap.size + 3) ((callsIn_wide (n := n)).2 (wide_any x W ht hd)))
      have H2 := hide h2
      have O2 := hide o2
      have HT2 := hide hT2
      have HD2 := hide hD2
      have HSZ := hide hsz
      have hsum : Hid (wgs (pre ++ [x]) = wgs pre + wg x) := hide hsn
      clear hh h2 o2 hbv hT1 hD1 hT2 hD2 hsn
      generalize wgs pre = c at *
      generalize wg x = d at *
      have wr1 : IntKind.i64.wrap (c + d) = c + d := by simp [IntKind.wrap, IntKind.bits, IntKind.signed]; omega
      clear hbd hbx hp
      gi_wp2_with fail
      refine region_inv hmx (fun lf ac w' => ∃ (b0 b1 b2 b3 b4 : Bool), lf = #[b0, b1, b2, b3, b4] ∧ ac = { tmps := #[.string s, undef, .int .i64 0, .pointer (some ⟨w.heap.size, 0, none⟩), .string x, .string s, .bool false, .string s, .func (.func 43) #[] #[.pointer (some ⟨w.heap.size + 1, 0, none⟩)], .string x, (bif b0 then .int .i64 c else undef), (bif b1 then .string x else undef), (bif b2 then .int .i64 d else undef), (bif b3 then .int .i64 (c + d) else undef), undef], defers := [] } ∧ Hid (Wx w w' (.loop (rc2 .busy none)) (bif b4 then c + d else c)) ∧ Hid (Oth w.heap.size Va w') ∧ Hid (TabAt w' ∧ TabD w') ∧ (b4 = true → b0 = true)) (by kernel_rfl) ?size ?first ?step ?last
      case size =>
        rintro lf ac w' ⟨b0, b1, b2, b3, b4, rfl, _⟩
        rfl
      case first => exact ⟨false, false, false, false, false, rfl, rfl, hide ((unhide H2).grown (row := none) (grown_of (bdrew (Below.refl V1.heap.size V1) 1)) (fun r e => by cases e)), hide ((unhide O2).grown (row := none) (grown_of (bdrew (Below.refl V1.heap.size V1) 1)) (fun r e => by cases e)), hide ⟨(unhide HT2).below (bdrew (Below.refl V1.heap.size V1) 1), (unhide HD2).below (bdrew (Below.refl V1.heap.size V1) 1)⟩, (fun h => by cases h)⟩
      case step =>
        rintro ii lf ac w' ⟨b0, b1, b2, b3, b4, rfl, rfl, hX, hO, hTT, h4⟩ hr
        have hr := mem_ready.1 hr
        rcases ii with _ | _ | _ | _ | _ | ii
        · simp [Region.binds] at hr
          repeat (rcases hr with ⟨hq, hr⟩)
          subst_vars
          obtain rfl : b4 = false := by cases b4 <;> simp_all
          have kq := (unhide hX).bq.cell
          simp only [cond_false] at kq
          refine wpOpIn_step rfl (fun K hK => ?_)
          go_simp
          refine hK _ _ ⟨true, _, _, _, _, rfl, rfl, hX, hO, hTT, (fun _ => rfl)⟩
        · simp [Region.binds] at hr
          repeat (rcases hr with ⟨hq, hr⟩)
          subst_vars
          refine wpOpIn_step rfl (fun K hK => ?_)
          go_simp
          refine hK _ _ ⟨_, true, _, _, _, rfl, rfl, hX, hO, hTT, h4⟩
        · simp [Region.binds] at hr
          repeat (rcases hr with ⟨hq, hr⟩)
          subst_vars
          refine wpOpIn_step rfl (fun K hK => ?_)
          go_simp
          refine ⟨trivial, ?_⟩
          gi_at_call 27
          refine ((unhide CW) _ _ (unhide hTT).1 (unhide hTT).2).mono ?_
          rintro e W5 ⟨rfl, hb5⟩
          have X5 := hide ((unhide hX).below hb5)
          have O5 := hide ((unhide hO).below hb5)
          have T5 := hide (show TabAt W5 ∧ TabD W5 from ⟨(unhide hTT).1.below hb5, (unhide hTT).2.below hb5⟩)
          clear hb5
          refine hK _ _ ⟨_, _, true, _, _, rfl, rfl, X5, O5, T5, h4⟩
        · simp [Region.binds] at hr
          repeat (rcases hr with ⟨hq, hr⟩)
          subst_vars
          refine wpOpIn_step rfl (fun K hK => ?_)
          go_simp
          refine hK _ _ ⟨_, _, _, true, _, rfl, rfl, hX, hO, hTT, h4⟩
        · simp [Region.binds] at hr
          repeat (rcases hr with ⟨hq, hr⟩)
          subst_vars
          have kq := (unhide hX).bq.cell
          have kf := (unhide hX).bq.frozen
          have X2 := hide ((unhide hX).set (c + d))
          have O2 := hide ((unhide hO).grown (grownBy_setCell' w' w.heap.size (.int .i64 (c + d))) (fun r e => by injection e with e; omega))
          have T2 := hide (show TabAt (w'.setCell ⟨w.heap.size, 0, none⟩ (.int .i64 (c + d))) ∧ TabD (w'.setCell ⟨w.heap.size, 0, none⟩ (.int .i64 (c + d))) from ⟨(unhide HT).below (unhide X2).bel, (unhide HTD).below (unhide X2).bel⟩)
          refine wpOpIn_step rfl (fun K hK => ?_)
          go_simp
          refine hK _ _ ⟨_, _, _, _, true, rfl, rfl, X2, O2, T2, (fun _ => rfl)⟩
        · simp at hr
      case last =>
        rintro ac W4 ⟨f0, f1, f2, f3, f4, hlf, rfl, hX, hO, hTT, h4⟩
        have hlf := congrArg Array.toList hlf
        simp at hlf
        repeat (rcases hlf with ⟨hq, hlf⟩)
        subst_vars
        simp only [cond_true] at hX
        gi_wp2
        have X6 := (unhide hX).rcd (.loop (rc2 .ready none))
        rw [← unhide hsum] at X6
        have o5 := (unhide hO).grown (grownBy_putObj' W4 (w.heap.size + 3) (.loop (rc2 .ready none))) (fun r e => by injection e with e; omega)
        have hsz := unhide HSZ
        exact ⟨(unhide hX).bl, rfl, (by have e := (unhide HR) .ready none; rw [e] at X6; rw [← e]; rw [e]; exact X6), ⟨o5.1, o5.2 _ (by omega) (by omega) (by omega), o5.2 _ (by omega) (by omega) (by omega), o5.2 _ (by omega) (by omega) (by omega), o5.2 _ (by omega) (by omega) (by omega), o5.2 _ (by omega) (by omega) (by omega)⟩⟩
  case done =>
    rintro e V ⟨he, h⟩
    refine ⟨he, .inl ⟨h.bl, fun o => ?_⟩⟩
    have h2 := h.rcd o
    generalize V.putObj (w.heap.size + 2 + 1) o = V1 at *
    have c0 := h2.bq.cell
    have H2 := hide h2
    have CB := hide h2.bd
    clear h h2
    gi_wp2
    have g3 := grownBy_putObj' V1 (w.heap.size + 2) (.deferred none)
    have p5 := (unhide H2).bel.grown g3 (by have := (unhide H2).bel.size; omega) (fun k e => by injection e with e; omega)
    refine ⟨by simp, .inl ⟨_, _, rfl, run_takeDeferred (unhide CB), ?_⟩⟩
    refine ⟨.int .i64 (wgs (chA s)), ?_, rfl, p5⟩
    simp [results, Tryz.f8, go_sem]
theorem implWide (s : ByteArray) (w : World) (ht : TabAt w) (hT : TabD w) :
    Calls Tryz.prog 8 #[.string s] w fun e w' => e = .returned (.int .i64 (if 65536 < s.size then 0 else ws (charsOut s))) ∧ Below w.heap.size w w' := by
  by_cases h1 : 65536 < s.size
  · have hgt : (65536 : Int) < (s.size : Int) := by omega
    rw [if_pos h1]
    have CL := hide (fun W => long_any s W hgt)
    go_enter Tryz.func8, Tryz.ntmps8
    go_wp2_with (go_at_call 25; refine ((unhide CL) _).mono ?_; clear CL; rintro e W1 ⟨rfl, hw1⟩; obtain rfl := hw1.symm; clear hw1)
    go_ret
    exact ⟨rfl, Below.refl _ _⟩
  · rw [if_neg h1]
    have h := callsIn_wide.1 (wide_in s (by omega) w ht hT)
    rw [wgs_eq (chA s) (fun k hk => by rw [chA_chars s (by omega)] at hk ⊢; exact (chars_pos s (by omega) k hk).1), chA_chars s (by omega)] at h
    exact h
end Wid
end Go.Proofs.YtbaedapnikhdgaaGreatDoor
