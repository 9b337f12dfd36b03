/- The sound of a text, as the specification tells it. -/
import Derived.Test.YtamigjljgepfiaaGreatDoorSndI
import Derived.Test.YtamigjljgepfiaaGreatDoorME
import Derived.Test.YtamigjljgepfiaaGreatDoorFolS
import Derived.Test.YtamigjljgepfiaaGreatDoorChsL
namespace Go.Proofs.YtamigjljgepfiaaGreatDoor
namespace Snd
open Go.RowKit Cas
set_option linter.unusedVariables false
set_option linter.unusedSimpArgs false
theorem low_bd (p : Int) : lowS p = p ∨ (0 ≤ lowS p ∧ lowS p < 20000) := by
  unfold lowS
  by_cases c0 : 9728 ≤ p ∧ p ≤ 9753
  · rw [if_pos c0]; right; omega
  rw [if_neg c0]
  unfold three
  by_cases c1 : 65 ≤ p ∧ p ≤ 90
  · rw [if_pos c1]; right; dsimp only; omega
  rw [if_neg c1]
  by_cases c2 : 97 ≤ p ∧ p ≤ 122
  · rw [if_pos c2]; left; dsimp only
  rw [if_neg c2]
  by_cases c3 : 8192 ≤ p ∧ p < 9728 ∧ p % 512 < 416
  · rw [if_pos c3]
    by_cases c4 : 208 ≤ p % 512
    · rw [if_pos c4]; left; dsimp only
    · rw [if_neg c4]; right; dsimp only; omega
  rw [if_neg c3]
  by_cases c5 : p < 512 ∨ 1280 ≤ p
  · rw [if_pos c5]; left; dsimp only
  rw [if_neg c5]
  by_cases c6 : p % 256 < 64
  · rw [if_pos c6]; right; dsimp only; omega
  rw [if_neg c6]
  by_cases c7 : p % 256 < 76
  · rw [if_pos c7]; right; dsimp only; omega
  · rw [if_neg c7]; left; dsimp only
theorem fo_pt (p : Int) (h : isPt p = true) : ∀ x ∈ fo1 p, isPt x = true := by
  have hp := pt_of h
  intro x hx
  rw [isPt_iff]
  unfold pt at hp
  have hl := low_bd p
  unfold fo1 at hx
  rcases tw_bl p with ⟨h1, h2, e1, e2⟩ | ⟨h1, e1, e2⟩
  · rw [e2] at hx
    split at hx
    · simp at hx; omega
    · split at hx
      · simp at hx; omega
      · simp at hx
        rw [hx]
        omega
  · rw [e2, if_neg (by omega), if_neg (by omega)] at hx
    simp at hx
    rw [hx]
    omega
/-- What the program gathers is what the specification cuts. -/
theorem chA_chars (s : ByteArray) (hs : s.size ≤ 65536) : Chr.chA s = Chr.charsOut s := by
  unfold Chr.charsOut Chr.cutsOut
  rw [if_neg (by omega)]
  unfold Chr.chA
  by_cases h0 : s.size = 0
  · rw [if_pos h0]
    have hp : pts s = [] := List.length_eq_zero_iff.1 (by have := pts_le s; omega)
    rw [hp]
    rfl
  · rw [if_neg h0]
    have hpos := Chr.pts_pos (s := s) (by omega)
    obtain ⟨k, hk⟩ : ∃ k, (pts s).length = k + 1 := ⟨(pts s).length - 1, by omega⟩
    have hB : (Chr.bsS (pts s)).length = k + 1 := by rw [Chr.bsS_len, hk]
    have hb0 : (Chr.bsS (pts s)).getD 0 false = true := by rw [Chr.bsS_at _ _ hpos]; rfl
    rw [Chr.sts_eq, hk, Chr.along_all s (Chr.plS s) (Chr.bsS (pts s)) hb0 rfl k]
    have e1 : Chr.ctP (Chr.plS s) (Chr.bsS (pts s)) (k + 1) = Chr.ctk s (Chr.bsS (pts s)) (k + 1) := Chr.ctP_ctk s (Chr.bsS (pts s)) (k + 1)
    unfold Chr.cutsL
    rw [if_neg (by omega), hB, e1]
    rfl
def slen : Value → Nat
  | .slice _ n _ => n
  | _ => 0
theorem fol_bd (s : ByteArray) (hs : s.size ≤ 65536) : ∀ p ∈ (pts s).flatMap Cas.fo1, 0 ≤ p ∧ p ≤ 1114111 := by
  intro p hp
  obtain ⟨q, hq, hx⟩ := List.mem_flatMap.1 hp
  have := (isPt_iff p).1 (fo_pt q (pts_pt s hs q hq) p hx)
  unfold pt at this
  omega
theorem l16_any (s : ByteArray) (w : World) (hs : s.size ≤ 65536) : Calls Tryz.prog 6 #[.string s] w fun e w' => ∃ v, e = .returned (.tuple #[v, .bool (decide ((Chr.chA s).length ≤ 200))]) ∧ Below w.heap.size w w' := by
  have hle : ¬ (65536 : Int) < (s.size : Int) := by omega
  have CC := hide (fun W => Chr.sChars s W hs)
  have CP := hide (fun v W h => Chr.pieces_s s v W h)
  have HE : Hid (Chr.cutsL s (Chr.bsS (pts s)) = Chr.cutsOut s) := hide (by unfold Chr.cutsOut; rw [if_neg (by omega)])
  have hl := Chr.charsOut_le s
  rw [chA_chars s hs]
  generalize Chr.charsOut s = Z at *
  go_enter Tryz.func6, Tryz.ntmps6
  go_wp2_with (first
    | (go_at_call 17; refine ((unhide CC) _).mono ?_; clear CC; rintro e w1 ⟨v1, rfl, hI, hB1⟩; rw [unhide HE] at hI; have I1 := hide hI; have B1 := hide hB1; clear hI hB1)
    | (go_at_call 16; refine ((unhide CP) _ _ (unhide I1)).mono ?_; clear CP; rintro e w2 ⟨v2, rfl, hI2, hB2⟩; have B2 := hide ((unhide B1).trans (hB2.mono (unhide B1).size)); obtain ⟨a2, c2, rfl, _⟩ := hI2; clear hB2))
  have e1 : decide ((Z.length : Int) ≤ 200) = decide (Z.length ≤ 200) := decide_eq_decide.2 (by omega)
  refine bodyPost_ret (v := .tuple #[.slice a2 Z.length c2, .bool (decide ((Z.length : Int) ≤ 200))]) (by simp [results, Tryz.f6, go_sem]) rfl ⟨_, by rw [e1], unhide B2⟩
set_option maxRecDepth 100000 in
set_option maxHeartbeats 4000000 in
theorem soundS_any (s : ByteArray) (hs : s.size ≤ 65536) (hc : (Chr.chA s).length ≤ 200) (w : World) :
    Calls Tryz.prog 4 #[.string s] w fun e w' => e = .returned (.string (strOfNums (sndO (sY s)))) ∧ Below w.heap.size w w' := by
  obtain ⟨i0, hi, hz0, hz1, hz2⟩ := info_parts info5u
  have hle : ¬ (65536 : Int) < (s.size : Int) := by omega
  have CW := hide (l16_any s w hs)
  have CP := hide (fun W => l01Points s W (by omega))
  have CF := hide (fun v W (hv : IntsAt W v (pts s)) => Cas.foldS v (pts s) W hv (by have := pts_le s; omega) (pts_pt s hs))
  have CN := hide (fun B0 n v W (ho : W.ownsRow B0 2 1 v n (((pts s).flatMap Cas.fo1).map (Value.int .i64))) (hn : n ≤ 131072) => normS 1 B0 n v ((pts s).flatMap Cas.fo1) W ho (fun p hp => fol_bd s hs p hp) rfl hn)
  rw [decide_eq_true hc] at CW
  clear hc
  have hfl := fol_len s hs
  have HY : Hid (nrmL 1 ((pts s).flatMap Cas.fo1) = sY s) := hide rfl
  go_enter Tryz.func4, Tryz.ntmps4
  go_wp2_with (first
    | (go_at_call 6; refine (unhide CW).mono ?_; clear CW; rintro e w1 ⟨v1, rfl, hB1⟩; have B1 := hide hB1; clear hB1)
    | (go_at_call 9; refine ((unhide CP) _).mono ?_; clear CP; rintro e w2 ⟨v2, rfl, hO2, hB2⟩; have B2 := hide ((unhide B1).trans (hB2.mono (unhide B1).size)); have O2 := hide (IntsAt.owned hO2); clear hO2 hB2)
    | (go_at_call 8; refine ((unhide CF) _ _ (unhide O2)).mono ?_; clear CF; rintro e w3 ⟨v3, rfl, hO3, hB3⟩; have B3 := hide ((unhide B2).trans (hB3.mono (unhide B2).size)); have O3 := hide hO3; clear hO3 hB3)
    | (go_at_call 7; refine ((unhide CN) _ _ _ _ (unhide O3) hfl).mono ?_; clear CN; rintro e w4 ⟨v4, rfl, hO4, hB4⟩; have B4 := hide ((unhide B3).trans (hB4.mono (unhide B3).size)); rw [unhide HY] at hO4; obtain ⟨a4, c4, rfl, hc4⟩ := IntsAt.owned hO4; have O4 := hide hc4; clear hO4 hB4 hc4))
  have O0 : Hid ((w4.alloc (.cells #[] 5)).ownsRow w4.heap.size 5 1 (.slice (some ⟨w4.heap.size, 0, none⟩) 0 0) (rk 0 (sY s) 0).1.length ((rk 0 (sY s) 0).1.map (Value.int .u8))) := hide (World.ownsRow_lit w4 #[] 0 (Nat.le_refl _) (by unfold maxLen; omega) rfl)
  have hYl := yl_len s hs
  generalize hYE : sY s = Y at *
  have HYE := hide hYE
  clear hYE HY
  go_loopw [6, 7, 8] (fun v5 x6 x22 wr => ∃ k : Nat, x6 = .int .u8 (rk 0 Y k).2 ∧ x22 = .int .i64 (k : Int) ∧ k ≤ Y.length ∧ Hid (wr.ownsRow w4.heap.size 5 1 v5 (rk 0 Y k).1.length ((rk 0 Y k).1.map (Value.int .u8))) ∧ Hid (Below w4.heap.size w4 wr)) (fun _ _ x _ => Y.length - (intOf x).toNat)
  case atStart => exact ⟨0, rfl, rfl, by omega, O0, hide ((Below.refl _ _).alloc (Nat.le_refl _) _)⟩
  case round =>
    obtain ⟨k, rfl, rfl, hk, HO, HBW⟩ := hrel
    clear O0
    obtain ⟨a5, c5, rfl⟩ := Chr.own_form (unhide HO)
    have hzz := (unhide HBW).size
    by_cases hlt : k < Y.length
    · have hrd : ∃ b off, a4 = some ⟨b, off, none⟩ ∧ b < w4.heap.size ∧ ∀ i, i < Y.length → w4.cell? ⟨b, off + i, none⟩ = some (.int .i64 (nth Y i)) := by
        rcases unhide O4 with h | h
        · rw [h] at hlt; simp at hlt
        · exact h
      obtain ⟨b, off, rfl, hbw, hcs⟩ := hrd
      have hpc := ((unhide HBW).cell (p := ⟨b, off + k, none⟩) hbw).trans (hcs k hlt)
      have HS := hide (rk_succ 0 Y k hlt)
      have hok := rk_ok 0 Y k
      rw [show Y.getD k 0 = nth Y k from rfl] at HS
      generalize nth Y k = p at *
      generalize rk 0 Y k = st at *
      obtain ⟨M, z⟩ := st
      have hM : M.length ≤ 5 := hok.1
      simp only at *
      clear hcs
      by_cases hp : 97 ≤ p ∧ p ≤ 122
      · have hp1 : ¬ p < 97 := by omega
        have hp2 : ¬ 122 < p := by omega
        obtain ⟨i, D, hi26, hpi, hdg, hD0, hD, hdx⟩ := dg_some p hp
        have hw8 : IntKind.u8.wrap p = p := by simp [IntKind.wrap, IntKind.bits, IntKind.signed]; omega
        have HST : Hid (stp (M, z) p = (if M.length = 0 then [p] else if D ≠ 48 ∧ D ≠ z ∧ M.length ≤ 4 then M ++ [D] else M, D)) := hide (by simp only [stp, if_pos hp, hdg])
        rw [unhide HST] at HS
        clear HST hdg
        by_cases hM0 : M.length = 0
        · obtain rfl : M = [] := List.length_eq_zero_iff.1 hM0
          have HR : Hid (rk 0 Y (k + 1) = ([p], D)) := hide (by rw [unhide HS]; rfl)
          simp only [List.length_nil, List.map_nil] at HO
          clear hM0 hM hok HS
          go_wp2_with (at_builtin; refine wpList_append_own _ rfl _ _ 31 rfl w4.heap.size 5 i0 (.int .u8 0) 1 1 Tryz.underlying31 hi hz0 hz1 hz2 rfl (by decide) _ _ _ rfl (ownsRow_below (unhide HO) ((Below.refl _ _).alloc (Nat.le_refl _) _)) ⟨wr.heap.size, 0, none⟩ 1 1 [.int .u8 p] rfl rfl (cell_one_new _ _ _) (by simp [Value.oneCell']) (by unfold maxLen; omega) (by omega) (by simp; omega) ?_)
          intro v' w5 hown' hgrow _
          have O5 : Hid (w5.ownsRow w4.heap.size 5 1 v' [p].length ([p].map (Value.int .u8))) := hide hown'
          have B5 := hide (((unhide HBW).alloc hzz (.cells #[.int .u8 p] 5)).grown hgrow (by simp; omega) (fun m hm => ((unhide HO).lt m hm).1))
          clear hown' hgrow
          go_wp2
          go_roundw
          case rel => exact ⟨k + 1, by rw [unhide HR], by go_num, by omega, by rw [unhide HR]; exact O5, B5⟩
          case measure => simp [intOf]; omega
        · have t0 : ((M.length : Int) == 0) = false := by rw [beq_eq_false_iff_ne]; intro h; omega
          rw [if_neg hM0] at HS
          clear hM0 hok
          by_cases h1 : D = 48
          · have t1 : (D == 48) = true := by simpa using h1
            have HR : Hid (rk 0 Y (k + 1) = (M, D)) := hide (by rw [unhide HS, if_neg (fun h => h.1 h1)])
            have H1 := hide h1
            clear h1 HS
            go_wp2_with fail
            go_roundw
            case rel => exact ⟨k + 1, by first | (rw [unhide HR]; done) | (rw [unhide HR]; show _ = Value.int .u8 D; rw [unhide H1]), by go_num, by omega, by rw [unhide HR]; exact HO, HBW⟩
            case measure => simp [intOf]; omega
          · have t1 : (D == 48) = false := by simpa using h1
            have t1' : (D != 48) = true := by simpa using h1
            by_cases h2 : D = z
            · have t2 : (D == z) = true := by simpa using h2
              have t2' : (D != z) = false := by simpa using h2
              have HR : Hid (rk 0 Y (k + 1) = (M, D)) := hide (by rw [unhide HS, if_neg (fun h => h.2.1 h2)])
              have H1 := hide h2
              clear h1 h2 HS
              go_wp2_with fail
              go_roundw
              case rel => exact ⟨k + 1, by first | (rw [unhide HR]; done) | (rw [unhide HR]; show _ = Value.int .u8 D; rw [unhide H1]), by go_num, by omega, by rw [unhide HR]; exact HO, HBW⟩
              case measure => simp [intOf]; omega
            · have t2 : (D == z) = false := by simpa using h2
              have t2' : (D != z) = true := by simpa using h2
              by_cases h3 : M.length ≤ 4
              · have t3 : (M.length : Int) < 5 := by omega
                have HR : Hid (rk 0 Y (k + 1) = (M ++ [D], D)) := hide (by rw [unhide HS, if_pos ⟨h1, h2, h3⟩])
                clear HS
                go_wp2_with (at_builtin; refine wpList_append_own _ rfl _ _ 31 rfl w4.heap.size 5 i0 (.int .u8 0) 1 1 Tryz.underlying31 hi hz0 hz1 hz2 rfl (by decide) _ _ _ rfl (ownsRow_below (unhide HO) ((Below.refl _ _).alloc (Nat.le_refl _) _)) ⟨wr.heap.size, 0, none⟩ 1 1 [.int .u8 D] rfl rfl (cell_one_new _ _ _) (by simp [Value.oneCell']) (by unfold maxLen; omega) (by omega) (by simp; omega) ?_)
                intro v' w5 hown' hgrow _
                have O5 : Hid (w5.ownsRow w4.heap.size 5 1 v' (M ++ [D]).length ((M ++ [D]).map (Value.int .u8))) := hide (by simpa using hown')
                have B5 := hide (((unhide HBW).alloc hzz (.cells #[.int .u8 D] 5)).grown hgrow (by simp; omega) (fun m hm => ((unhide HO).lt m hm).1))
                clear hown' hgrow
                go_wp2
                go_roundw
                case rel => exact ⟨k + 1, by rw [unhide HR], by go_num, by omega, by rw [unhide HR]; exact O5, B5⟩
                case measure => simp [intOf]; omega
              · have t3 : ¬ (M.length : Int) < 5 := by omega
                have HR : Hid (rk 0 Y (k + 1) = (M, D)) := hide (by rw [unhide HS, if_neg (fun h => h3 h.2.2)])
                have H1 : Hid (D = D) := hide rfl
                clear HS
                go_wp2_with fail
                go_roundw
                case rel => exact ⟨k + 1, by first | (rw [unhide HR]; done) | (rw [unhide HR]; show _ = Value.int .u8 D; rw [unhide H1]), by go_num, by omega, by rw [unhide HR]; exact HO, HBW⟩
                case measure => simp [intOf]; omega
      · have HR : Hid (rk 0 Y (k + 1) = (M, z)) := hide (by rw [unhide HS]; simp only [stp, if_neg hp])
        by_cases hp1 : p < 97
        · go_wp2
          go_roundw
          case rel => exact ⟨k + 1, by rw [unhide HR], by go_num, by omega, by rw [unhide HR]; exact HO, HBW⟩
          case measure => simp [intOf]; omega
        · have hp2 : 122 < p := by omega
          go_wp2
          go_roundw
          case rel => exact ⟨k + 1, by rw [unhide HR], by go_num, by omega, by rw [unhide HR]; exact HO, HBW⟩
          case measure => simp [intOf]; omega
    · obtain rfl : k = Y.length := by omega
      have HE : Hid (sndO Y = if (rk 0 Y Y.length).1.length = 0 then [] else (rk 0 Y Y.length).1 ++ List.replicate (5 - (rk 0 Y Y.length).1.length) 48) := hide (by rw [rk_all]; unfold sndO; rw [run_any 48 0 Y])
      have hok := rk_ok 0 Y Y.length
      generalize rk 0 Y Y.length = st at *
      obtain ⟨M, z⟩ := st
      have hM : M.length ≤ 5 := hok.1
      simp only at *
      have hge : ¬ (Y.length : Int) < (Y.length : Int) := by omega
      have HO1 : Hid (wr.ownsRow w4.heap.size 5 1 (.slice a5 M.length c5) (M ++ List.replicate 0 (48 : Int)).length ((M ++ List.replicate 0 (48 : Int)).map (Value.int .u8))) := hide (by simpa using unhide HO)
      clear hok O2 O3 O4
      go_wp2
      go_loopw [6] (fun v5 wr => ∃ j : Nat, j ≤ 5 - M.length ∧ (M.length = 0 → j = 0) ∧ Hid (wr.ownsRow w4.heap.size 5 1 v5 (M ++ List.replicate j (48 : Int)).length ((M ++ List.replicate j (48 : Int)).map (Value.int .u8))) ∧ Hid (Below w4.heap.size w4 wr)) (fun v _ => 5 - slen v)
      case atStart => exact ⟨0, by omega, fun _ => rfl, HO1, HBW⟩
      case round =>
        obtain ⟨j, hj, hj0, O2, BW2⟩ := hrel
        clear HO1 HO HBW
        have hlen : (M ++ List.replicate j (48 : Int)).length = M.length + j := by simp
        obtain ⟨a6, c6, rfl⟩ := Chr.own_form (unhide O2)
        have hz6 := (unhide BW2).size
        generalize hN : M ++ List.replicate j (48 : Int) = N at *
        have HN := hide hN
        have HLN := hide hlen
        clear hN hlen
        by_cases hgo : 0 < N.length ∧ N.length < 5
        · have g1 : (0 : Int) < (N.length : Int) := by omega
          have g2 : (N.length : Int) < 5 := by omega
          go_wp2_with (at_builtin; refine wpList_append_own _ rfl _ _ 31 rfl w4.heap.size 5 i0 (.int .u8 0) 1 1 Tryz.underlying31 hi hz0 hz1 hz2 rfl (by decide) _ _ _ rfl (ownsRow_below (unhide O2) ((Below.refl _ _).alloc (Nat.le_refl _) _)) ⟨wr.heap.size, 0, none⟩ 1 1 [.int .u8 48] rfl rfl (cell_one_new _ _ _) (by simp [Value.oneCell']) (by unfold maxLen; omega) (by omega) (by simp; omega) ?_)
          intro v' w5 hown' hgrow _
          obtain ⟨a7, c7, rfl⟩ := Chr.own_form hown'
          have O5 : Hid (w5.ownsRow w4.heap.size 5 1 (.slice a7 (N.length + 1) c7) (M ++ List.replicate (j + 1) (48 : Int)).length ((M ++ List.replicate (j + 1) (48 : Int)).map (Value.int .u8))) := hide (by rw [List.replicate_succ', ← List.append_assoc, unhide HN]; simpa using hown')
          have B5 := hide (((unhide BW2).alloc hz6 (.cells #[.int .u8 48] 5)).grown hgrow (by simp; omega) (fun m hm => ((unhide O2).lt m hm).1))
          clear hown' hgrow
          go_wp2
          go_roundw
          case rel => exact ⟨j + 1, by have := unhide HLN; omega, fun h => by have := unhide HLN; have := hj0 h; omega, O5, B5⟩
          case measure => simp [slen]; omega
        · have HR : Hid (sndO Y = N) := hide (by
            rw [unhide HE, ← unhide HN]
            by_cases h0 : M.length = 0
            · rw [if_pos h0, hj0 h0]
              rw [List.length_eq_zero_iff.1 h0]
              rfl
            · rw [if_neg h0]
              have : j = 5 - M.length := by have := unhide HLN; omega
              rw [this])
          have hcv := conv_owned wr _ _ _ _ (unhide O2)
          have HB9 := hide ((unhide B4).trans ((unhide BW2).mono (unhide B4).size))
          by_cases g1 : 0 < N.length
          · have g1' : (0 : Int) < (N.length : Int) := by omega
            have g2' : ¬ (N.length : Int) < 5 := by omega
            clear hgo
            go_wp2
            go_ret
            exact ⟨by rw [unhide HYE, unhide HR]; rfl, unhide HB9⟩
          · have g1' : ¬ (0 : Int) < (N.length : Int) := by omega
            clear hgo
            go_wp2
            go_ret
            exact ⟨by rw [unhide HYE, unhide HR]; rfl, unhide HB9⟩
end Snd
end Go.Proofs.YtamigjljgepfiaaGreatDoor
