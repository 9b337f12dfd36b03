/- The sound of a text, as the program tells it. -/
import Derived.Test.YtamigjljgepfiaaGreatDoorSndR
import Derived.Test.YtamigjljgepfiaaGreatDoorAlgU
import Derived.Test.YtamigjljgepfiaaGreatDoorFolI
import Derived.Test.YtamigjljgepfiaaGreatDoorNrmI
import Derived.Test.YtamigjljgepfiaaGreatDoorFolS
import Derived.Deep.Cut
import Derived.Maps.AppendAt
namespace Go.Proofs.YtamigjljgepfiaaGreatDoor
namespace Snd
open Go.RowKit
set_option linter.unusedVariables false
set_option linter.unusedSimpArgs false
theorem info5u : (Tryz.prog.info? 5).map (fun i => (i.zero, i.size, i.bytes)) = some (some (.int .u8 0), 1, 1) := by kernel_rfl
/-- The points of which a text's sound is told. -/
def sY (s : ByteArray) : List Int := nrmL 1 ((pts s).flatMap Cas.fo1)
def sndT (s : ByteArray) : List Int := if 65536 < s.size then [] else if (Chr.chA s).length ≤ 200 then sndO (sY s) else []
theorem dg_at (p : Int) (h : 97 ≤ p ∧ p ≤ 122) : ∃ i : Nat, i < 26 ∧ p - 97 = (i : Int) ∧ dg p = dgL.getD i 0 := ⟨(p - 97).toNat, by omega, by omega, rfl⟩
theorem dg_byte (i : Nat) (h : i < (⟨#[48, 49, 50, 51, 48, 49, 50, 48, 48, 50, 50, 52, 53, 53, 48, 49, 50, 54, 50, 51, 48, 49, 48, 50, 48, 50]⟩ : ByteArray).size) : ((⟨#[48, 49, 50, 51, 48, 49, 50, 48, 48, 50, 50, 52, 53, 53, 48, 49, 50, 54, 50, 51, 48, 49, 48, 50, 48, 50]⟩ : ByteArray)[i]'h).toNat = (dgL.getD i 0).toNat := by
  have h2 : ∀ j : Fin 26, ((⟨#[48, 49, 50, 51, 48, 49, 50, 48, 48, 50, 50, 52, 53, 53, 48, 49, 50, 54, 50, 51, 48, 49, 48, 50, 48, 50]⟩ : ByteArray)[j.1]'(show j.1 < 26 from j.2)).toNat = (dgL.getD j.1 0).toNat := by decide
  exact h2 ⟨i, h⟩
theorem dg_some (p : Int) (h : 97 ≤ p ∧ p ≤ 122) : ∃ (i : Nat) (d : Int), i < 26 ∧ p - 97 = (i : Int) ∧ dg p = d ∧ 0 ≤ d ∧ d < 256 ∧ ∀ h, ((((⟨#[48, 49, 50, 51, 48, 49, 50, 48, 48, 50, 50, 52, 53, 53, 48, 49, 50, 54, 50, 51, 48, 49, 48, 50, 48, 50]⟩ : ByteArray)[i]'h).toNat : Nat) : Int) = d := by
  obtain ⟨i, h1, h2, h3⟩ := dg_at p h
  have hb := dg_bd p
  refine ⟨i, dg p, h1, h2, rfl, hb.1, hb.2, fun h => ?_⟩
  rw [dg_byte, ← h3]
  omega
theorem out_is (s : ByteArray) (hs : s.size ≤ 65536) : ptsOut s = pts s := by
  unfold ptsOut
  rw [if_neg (by omega)]
theorem pts_pt (s : ByteArray) (hs : s.size ≤ 65536) : ∀ p ∈ pts s, isPt p = true := by
  have := Cas.ptsOut_pt s
  rw [out_is s hs] at this
  exact this
theorem fol_len (s : ByteArray) (hs : s.size ≤ 65536) : ((pts s).flatMap Cas.fo1).length ≤ 131072 := by
  have := Cas.fold_len s
  rw [out_is s hs] at this
  exact this
theorem bdrewN {B : Nat} {w w' : World} (h : Below B w w') (n : Nat) : Below B w (w'.drewN n) := ⟨h.os, h.tape, h.output, h.size, h.block⟩
theorem zs_nums (c : Nat) : zs c = strOfNums (List.replicate c 48) := by
  unfold zs strOfNums
  simp
theorem plus_zs (M : List Int) (c : Nat) : strOfNums M ++ zs c = strOfNums (M ++ List.replicate c 48) := by
  rw [zs_nums]
  apply ByteArray.ext
  unfold strOfNums
  simp [ByteArray.data_append]
theorem add_zs (M : List Int) (c : Nat) (hM : M.length ≤ 5) (hc : c ≤ 5) (W : World) : (Op.stringOp .add (strOfNums M) (zs c)).run Tryz.prog W = .ok (.string (strOfNums (M ++ List.replicate c 48))) W := by
  rw [← plus_zs, run_string_add_sum W _ _ (by rw [zs_nums, strOfNums_size, strOfNums_size, List.length_replicate]; omega)]
theorem yl_len (s : ByteArray) (hs : s.size ≤ 65536) : (sY s).length ≤ 1048576 := by
  have h1 := fol_len s hs
  have h2 := nrmL_len 1 ((pts s).flatMap Cas.fo1)
  unfold sY
  omega
set_option maxRecDepth 100000 in
set_option maxHeartbeats 4000000 in
theorem sound_any (s : ByteArray) (hs : s.size ≤ 65536) (hc : (Chr.chA s).length ≤ 200) (w : World) (ht : TabAt w) (hb : Cas.BlkAt w) :
    Calls Tryz.prog 5 #[.string s] w fun e w' => e = .returned (.string (strOfNums (sndO (sY s)))) ∧ Below w.heap.size w w' := by
  obtain ⟨i0, hi, hz0, hz1, hz2⟩ := info_parts info5u
  have CW := hide (Chr.words_any s hs w ht ht.1)
  have CP := hide (fun W => implPoints s W hs)
  have CF := hide (fun v W (hv : IntsAt W v (pts s)) (hb : Cas.BlkAt W) => Cas.foldI v (pts s) W hv (by have := pts_le s; omega) (pts_pt s hs) hb)
  have CN := hide (fun B0 n v W (ho : W.ownsRow B0 2 1 v n (((pts s).flatMap Cas.fo1).map (Value.int .i64))) (hn : n ≤ 131072) => normalI 1 B0 n v ((pts s).flatMap Cas.fo1) W ho hn)
  simp only [if_pos hc] at CW
  have HB := hide hb
  clear hb ht hc
  have hfl := fol_len s hs
  have HY : Hid (nrmL 1 ((pts s).flatMap Cas.fo1) = sY s) := hide rfl
  go_enter Tryz.func5, Tryz.ntmps5
  go_wp2_with (first
    | (go_at_call 10; refine (unhide CW).mono ?_; clear CW; rintro e w1 ⟨v1, b1, rfl, hB1, rfl, hO1⟩; have B1 := hide hB1; clear hB1 hO1)
    | (go_at_call 13; refine ((unhide CP) _).mono ?_; clear CP; rintro e w2 ⟨v2, rfl, hO2, hB2⟩; have B2 := hide ((unhide B1).trans (hB2.mono (unhide B1).size)); have O2 := hide (IntsAt.owned hO2); clear hO2 hB2)
    | (go_at_call 12; refine ((unhide CF) _ _ (unhide O2) ((unhide HB).below (unhide B2))).mono ?_; clear CF; rintro e w3 ⟨v3, rfl, hO3, hB3⟩; have B3 := hide ((unhide B2).trans (hB3.mono (unhide B2).size)); have O3 := hide hO3; clear hO3 hB3)
    | (go_at_call 11; refine ((unhide CN) _ _ _ _ (unhide O3) hfl).mono ?_; clear CN; rintro e w4 ⟨v4, rfl, hO4, hB4⟩; have B4 := hide ((unhide B3).trans (hB4.mono (unhide B3).size)); rw [unhide HY] at hO4; obtain ⟨a4, c4, rfl, hc4⟩ := IntsAt.owned hO4; have O4 := hide hc4; clear hO4 hB4 hc4))
  have O0 : Hid (w4.ownsRow w4.heap.size 5 1 (.slice none 0 0) (rk 48 (sY s) 0).1.length ((rk 48 (sY s) 0).1.map (Value.int .u8))) := hide (World.ownsRow_nil _ _ _ _)
  have hYl := yl_len s hs
  generalize hYE : sY s = Y at *
  have HYE := hide hYE
  clear hYE
  clear HY
  go_loopw [5, 6, 22] (fun v5 x6 x22 wr => ∃ k : Nat, x6 = .int .u8 (rk 48 Y k).2 ∧ x22 = .int .i64 (k : Int) ∧ k ≤ Y.length ∧ Hid (wr.ownsRow w4.heap.size 5 1 v5 (rk 48 Y k).1.length ((rk 48 Y k).1.map (Value.int .u8))) ∧ Hid (Below w4.heap.size w4 wr)) (fun _ _ x _ => Y.length - (intOf x).toNat)
  case atStart => exact ⟨0, rfl, rfl, by omega, O0, hide (Below.refl _ _)⟩
  case round =>
    obtain ⟨k, rfl, rfl, hk, HO, HBW⟩ := hrel
    clear O0
    obtain ⟨a5, c5, rfl⟩ := Chr.own_form (unhide HO)
    have hzz := (unhide HBW).size
    by_cases hlt : k < Y.length
    · have hrd : ∃ b off, a4 = some ⟨b, off, none⟩ ∧ b < w4.heap.size ∧ ∀ i, i < Y.length → w4.cell? ⟨b, off + i, none⟩ = some (.int .i64 (nth Y i)) := by
        rcases unhide O4 with h | h
        · rw [h] at hlt; simp at hlt
        · exact h
      obtain ⟨b, off, rfl, hbw, hcs⟩ := hrd
      have hpc := ((unhide HBW).cell (p := ⟨b, off + k, none⟩) hbw).trans (hcs k hlt)
      have HS := hide (rk_succ 48 Y k hlt)
      have hok := rk_ok 48 Y k
      rw [show Y.getD k 0 = nth Y k from rfl] at HS
      generalize nth Y k = p at *
      generalize rk 48 Y k = st at *
      obtain ⟨M, z⟩ := st
      have hM : M.length ≤ 5 := hok.1
      simp only at *
      clear hcs
      by_cases hp : 97 ≤ p ∧ p ≤ 122
      · have CI := hide (fun W => Cas.cw_t p 97 122 W hp)
        obtain ⟨i, D, hi26, hpi, hdg, hD0, hD, hdx⟩ := dg_some p hp
        have hw8 : IntKind.u8.wrap p = p := by simp [IntKind.wrap, IntKind.bits, IntKind.signed]; omega
        have HST : Hid (stp (M, z) p = (if M.length = 0 then [p] else if D ≠ 48 ∧ D ≠ z ∧ M.length ≤ 4 then M ++ [D] else M, D)) := hide (by simp only [stp, if_pos hp, hdg])
        rw [unhide HST] at HS
        clear HST hdg
        by_cases hM0 : M.length = 0
        · obtain rfl : M = [] := List.length_eq_zero_iff.1 hM0
          have HR : Hid (rk 48 Y (k + 1) = ([p], D)) := hide (by rw [unhide HS]; rfl)
          simp only [List.length_nil, List.map_nil] at HO
          clear hM0 hM hok HS
          go_wp2_with (first
            | (go_at_call 14; refine ((unhide CI) _).mono ?_; rintro e w' ⟨rfl, hx⟩; obtain rfl := hx.symm; clear hx)
            | (at_builtin; refine wpList_append_own _ rfl _ _ 31 rfl w4.heap.size 5 i0 (.int .u8 0) 1 1 Tryz.underlying31 hi hz0 hz1 hz2 rfl (by decide) _ _ _ rfl (ownsRow_below (unhide HO) ((Below.refl _ _).alloc (Nat.le_refl _) _)) ⟨wr.heap.size, 0, none⟩ 1 1 [.int .u8 p] rfl rfl (cell_one_new _ _ _) (by simp [Value.oneCell']) (by unfold maxLen; omega) (by omega) (by simp; omega) ?_))
          intro v' w5 hown' hgrow _
          have O5 : Hid (w5.ownsRow w4.heap.size 5 1 v' [p].length ([p].map (Value.int .u8))) := hide hown'
          have B5 := hide (((unhide HBW).alloc hzz (.cells #[.int .u8 p] 5)).grown hgrow (by simp; omega) (fun m hm => ((unhide HO).lt m hm).1))
          clear hown' hgrow
          go_wp2
          go_roundw
          case rel => exact ⟨k + 1, by rw [unhide HR], by go_num, by omega, by rw [unhide HR]; exact O5, B5⟩
          case measure => simp [intOf]; omega
        · have t0 : ((M.length : Int) == 0) = false := by rw [beq_eq_false_iff_ne]; intro h; omega
          rw [if_neg hM0] at HS
          clear hM0 hok
          by_cases h1 : D = 48
          · have t1 : (D == 48) = true := by simpa using h1
            have HR : Hid (rk 48 Y (k + 1) = (M, D)) := hide (by rw [unhide HS, if_neg (fun h => h.1 h1)])
            have H1 := hide h1
            clear h1 HS
            go_wp2_with (go_at_call 14; refine ((unhide CI) _).mono ?_; rintro e w' ⟨rfl, hx⟩; obtain rfl := hx.symm; clear hx)
            go_roundw
            case rel => exact ⟨k + 1, by first | (rw [unhide HR]; done) | (rw [unhide HR]; show _ = Value.int .u8 D; rw [unhide H1]), by go_num, by omega, by rw [unhide HR]; exact HO, HBW⟩
            case measure => simp [intOf]; omega
          · have t1 : (D == 48) = false := by simpa using h1
            have t1' : (D != 48) = true := by simpa using h1
            by_cases h2 : D = z
            · have t2 : (D == z) = true := by simpa using h2
              have t2' : (D != z) = false := by simpa using h2
              have HR : Hid (rk 48 Y (k + 1) = (M, D)) := hide (by rw [unhide HS, if_neg (fun h => h.2.1 h2)])
              have H1 := hide h2
              clear h1 h2 HS
              go_wp2_with (go_at_call 14; refine ((unhide CI) _).mono ?_; rintro e w' ⟨rfl, hx⟩; obtain rfl := hx.symm; clear hx)
              go_roundw
              case rel => exact ⟨k + 1, by first | (rw [unhide HR]; done) | (rw [unhide HR]; show _ = Value.int .u8 D; rw [unhide H1]), by go_num, by omega, by rw [unhide HR]; exact HO, HBW⟩
              case measure => simp [intOf]; omega
            · have t2 : (D == z) = false := by simpa using h2
              have t2' : (D != z) = true := by simpa using h2
              by_cases h3 : M.length ≤ 4
              · have t3 : (M.length : Int) ≤ 4 := by omega
                have HR : Hid (rk 48 Y (k + 1) = (M ++ [D], D)) := hide (by rw [unhide HS, if_pos ⟨h1, h2, h3⟩])
                clear HS
                go_wp2_with (first
                  | (go_at_call 14; refine ((unhide CI) _).mono ?_; rintro e w' ⟨rfl, hx⟩; obtain rfl := hx.symm; clear hx)
                  | (at_builtin; refine wpList_append_own _ rfl _ _ 31 rfl w4.heap.size 5 i0 (.int .u8 0) 1 1 Tryz.underlying31 hi hz0 hz1 hz2 rfl (by decide) _ _ _ rfl (ownsRow_below (unhide HO) ((Below.refl _ _).alloc (Nat.le_refl _) _)) ⟨wr.heap.size, 0, none⟩ 1 1 [.int .u8 D] rfl rfl (cell_one_new _ _ _) (by simp [Value.oneCell']) (by unfold maxLen; omega) (by omega) (by simp; omega) ?_))
                intro v' w5 hown' hgrow _
                have O5 : Hid (w5.ownsRow w4.heap.size 5 1 v' (M ++ [D]).length ((M ++ [D]).map (Value.int .u8))) := hide (by simpa using hown')
                have B5 := hide (((unhide HBW).alloc hzz (.cells #[.int .u8 D] 5)).grown hgrow (by simp; omega) (fun m hm => ((unhide HO).lt m hm).1))
                clear hown' hgrow
                go_wp2
                go_roundw
                case rel => exact ⟨k + 1, by rw [unhide HR], by go_num, by omega, by rw [unhide HR]; exact O5, B5⟩
                case measure => simp [intOf]; omega
              · have t3 : ¬ (M.length : Int) ≤ 4 := by omega
                have HR : Hid (rk 48 Y (k + 1) = (M, D)) := hide (by rw [unhide HS, if_neg (fun h => h3 h.2.2)])
                clear HS
                go_wp2_with (go_at_call 14; refine ((unhide CI) _).mono ?_; rintro e w' ⟨rfl, hx⟩; obtain rfl := hx.symm; clear hx)
                go_roundw
                case rel => exact ⟨k + 1, by rw [unhide HR], by go_num, by omega, by rw [unhide HR]; exact HO, HBW⟩
                case measure => simp [intOf]; omega
      · have CI := hide (fun W => Cas.cw_f p 97 122 W hp)
        have HR : Hid (rk 48 Y (k + 1) = (M, z)) := hide (by rw [unhide HS]; simp only [stp, if_neg hp])
        go_wp2_with (go_at_call 14; refine ((unhide CI) _).mono ?_; rintro e w' ⟨rfl, hx⟩; obtain rfl := hx.symm; clear hx)
        go_roundw
        case rel => exact ⟨k + 1, by first | (rw [unhide HR]; done) | (rw [unhide HR]; show _ = Value.int .u8 D; rw [unhide H1]), by go_num, by omega, by rw [unhide HR]; exact HO, HBW⟩
        case measure => simp [intOf]; omega
    · obtain rfl : k = Y.length := by omega
      have HE : Hid (sndO Y = if (rk 48 Y Y.length).1.length = 0 then [] else (rk 48 Y Y.length).1 ++ List.replicate (5 - (rk 48 Y Y.length).1.length) 48) := hide (by rw [rk_all]; rfl)
      have hok := rk_ok 48 Y Y.length
      generalize rk 48 Y Y.length = st at *
      obtain ⟨M, z⟩ := st
      have hM : M.length ≤ 5 := hok.1
      simp only at *
      have hge : ¬ (Y.length : Int) < (Y.length : Int) := by omega
      have HB9 := hide ((unhide B4).trans ((unhide HBW).mono (unhide B4).size))
      by_cases hM0 : M.length = 0
      · obtain rfl : M = [] := List.length_eq_zero_iff.1 hM0
        have HR : Hid (sndO Y = []) := hide (by rw [unhide HE]; rfl)
        simp only [List.length_nil, List.map_nil] at HO
        clear hM0 hM hok HE hlt
        go_wp2
        go_ret
        exact ⟨by rw [unhide HYE, unhide HR]; rfl, unhide HB9⟩
      · have t0 : ((M.length : Int) == 0) = false := by rw [beq_eq_false_iff_ne]; intro h; omega
        obtain ⟨c, hc⟩ : ∃ c : Nat, 5 - M.length = c := ⟨_, rfl⟩
        have HR : Hid (sndO Y = M ++ List.replicate c 48) := hide (by rw [unhide HE, if_neg hM0, hc])
        have hcc : (5 : Int) - (M.length : Int) = (c : Int) := by omega
        have CR := hide (fun W => rep_few c (by omega) W)
        have CV := hide (fun W (h : W.ownsRow w4.heap.size 5 1 (.slice a5 M.length c5) M.length (M.map (Value.int .u8))) => conv_owned W _ _ _ _ h)
        clear hM0 hok HE hlt hc
        have hcv : ∀ n, (convert 31 9 (.slice a5 M.length c5)).run Tryz.prog (wr.drewN n) = .ok (.string (strOfNums M)) (wr.drewN n) := fun n => (unhide CV) (wr.drewN n) (unhide HO)
        have hadd := fun W => add_zs M c (by omega) (by omega) W
        go_wp2_with fail
        go_quiet (first | (go_at_call 15; refine Calls.quiet_of_same ((unhide CR) _)) | fail)
        go_wp2
        go_ret
        exact ⟨by rw [unhide HYE, unhide HR]; rfl, bdrewN (unhide HB9) _⟩
/-- The two ways in which nothing is told. -/
theorem none_any (s : ByteArray) (w : World) (H : Calls Tryz.prog 10 #[.string s] w fun e w' => e = .returned (.tuple #[.slice none 0 0, .bool false]) ∧ Below w.heap.size w w') :
    Calls Tryz.prog 5 #[.string s] w fun e w' => e = .returned (.string (strOfNums [])) ∧ Below w.heap.size w w' := by
  have CW := hide H
  clear H
  go_enter Tryz.func5, Tryz.ntmps5
  go_wp2_with (go_at_call 10; refine (unhide CW).mono ?_; clear CW; rintro e w1 ⟨rfl, hB1⟩; have B1 := hide hB1; clear hB1)
  go_ret
  exact ⟨rfl, unhide B1⟩
theorem implSound (s : ByteArray) (w : World) (ht : TabAt w) (hb : Cas.BlkAt w) (hs : s.size ≤ 1048576) :
    Calls Tryz.prog 5 #[.string s] w fun e w' => e = .returned (.string (strOfNums (sndT s))) ∧ Below w.heap.size w w' := by
  unfold sndT
  by_cases h1 : 65536 < s.size
  · rw [if_pos h1]
    exact none_any s w (Chr.words_long s h1 hs w)
  · rw [if_neg h1]
    by_cases h2 : (Chr.chA s).length ≤ 200
    · rw [if_pos h2]
      exact sound_any s (by omega) h2 w ht hb
    · rw [if_neg h2]
      refine none_any s w ((Chr.words_any s (by omega) w ht ht.1).mono ?_)
      rintro e w' ⟨v, b, rfl, hB, h⟩
      rw [if_neg h2] at h
      obtain ⟨rfl, rfl⟩ := h
      exact ⟨rfl, hB⟩
end Snd
end Go.Proofs.YtamigjljgepfiaaGreatDoor
