/- Several texts in one. -/
import Derived.Test.YtcdhaikmedicfaaGreatDoorHYA
import Derived.Test.YtcdhaikmedicfaaGreatDoorStrD
import Derived.Test.YtcdhaikmedicfaaGreatDoorHypF
import Derived.WalkSmall
import Derived.BigQuiet
import Derived.Test.YtcdhaikmedicfaaGreatDoorND
import Derived.Test.YtcdhaikmedicfaaGreatDoorSA
/- Patterns that rise, each of them right: as the specification asks. -/
namespace Go.Proofs.YtcdhaikmedicfaaGreatDoor
namespace Hyp
open Go.RowKit
set_option linter.unusedVariables false
set_option linter.unusedSimpArgs false
/-- The first k patterns are right, and rise. -/
def gd (P : List ByteArray) : Nat → Bool
  | 0 => true
  | k + 1 => gd P k && (right (nthS P k) && (k == 0 || Op.bytesLess (nthS P (k - 1)).toList (nthS P k).toList))
theorem gd_no {P : List ByteArray} {k : Nat} (h : gd P k = false) : ∀ m, gd P (k + m) = false
  | 0 => h
  | m + 1 => by rw [← Nat.add_assoc, gd, gd_no h m]; rfl
theorem gd_bad {P : List ByteArray} {k : Nat} (hk : k < P.length) (h : (right (nthS P k) && (k == 0 || Op.bytesLess (nthS P (k - 1)).toList (nthS P k).toList)) = false) : gd P P.length = false := by
  have : gd P (k + 1) = false := by rw [gd, h, Bool.and_false]
  have := gd_no this (P.length - (k + 1))
  rw [show k + 1 + (P.length - (k + 1)) = P.length by omega] at this
  exact this
theorem gd_next {P : List ByteArray} {k : Nat} (h : gd P k = true) (h2 : (right (nthS P k) && (k == 0 || Op.bytesLess (nthS P (k - 1)).toList (nthS P k).toList)) = true) : gd P (k + 1) = true := by rw [gd, h, h2]; rfl
def pf (P : List ByteArray) : Int := if 1000 < P.length then 1 else if gd P P.length = true then 0 else 1
set_option maxRecDepth 100000 in
set_option maxHeartbeats 4000000 in
theorem faultS_at (b off cap : Nat) (P : List ByteArray) (w : World) (hb : b < w.heap.size) (hc : ∀ i, i < P.length → w.cell? ⟨b, off + i, none⟩ = some (.string (nthS P i))) (hz : ∀ i, i < P.length → (nthS P i).size ≤ 1048576) (hP : P.length ≤ 1000) :
    Calls Tryz.prog 23 #[.slice (some ⟨b, off, none⟩) P.length cap] w fun e w' => e = .returned (.int .i64 (pf P)) ∧ Below w.heap.size w w' := by
  have hPI : ¬ (1000 : Int) < (P.length : Int) := by omega
  have hmx : Tryz.prog.follows Departure.mixedOrders = true := by kernel_rfl
  have HC := hide hc
  have CP := hide (fun i (hi : i < P.length) W => patS (nthS P i) (hz i hi) W)
  have HPF : Hid (pf P = if gd P P.length = true then 0 else 1) := hide (by unfold pf; rw [if_neg (by omega)])
  have HBAD := hide (fun k (hk : k < P.length) => gd_bad (P := P) hk)
  clear hc hz
  go_enter Tryz.func23, Tryz.ntmps23
  go_wp2_with fail
  go_loopw [3] (fun v3 wr => ∃ i : Nat, i ≤ P.length ∧ v3 = .int .i64 (i : Int) ∧ Hid (gd P i = true) ∧ Hid (Below w.heap.size w wr)) (fun x _ => P.length - (intOf x).toNat)
  case atStart => exact ⟨0, by omega, rfl, hide rfl, hide (Below.refl _ _)⟩
  case round =>
    obtain ⟨i, hi, rfl, HG, HB⟩ := hrel
    by_cases hlt : i < P.length
    · have hI : (i : Int) < (P.length : Int) := by omega
      have c1 := ((unhide HB).cell (p := ⟨b, off + i, none⟩) hb).trans ((unhide HC) i hlt)
      have CPi := hide (fun W => (unhide CP) i hlt W)
      have hbz := (unhide HB).size
      have HNX := hide (fun h => gd_next (P := P) (unhide HG) h)
      have HBD := hide ((unhide HBAD) i hlt)
      generalize hX : nthS P i = X at *
      generalize hr : right X = r at *
      cases r
      · have HR : Hid (pf P = 1) := hide (by rw [unhide HPF, (unhide HBD) rfl]; rfl)
        clear HBD HNX
        go_wp2_with (go_at_call 39; refine ((unhide CPi) _).mono ?_; rintro e w2 ⟨⟨X', v, rfl, _⟩, hb2⟩; have B2 := hide ((unhide HB).trans (hb2.mono (unhide HB).size)); clear hb2)
        refine (wpIn_wide (n := 1)).1 ?_
        refine region_inv hmx (fun lf ac w' => ∃ (b0 b1 b2 b3 b4 b5 b6 b7 b8 b9 b10 b11 b12 b13 b14 b15 b16 b17 : Bool) , lf = #[b0, b1, b2, b3, b4, b5, b6, b7, b8, b9, b10, b11, b12, b13, b14, b15, b16, b17] ∧ ac = { tmps := #[.slice (some ⟨b, off, none⟩) P.length cap, undef, u2, .int .i64 (i : Int), .string X', v, .bool false, .slice (some ⟨b, off, none⟩) P.length cap, .int .i64 (P.length : Int), .bool false, .int .i64 (i : Int), .slice (some ⟨b, off, none⟩) P.length cap, .int .i64 (P.length : Int), .bool true, u14, u15, .tuple #[.string X', v, .bool false], .slice (some ⟨b, off, none⟩) P.length cap, .int .i64 (i : Int), .pointer (some ⟨b, off + i, none⟩), .string X, .tuple #[.string X', v, .bool false], .string X', v, .bool false, (bif b0 then .bool false else u25), (bif b1 then .bool true else u26), (bif b2 then .bool true else u27), (bif b3 then undef else u28), (bif b4 then undef else u29), (bif b5 then undef else u30), (bif b6 then undef else u31), (bif b7 then undef else u32), (bif b8 then undef else u33), (bif b9 then undef else u34), (bif b10 then undef else u35), (bif b11 then undef else u36), (bif b12 then undef else u37), (bif b13 then undef else u38), (bif b14 then undef else u39), (bif b15 then undef else u40), (bif b16 then undef else u41), (bif b17 then .bool true else u42)], defers := [] } ∧ w' = w2.drew) (by kernel_rfl) ?size ?first ?step ?last
        case size =>
          rintro lf ac w' ⟨b0, b1, b2, b3, b4, b5, b6, b7, b8, b9, b10, b11, b12, b13, b14, b15, b16, b17, rfl, _⟩
          rfl
        case first => exact ⟨false, false, false, false, false, false, false, false, false, false, false, false, false, false, false, false, false, false, rfl, rfl, rfl⟩
        case step =>
          rintro ii lf ac w' ⟨b0, b1, b2, b3, b4, b5, b6, b7, b8, b9, b10, b11, b12, b13, b14, b15, b16, b17, rfl, rfl, rfl⟩ hr
          have hr := mem_ready.1 hr
          rcases ii with _ | _ | _ | _ | _ | _ | _ | _ | _ | _ | _ | _ | _ | _ | _ | _ | _ | _ | ii
          · simp [Region.binds] at hr
            repeat (rcases hr with ⟨hq, hr⟩)
            subst_vars
            refine wpOpIn_step rfl (fun K hK => ?_)
            go_simp
            refine hK _ _ ⟨true, _, _, _, _, _, _, _, _, _, _, _, _, _, _, _, _, _, rfl, rfl, rfl⟩
          · simp [Region.binds] at hr
            repeat (rcases hr with ⟨hq, hr⟩)
            subst_vars
            refine wpOpIn_step rfl (fun K hK => ?_)
            go_simp
            refine hK _ _ ⟨_, true, _, _, _, _, _, _, _, _, _, _, _, _, _, _, _, _, rfl, rfl, rfl⟩
          · simp [Region.binds] at hr
            repeat (rcases hr with ⟨hq, hr⟩)
            subst_vars
            refine wpOpIn_step rfl (fun K hK => ?_)
            go_simp
            refine hK _ _ ⟨_, _, true, _, _, _, _, _, _, _, _, _, _, _, _, _, _, _, rfl, rfl, rfl⟩
          · simp [Region.binds] at hr
            repeat (rcases hr with ⟨hq, hr⟩)
            subst_vars
            refine wpOpIn_step rfl (fun K hK => ?_)
            go_simp
            refine hK _ _ ⟨_, _, _, true, _, _, _, _, _, _, _, _, _, _, _, _, _, _, rfl, rfl, rfl⟩
          · simp [Region.binds] at hr
            repeat (rcases hr with ⟨hq, hr⟩)
            subst_vars
            refine wpOpIn_step rfl (fun K hK => ?_)
            go_simp
            refine hK _ _ ⟨_, _, _, _, true, _, _, _, _, _, _, _, _, _, _, _, _, _, rfl, rfl, rfl⟩
          · simp [Region.binds] at hr
            repeat (rcases hr with ⟨hq, hr⟩)
            subst_vars
            refine wpOpIn_step rfl (fun K hK => ?_)
            go_simp
            refine hK _ _ ⟨_, _, _, _, _, true, _, _, _, _, _, _, _, _, _, _, _, _, rfl, rfl, rfl⟩
          · simp [Region.binds] at hr
            repeat (rcases hr with ⟨hq, hr⟩)
            subst_vars
            refine wpOpIn_step rfl (fun K hK => ?_)
            go_simp
            refine hK _ _ ⟨_, _, _, _, _, _, true, _, _, _, _, _, _, _, _, _, _, _, rfl, rfl, rfl⟩
          · simp [Region.binds] at hr
            repeat (rcases hr with ⟨hq, hr⟩)
            subst_vars
            refine wpOpIn_step rfl (fun K hK => ?_)
            go_simp
            refine hK _ _ ⟨_, _, _, _, _, _, _, true, _, _, _, _, _, _, _, _, _, _, rfl, rfl, rfl⟩
          · simp [Region.binds] at hr
            repeat (rcases hr with ⟨hq, hr⟩)
            subst_vars
            refine wpOpIn_step rfl (fun K hK => ?_)
            go_simp
            refine hK _ _ ⟨_, _, _, _, _, _, _, _, true, _, _, _, _, _, _, _, _, _, rfl, rfl, rfl⟩
          · simp [Region.binds] at hr
            repeat (rcases hr with ⟨hq, hr⟩)
            subst_vars
            refine wpOpIn_step rfl (fun K hK => ?_)
            go_simp
            refine hK _ _ ⟨_, _, _, _, _, _, _, _, _, true, _, _, _, _, _, _, _, _, rfl, rfl, rfl⟩
          · simp [Region.binds] at hr
            repeat (rcases hr with ⟨hq, hr⟩)
            subst_vars
            refine wpOpIn_step rfl (fun K hK => ?_)
            go_simp
            refine hK _ _ ⟨_, _, _, _, _, _, _, _, _, _, true, _, _, _, _, _, _, _, rfl, rfl, rfl⟩
          · simp [Region.binds] at hr
            repeat (rcases hr with ⟨hq, hr⟩)
            subst_vars
            refine wpOpIn_step rfl (fun K hK => ?_)
            go_simp
            refine hK _ _ ⟨_, _, _, _, _, _, _, _, _, _, _, true, _, _, _, _, _, _, rfl, rfl, rfl⟩
          · simp [Region.binds] at hr
            repeat (rcases hr with ⟨hq, hr⟩)
            subst_vars
            refine wpOpIn_step rfl (fun K hK => ?_)
            go_simp
            refine hK _ _ ⟨_, _, _, _, _, _, _, _, _, _, _, _, true, _, _, _, _, _, rfl, rfl, rfl⟩
          · simp [Region.binds] at hr
            repeat (rcases hr with ⟨hq, hr⟩)
            subst_vars
            refine wpOpIn_step rfl (fun K hK => ?_)
            go_simp
            refine hK _ _ ⟨_, _, _, _, _, _, _, _, _, _, _, _, _, true, _, _, _, _, rfl, rfl, rfl⟩
          · simp [Region.binds] at hr
            repeat (rcases hr with ⟨hq, hr⟩)
            subst_vars
            refine wpOpIn_step rfl (fun K hK => ?_)
            go_simp
            refine hK _ _ ⟨_, _, _, _, _, _, _, _, _, _, _, _, _, _, true, _, _, _, rfl, rfl, rfl⟩
          · simp [Region.binds] at hr
            repeat (rcases hr with ⟨hq, hr⟩)
            subst_vars
            refine wpOpIn_step rfl (fun K hK => ?_)
            go_simp
            refine hK _ _ ⟨_, _, _, _, _, _, _, _, _, _, _, _, _, _, _, true, _, _, rfl, rfl, rfl⟩
          · simp [Region.binds] at hr
            repeat (rcases hr with ⟨hq, hr⟩)
            subst_vars
            refine wpOpIn_step rfl (fun K hK => ?_)
            go_simp
            refine hK _ _ ⟨_, _, _, _, _, _, _, _, _, _, _, _, _, _, _, _, true, _, rfl, rfl, rfl⟩
          · simp [Region.binds] at hr
            repeat (rcases hr with ⟨hq, hr⟩)
            subst_vars
            refine wpOpIn_step rfl (fun K hK => ?_)
            go_simp
            refine hK _ _ ⟨_, _, _, _, _, _, _, _, _, _, _, _, _, _, _, _, _, true, rfl, rfl, rfl⟩
          · simp at hr
        case last =>
          rintro ac W4 ⟨f0, f1, f2, f3, f4, f5, f6, f7, f8, f9, f10, f11, f12, f13, f14, f15, f16, f17, hlf, rfl, rfl⟩
          have hlf := congrArg Array.toList hlf
          simp at hlf
          repeat (rcases hlf with ⟨hq, hlf⟩)
          subst_vars
          go_wp2_with fail
          go_ret
          exact ⟨by rw [unhide HR]; rfl, bdrew (unhide B2) 1⟩
      · by_cases h0 : i = 0
        · have h0I : ¬ (0 : Int) < (i : Int) := by omega
          have HN := hide ((unhide HNX) (by rw [h0]; rfl))
          have h0d : decide (0 < i) = false := by simp; omega
          clear HBD HNX h0
          go_wp2_with (go_at_call 39; refine ((unhide CPi) _).mono ?_; rintro e w2 ⟨⟨X', v, rfl, _⟩, hb2⟩; have B2 := hide ((unhide HB).trans (hb2.mono (unhide HB).size)); clear hb2)
          refine (wpIn_wide (n := 1)).1 ?_
          refine region_inv hmx (fun lf ac w' => ∃ (b0 b1 b2 b3 b4 b5 b6 b7 b8 b9 b10 b11 b12 b13 b14 b15 b16 b17 : Bool) , lf = #[b0, b1, b2, b3, b4, b5, b6, b7, b8, b9, b10, b11, b12, b13, b14, b15, b16, b17] ∧ ac = { tmps := #[.slice (some ⟨b, off, none⟩) P.length cap, undef, u2, .int .i64 (i : Int), .string X', v, .bool true, .slice (some ⟨b, off, none⟩) P.length cap, .int .i64 (P.length : Int), .bool false, .int .i64 (i : Int), .slice (some ⟨b, off, none⟩) P.length cap, .int .i64 (P.length : Int), .bool true, u14, u15, .tuple #[.string X', v, .bool true], .slice (some ⟨b, off, none⟩) P.length cap, .int .i64 (i : Int), .pointer (some ⟨b, off + i, none⟩), .string X, .tuple #[.string X', v, .bool true], .string X', v, .bool true, (bif b0 then .bool true else u25), (bif b1 then .bool false else u26), (bif b2 then .bool false else u27), (bif b3 then .int .i64 (i : Int) else u28), (bif b4 then .bool false else u29), (bif b5 then .bool false else u30), (bif b6 then undef else u31), (bif b7 then undef else u32), (bif b8 then undef else u33), (bif b9 then undef else u34), (bif b10 then undef else u35), (bif b11 then undef else u36), (bif b12 then undef else u37), (bif b13 then undef else u38), (bif b14 then undef else u39), (bif b15 then undef else u40), (bif b16 then .bool false else u41), (bif b17 then .bool false else u42)], defers := [] } ∧ w' = w2.drew) (by kernel_rfl) ?size ?first ?step ?last
          case size =>
            rintro lf ac w' ⟨b0, b1, b2, b3, b4, b5, b6, b7, b8, b9, b10, b11, b12, b13, b14, b15, b16, b17, rfl, _⟩
            rfl
          case first => exact ⟨false, false, false, false, false, false, false, false, false, false, false, false, false, false, false, false, false, false, rfl, rfl, rfl⟩
          case step =>
            rintro ii lf ac w' ⟨b0, b1, b2, b3, b4, b5, b6, b7, b8, b9, b10, b11, b12, b13, b14, b15, b16, b17, rfl, rfl, rfl⟩ hr
            have hr := mem_ready.1 hr
            rcases ii with _ | _ | _ | _ | _ | _ | _ | _ | _ | _ | _ | _ | _ | _ | _ | _ | _ | _ | ii
            · simp [Region.binds] at hr
              repeat (rcases hr with ⟨hq, hr⟩)
              subst_vars
              refine wpOpIn_step rfl (fun K hK => ?_)
              go_simp
              refine hK _ _ ⟨true, _, _, _, _, _, _, _, _, _, _, _, _, _, _, _, _, _, rfl, rfl, rfl⟩
            · simp [Region.binds] at hr
              repeat (rcases hr with ⟨hq, hr⟩)
              subst_vars
              refine wpOpIn_step rfl (fun K hK => ?_)
              go_simp
              refine hK _ _ ⟨_, true, _, _, _, _, _, _, _, _, _, _, _, _, _, _, _, _, rfl, rfl, rfl⟩
            · simp [Region.binds] at hr
              repeat (rcases hr with ⟨hq, hr⟩)
              subst_vars
              refine wpOpIn_step rfl (fun K hK => ?_)
              go_simp
              refine hK _ _ ⟨_, _, true, _, _, _, _, _, _, _, _, _, _, _, _, _, _, _, rfl, rfl, rfl⟩
            · simp [Region.binds] at hr
              repeat (rcases hr with ⟨hq, hr⟩)
              subst_vars
              refine wpOpIn_step rfl (fun K hK => ?_)
              go_simp
              refine hK _ _ ⟨_, _, _, true, _, _, _, _, _, _, _, _, _, _, _, _, _, _, rfl, rfl, rfl⟩
            · simp [Region.binds] at hr
              repeat (rcases hr with ⟨hq, hr⟩)
              subst_vars
              refine wpOpIn_step rfl (fun K hK => ?_)
              go_simp
              refine hK _ _ ⟨_, _, _, _, true, _, _, _, _, _, _, _, _, _, _, _, _, _, rfl, rfl, rfl⟩
            · simp [Region.binds] at hr
              repeat (rcases hr with ⟨hq, hr⟩)
              subst_vars
              refine wpOpIn_step rfl (fun K hK => ?_)
              go_simp
              refine hK _ _ ⟨_, _, _, _, _, true, _, _, _, _, _, _, _, _, _, _, _, _, rfl, rfl, rfl⟩
            · simp [Region.binds] at hr
              repeat (rcases hr with ⟨hq, hr⟩)
              subst_vars
              refine wpOpIn_step rfl (fun K hK => ?_)
              go_simp
              refine hK _ _ ⟨_, _, _, _, _, _, true, _, _, _, _, _, _, _, _, _, _, _, rfl, rfl, rfl⟩
            · simp [Region.binds] at hr
              repeat (rcases hr with ⟨hq, hr⟩)
              subst_vars
              refine wpOpIn_step rfl (fun K hK => ?_)
              go_simp
              refine hK _ _ ⟨_, _, _, _, _, _, _, true, _, _, _, _, _, _, _, _, _, _, rfl, rfl, rfl⟩
            · simp [Region.binds] at hr
              repeat (rcases hr with ⟨hq, hr⟩)
              subst_vars
              refine wpOpIn_step rfl (fun K hK => ?_)
              go_simp
              refine hK _ _ ⟨_, _, _, _, _, _, _, _, true, _, _, _, _, _, _, _, _, _, rfl, rfl, rfl⟩
            · simp [Region.binds] at hr
              repeat (rcases hr with ⟨hq, hr⟩)
              subst_vars
              refine wpOpIn_step rfl (fun K hK => ?_)
              go_simp
              refine hK _ _ ⟨_, _, _, _, _, _, _, _, _, true, _, _, _, _, _, _, _, _, rfl, rfl, rfl⟩
            · simp [Region.binds] at hr
              repeat (rcases hr with ⟨hq, hr⟩)
              subst_vars
              refine wpOpIn_step rfl (fun K hK => ?_)
              go_simp
              refine hK _ _ ⟨_, _, _, _, _, _, _, _, _, _, true, _, _, _, _, _, _, _, rfl, rfl, rfl⟩
            · simp [Region.binds] at hr
              repeat (rcases hr with ⟨hq, hr⟩)
              subst_vars
              refine wpOpIn_step rfl (fun K hK => ?_)
              go_simp
              refine hK _ _ ⟨_, _, _, _, _, _, _, _, _, _, _, true, _, _, _, _, _, _, rfl, rfl, rfl⟩
            · simp [Region.binds] at hr
              repeat (rcases hr with ⟨hq, hr⟩)
              subst_vars
              refine wpOpIn_step rfl (fun K hK => ?_)
              go_simp
              refine hK _ _ ⟨_, _, _, _, _, _, _, _, _, _, _, _, true, _, _, _, _, _, rfl, rfl, rfl⟩
            · simp [Region.binds] at hr
              repeat (rcases hr with ⟨hq, hr⟩)
              subst_vars
              refine wpOpIn_step rfl (fun K hK => ?_)
              go_simp
              refine hK _ _ ⟨_, _, _, _, _, _, _, _, _, _, _, _, _, true, _, _, _, _, rfl, rfl, rfl⟩
            · simp [Region.binds] at hr
              repeat (rcases hr with ⟨hq, hr⟩)
              subst_vars
              refine wpOpIn_step rfl (fun K hK => ?_)
              go_simp
              refine hK _ _ ⟨_, _, _, _, _, _, _, _, _, _, _, _, _, _, true, _, _, _, rfl, rfl, rfl⟩
            · simp [Region.binds] at hr
              repeat (rcases hr with ⟨hq, hr⟩)
              subst_vars
              refine wpOpIn_step rfl (fun K hK => ?_)
              go_simp
              refine hK _ _ ⟨_, _, _, _, _, _, _, _, _, _, _, _, _, _, _, true, _, _, rfl, rfl, rfl⟩
            · simp [Region.binds] at hr
              repeat (rcases hr with ⟨hq, hr⟩)
              subst_vars
              refine wpOpIn_step rfl (fun K hK => ?_)
              go_simp
              refine hK _ _ ⟨_, _, _, _, _, _, _, _, _, _, _, _, _, _, _, _, true, _, rfl, rfl, rfl⟩
            · simp [Region.binds] at hr
              repeat (rcases hr with ⟨hq, hr⟩)
              subst_vars
              refine wpOpIn_step rfl (fun K hK => ?_)
              go_simp
              refine hK _ _ ⟨_, _, _, _, _, _, _, _, _, _, _, _, _, _, _, _, _, true, rfl, rfl, rfl⟩
            · simp at hr
          case last =>
            rintro ac W4 ⟨f0, f1, f2, f3, f4, f5, f6, f7, f8, f9, f10, f11, f12, f13, f14, f15, f16, f17, hlf, rfl, rfl⟩
            have hlf := congrArg Array.toList hlf
            simp at hlf
            repeat (rcases hlf with ⟨hq, hlf⟩)
            subst_vars
            go_wp2_with fail
            go_round
            case rel => exact ⟨i + 1, by omega, by go_num, HN, hide (bdrew (unhide B2) 1)⟩
            case measure => simp [intOf]; omega
        · have h0I : (0 : Int) < (i : Int) := by omega
          have h0b : (i == 0) = false := by simpa using h0
          have hm1 : (i : Int) - 1 = ((i - 1 : Nat) : Int) := by omega
          have hm2 : ((i - 1 : Nat) : Int) < (P.length : Int) := by omega
          have h0d : decide (0 < i) = true := by simp; omega
          have hwi : IntKind.i64.wrap ((i - 1 : Nat) : Int) = ((i - 1 : Nat) : Int) := by simp [IntKind.wrap, IntKind.bits, IntKind.signed]; omega
          have c0 := ((unhide HB).cell (p := ⟨b, off + (i - 1), none⟩) hb).trans ((unhide HC) (i - 1) (by omega))
          rw [h0b] at HNX HBD
          generalize nthS P (i - 1) = Z at *
          cases hq : Op.bytesLess Z.toList X.toList
          · have HR : Hid (pf P = 1) := hide (by rw [unhide HPF, (unhide HBD) (by rw [hq]; rfl)]; rfl)
            clear HBD HNX
            go_wp2_with (go_at_call 39; refine ((unhide CPi) _).mono ?_; rintro e w2 ⟨⟨X', v, rfl, _⟩, hb2⟩; have B2 := hide ((unhide HB).trans (hb2.mono (unhide HB).size)); have d1 := (hb2.cell (p := ⟨b, off + i, none⟩) (by show b < _; omega)).trans c1; have d0 := (hb2.cell (p := ⟨b, off + (i - 1), none⟩) (by show b < _; omega)).trans c0; clear hb2)
            clear c1 c0
            refine (wpIn_wide (n := 1)).1 ?_
            refine region_inv hmx (fun lf ac w' => ∃ (b0 b1 b2 b3 b4 b5 b6 b7 b8 b9 b10 b11 b12 b13 b14 b15 b16 b17 : Bool) , lf = #[b0, b1, b2, b3, b4, b5, b6, b7, b8, b9, b10, b11, b12, b13, b14, b15, b16, b17] ∧ ac = { tmps := #[.slice (some ⟨b, off, none⟩) P.length cap, undef, u2, .int .i64 (i : Int), .string X', v, .bool true, .slice (some ⟨b, off, none⟩) P.length cap, .int .i64 (P.length : Int), .bool false, .int .i64 (i : Int), .slice (some ⟨b, off, none⟩) P.length cap, .int .i64 (P.length : Int), .bool true, u14, u15, .tuple #[.string X', v, .bool true], .slice (some ⟨b, off, none⟩) P.length cap, .int .i64 (i : Int), .pointer (some ⟨b, off + i, none⟩), .string X, .tuple #[.string X', v, .bool true], .string X', v, .bool true, (bif b0 then .bool true else u25), (bif b1 then .bool false else u26), (bif b2 then .bool false else u27), (bif b3 then .int .i64 (i : Int) else u28), (bif b4 then .bool true else u29), (bif b5 then .bool true else u30), (bif b6 then .slice (some ⟨b, off, none⟩) P.length cap else u31), (bif b7 then .int .i64 (i : Int) else u32), (bif b8 then .int .i64 ((i - 1 : Nat) : Int) else u33), (bif b9 then .pointer (some ⟨b, off + (i - 1), none⟩) else u34), (bif b10 then .string Z else u35), (bif b11 then .slice (some ⟨b, off, none⟩) P.length cap else u36), (bif b12 then .int .i64 (i : Int) else u37), (bif b13 then .pointer (some ⟨b, off + i, none⟩) else u38), (bif b14 then .string X else u39), (bif b15 then .bool true else u40), (bif b16 then .bool true else u41), (bif b17 then .bool true else u42)], defers := [] } ∧ w' = w2.drew) (by kernel_rfl) ?size ?first ?step ?last
            case size =>
              rintro lf ac w' ⟨b0, b1, b2, b3, b4, b5, b6, b7, b8, b9, b10, b11, b12, b13, b14, b15, b16, b17, rfl, _⟩
              rfl
            case first => exact ⟨false, false, false, false, false, false, false, false, false, false, false, false, false, false, false, false, false, false, rfl, rfl, rfl⟩
            case step =>
              rintro ii lf ac w' ⟨b0, b1, b2, b3, b4, b5, b6, b7, b8, b9, b10, b11, b12, b13, b14, b15, b16, b17, rfl, rfl, rfl⟩ hr
              have hr := mem_ready.1 hr
              rcases ii with _ | _ | _ | _ | _ | _ | _ | _ | _ | _ | _ | _ | _ | _ | _ | _ | _ | _ | ii
              · simp [Region.binds] at hr
                repeat (rcases hr with ⟨hq, hr⟩)
                subst_vars
                refine wpOpIn_step rfl (fun K hK => ?_)
                go_simp
                refine hK _ _ ⟨true, _, _, _, _, _, _, _, _, _, _, _, _, _, _, _, _, _, rfl, rfl, rfl⟩
              · simp [Region.binds] at hr
                repeat (rcases hr with ⟨hq, hr⟩)
                subst_vars
                refine wpOpIn_step rfl (fun K hK => ?_)
                go_simp
                refine hK _ _ ⟨_, true, _, _, _, _, _, _, _, _, _, _, _, _, _, _, _, _, rfl, rfl, rfl⟩
              · simp [Region.binds] at hr
                repeat (rcases hr with ⟨hq, hr⟩)
                subst_vars
                refine wpOpIn_step rfl (fun K hK => ?_)
                go_simp
                refine hK _ _ ⟨_, _, true, _, _, _, _, _, _, _, _, _, _, _, _, _, _, _, rfl, rfl, rfl⟩
              · simp [Region.binds] at hr
                repeat (rcases hr with ⟨hq, hr⟩)
                subst_vars
                refine wpOpIn_step rfl (fun K hK => ?_)
                go_simp
                refine hK _ _ ⟨_, _, _, true, _, _, _, _, _, _, _, _, _, _, _, _, _, _, rfl, rfl, rfl⟩
              · simp [Region.binds] at hr
                repeat (rcases hr with ⟨hq, hr⟩)
                subst_vars
                refine wpOpIn_step rfl (fun K hK => ?_)
                go_simp
                refine hK _ _ ⟨_, _, _, _, true, _, _, _, _, _, _, _, _, _, _, _, _, _, rfl, rfl, rfl⟩
              · simp [Region.binds] at hr
                repeat (rcases hr with ⟨hq, hr⟩)
                subst_vars
                refine wpOpIn_step rfl (fun K hK => ?_)
                go_simp
                refine hK _ _ ⟨_, _, _, _, _, true, _, _, _, _, _, _, _, _, _, _, _, _, rfl, rfl, rfl⟩
              · simp [Region.binds] at hr
                repeat (rcases hr with ⟨hq, hr⟩)
                subst_vars
                refine wpOpIn_step rfl (fun K hK => ?_)
                go_simp
                refine hK _ _ ⟨_, _, _, _, _, _, true, _, _, _, _, _, _, _, _, _, _, _, rfl, rfl, rfl⟩
              · simp [Region.binds] at hr
                repeat (rcases hr with ⟨hq, hr⟩)
                subst_vars
                refine wpOpIn_step rfl (fun K hK => ?_)
                go_simp
                refine hK _ _ ⟨_, _, _, _, _, _, _, true, _, _, _, _, _, _, _, _, _, _, rfl, rfl, rfl⟩
              · simp [Region.binds] at hr
                repeat (rcases hr with ⟨hq, hr⟩)
                subst_vars
                refine wpOpIn_step rfl (fun K hK => ?_)
                go_simp
                refine hK _ _ ⟨_, _, _, _, _, _, _, _, true, _, _, _, _, _, _, _, _, _, rfl, rfl, rfl⟩
              · simp [Region.binds] at hr
                repeat (rcases hr with ⟨hq, hr⟩)
                subst_vars
                refine wpOpIn_step rfl (fun K hK => ?_)
                go_simp
                refine hK _ _ ⟨_, _, _, _, _, _, _, _, _, true, _, _, _, _, _, _, _, _, rfl, rfl, rfl⟩
              · simp [Region.binds] at hr
                repeat (rcases hr with ⟨hq, hr⟩)
                subst_vars
                refine wpOpIn_step rfl (fun K hK => ?_)
                go_simp
                refine hK _ _ ⟨_, _, _, _, _, _, _, _, _, _, true, _, _, _, _, _, _, _, rfl, rfl, rfl⟩
              · simp [Region.binds] at hr
                repeat (rcases hr with ⟨hq, hr⟩)
                subst_vars
                refine wpOpIn_step rfl (fun K hK => ?_)
                go_simp
                refine hK _ _ ⟨_, _, _, _, _, _, _, _, _, _, _, true, _, _, _, _, _, _, rfl, rfl, rfl⟩
              · simp [Region.binds] at hr
                repeat (rcases hr with ⟨hq, hr⟩)
                subst_vars
                refine wpOpIn_step rfl (fun K hK => ?_)
                go_simp
                refine hK _ _ ⟨_, _, _, _, _, _, _, _, _, _, _, _, true, _, _, _, _, _, rfl, rfl, rfl⟩
              · simp [Region.binds] at hr
                repeat (rcases hr with ⟨hq, hr⟩)
                subst_vars
                refine wpOpIn_step rfl (fun K hK => ?_)
                go_simp
                refine hK _ _ ⟨_, _, _, _, _, _, _, _, _, _, _, _, _, true, _, _, _, _, rfl, rfl, rfl⟩
              · simp [Region.binds] at hr
                repeat (rcases hr with ⟨hq, hr⟩)
                subst_vars
                refine wpOpIn_step rfl (fun K hK => ?_)
                go_simp
                refine hK _ _ ⟨_, _, _, _, _, _, _, _, _, _, _, _, _, _, true, _, _, _, rfl, rfl, rfl⟩
              · simp [Region.binds] at hr
                repeat (rcases hr with ⟨hq, hr⟩)
                subst_vars
                refine wpOpIn_step rfl (fun K hK => ?_)
                go_simp
                refine hK _ _ ⟨_, _, _, _, _, _, _, _, _, _, _, _, _, _, _, true, _, _, rfl, rfl, rfl⟩
              · simp [Region.binds] at hr
                repeat (rcases hr with ⟨hq, hr⟩)
                subst_vars
                refine wpOpIn_step rfl (fun K hK => ?_)
                go_simp
                refine hK _ _ ⟨_, _, _, _, _, _, _, _, _, _, _, _, _, _, _, _, true, _, rfl, rfl, rfl⟩
              · simp [Region.binds] at hr
                repeat (rcases hr with ⟨hq, hr⟩)
                subst_vars
                refine wpOpIn_step rfl (fun K hK => ?_)
                go_simp
                refine hK _ _ ⟨_, _, _, _, _, _, _, _, _, _, _, _, _, _, _, _, _, true, rfl, rfl, rfl⟩
              · simp at hr
            case last =>
              rintro ac W4 ⟨f0, f1, f2, f3, f4, f5, f6, f7, f8, f9, f10, f11, f12, f13, f14, f15, f16, f17, hlf, rfl, rfl⟩
              have hlf := congrArg Array.toList hlf
              simp at hlf
              repeat (rcases hlf with ⟨hq, hlf⟩)
              subst_vars
              go_wp2_with fail
              go_ret
              exact ⟨by rw [unhide HR]; rfl, bdrew (unhide B2) 1⟩
          · have HN := hide ((unhide HNX) (by rw [hq]; rfl))
            clear HBD HNX
            go_wp2_with (go_at_call 39; refine ((unhide CPi) _).mono ?_; rintro e w2 ⟨⟨X', v, rfl, _⟩, hb2⟩; have B2 := hide ((unhide HB).trans (hb2.mono (unhide HB).size)); have d1 := (hb2.cell (p := ⟨b, off + i, none⟩) (by show b < _; omega)).trans c1; have d0 := (hb2.cell (p := ⟨b, off + (i - 1), none⟩) (by show b < _; omega)).trans c0; clear hb2)
            clear c1 c0
            refine (wpIn_wide (n := 1)).1 ?_
            refine region_inv hmx (fun lf ac w' => ∃ (b0 b1 b2 b3 b4 b5 b6 b7 b8 b9 b10 b11 b12 b13 b14 b15 b16 b17 : Bool) , lf = #[b0, b1, b2, b3, b4, b5, b6, b7, b8, b9, b10, b11, b12, b13, b14, b15, b16, b17] ∧ ac = { tmps := #[.slice (some ⟨b, off, none⟩) P.length cap, undef, u2, .int .i64 (i : Int), .string X', v, .bool true, .slice (some ⟨b, off, none⟩) P.length cap, .int .i64 (P.length : Int), .bool false, .int .i64 (i : Int), .slice (some ⟨b, off, none⟩) P.length cap, .int .i64 (P.length : Int), .bool true, u14, u15, .tuple #[.string X', v, .bool true], .slice (some ⟨b, off, none⟩) P.length cap, .int .i64 (i : Int), .pointer (some ⟨b, off + i, none⟩), .string X, .tuple #[.string X', v, .bool true], .string X', v, .bool true, (bif b0 then .bool true else u25), (bif b1 then .bool false else u26), (bif b2 then .bool false else u27), (bif b3 then .int .i64 (i : Int) else u28), (bif b4 then .bool true else u29), (bif b5 then .bool true else u30), (bif b6 then .slice (some ⟨b, off, none⟩) P.length cap else u31), (bif b7 then .int .i64 (i : Int) else u32), (bif b8 then .int .i64 ((i - 1 : Nat) : Int) else u33), (bif b9 then .pointer (some ⟨b, off + (i - 1), none⟩) else u34), (bif b10 then .string Z else u35), (bif b11 then .slice (some ⟨b, off, none⟩) P.length cap else u36), (bif b12 then .int .i64 (i : Int) else u37), (bif b13 then .pointer (some ⟨b, off + i, none⟩) else u38), (bif b14 then .string X else u39), (bif b15 then .bool false else u40), (bif b16 then .bool false else u41), (bif b17 then .bool false else u42)], defers := [] } ∧ w' = w2.drew) (by kernel_rfl) ?size ?first ?step ?last
            case size =>
              rintro lf ac w' ⟨b0, b1, b2, b3, b4, b5, b6, b7, b8, b9, b10, b11, b12, b13, b14, b15, b16, b17, rfl, _⟩
              rfl
            case first => exact ⟨false, false, false, false, false, false, false, false, false, false, false, false, false, false, false, false, false, false, rfl, rfl, rfl⟩
            case step =>
              rintro ii lf ac w' ⟨b0, b1, b2, b3, b4, b5, b6, b7, b8, b9, b10, b11, b12, b13, b14, b15, b16, b17, rfl, rfl, rfl⟩ hr
              have hr := mem_ready.1 hr
              rcases ii with _ | _ | _ | _ | _ | _ | _ | _ | _ | _ | _ | _ | _ | _ | _ | _ | _ | _ | ii
              · simp [Region.binds] at hr
                repeat (rcases hr with ⟨hq, hr⟩)
                subst_vars
                refine wpOpIn_step rfl (fun K hK => ?_)
                go_simp
                refine hK _ _ ⟨true, _, _, _, _, _, _, _, _, _, _, _, _, _, _, _, _, _, rfl, rfl, rfl⟩
              · simp [Region.binds] at hr
                repeat (rcases hr with ⟨hq, hr⟩)
                subst_vars
                refine wpOpIn_step rfl (fun K hK => ?_)
                go_simp
                refine hK _ _ ⟨_, true, _, _, _, _, _, _, _, _, _, _, _, _, _, _, _, _, rfl, rfl, rfl⟩
              · simp [Region.binds] at hr
                repeat (rcases hr with ⟨hq, hr⟩)
                subst_vars
                refine wpOpIn_step rfl (fun K hK => ?_)
                go_simp
                refine hK _ _ ⟨_, _, true, _, _, _, _, _, _, _, _, _, _, _, _, _, _, _, rfl, rfl, rfl⟩
              · simp [Region.binds] at hr
                repeat (rcases hr with ⟨hq, hr⟩)
                subst_vars
                refine wpOpIn_step rfl (fun K hK => ?_)
                go_simp
                refine hK _ _ ⟨_, _, _, true, _, _, _, _, _, _, _, _, _, _, _, _, _, _, rfl, rfl, rfl⟩
              · simp [Region.binds] at hr
                repeat (rcases hr with ⟨hq, hr⟩)
                subst_vars
                refine wpOpIn_step rfl (fun K hK => ?_)
                go_simp
                refine hK _ _ ⟨_, _, _, _, true, _, _, _, _, _, _, _, _, _, _, _, _, _, rfl, rfl, rfl⟩
              · simp [Region.binds] at hr
                repeat (rcases hr with ⟨hq, hr⟩)
                subst_vars
                refine wpOpIn_step rfl (fun K hK => ?_)
                go_simp
                refine hK _ _ ⟨_, _, _, _, _, true, _, _, _, _, _, _, _, _, _, _, _, _, rfl, rfl, rfl⟩
              · simp [Region.binds] at hr
                repeat (rcases hr with ⟨hq, hr⟩)
                subst_vars
                refine wpOpIn_step rfl (fun K hK => ?_)
                go_simp
                refine hK _ _ ⟨_, _, _, _, _, _, true, _, _, _, _, _, _, _, _, _, _, _, rfl, rfl, rfl⟩
              · simp [Region.binds] at hr
                repeat (rcases hr with ⟨hq, hr⟩)
                subst_vars
                refine wpOpIn_step rfl (fun K hK => ?_)
                go_simp
                refine hK _ _ ⟨_, _, _, _, _, _, _, true, _, _, _, _, _, _, _, _, _, _, rfl, rfl, rfl⟩
              · simp [Region.binds] at hr
                repeat (rcases hr with ⟨hq, hr⟩)
                subst_vars
                refine wpOpIn_step rfl (fun K hK => ?_)
                go_simp
                refine hK _ _ ⟨_, _, _, _, _, _, _, _, true, _, _, _, _, _, _, _, _, _, rfl, rfl, rfl⟩
              · simp [Region.binds] at hr
                repeat (rcases hr with ⟨hq, hr⟩)
                subst_vars
                refine wpOpIn_step rfl (fun K hK => ?_)
                go_simp
                refine hK _ _ ⟨_, _, _, _, _, _, _, _, _, true, _, _, _, _, _, _, _, _, rfl, rfl, rfl⟩
              · simp [Region.binds] at hr
                repeat (rcases hr with ⟨hq, hr⟩)
                subst_vars
                refine wpOpIn_step rfl (fun K hK => ?_)
                go_simp
                refine hK _ _ ⟨_, _, _, _, _, _, _, _, _, _, true, _, _, _, _, _, _, _, rfl, rfl, rfl⟩
              · simp [Region.binds] at hr
                repeat (rcases hr with ⟨hq, hr⟩)
                subst_vars
                refine wpOpIn_step rfl (fun K hK => ?_)
                go_simp
                refine hK _ _ ⟨_, _, _, _, _, _, _, _, _, _, _, true, _, _, _, _, _, _, rfl, rfl, rfl⟩
              · simp [Region.binds] at hr
                repeat (rcases hr with ⟨hq, hr⟩)
                subst_vars
                refine wpOpIn_step rfl (fun K hK => ?_)
                go_simp
                refine hK _ _ ⟨_, _, _, _, _, _, _, _, _, _, _, _, true, _, _, _, _, _, rfl, rfl, rfl⟩
              · simp [Region.binds] at hr
                repeat (rcases hr with ⟨hq, hr⟩)
                subst_vars
                refine wpOpIn_step rfl (fun K hK => ?_)
                go_simp
                refine hK _ _ ⟨_, _, _, _, _, _, _, _, _, _, _, _, _, true, _, _, _, _, rfl, rfl, rfl⟩
              · simp [Region.binds] at hr
                repeat (rcases hr with ⟨hq, hr⟩)
                subst_vars
                refine wpOpIn_step rfl (fun K hK => ?_)
                go_simp
                refine hK _ _ ⟨_, _, _, _, _, _, _, _, _, _, _, _, _, _, true, _, _, _, rfl, rfl, rfl⟩
              · simp [Region.binds] at hr
                repeat (rcases hr with ⟨hq, hr⟩)
                subst_vars
                refine wpOpIn_step rfl (fun K hK => ?_)
                go_simp
                refine hK _ _ ⟨_, _, _, _, _, _, _, _, _, _, _, _, _, _, _, true, _, _, rfl, rfl, rfl⟩
              · simp [Region.binds] at hr
                repeat (rcases hr with ⟨hq, hr⟩)
                subst_vars
                refine wpOpIn_step rfl (fun K hK => ?_)
                go_simp
                refine hK _ _ ⟨_, _, _, _, _, _, _, _, _, _, _, _, _, _, _, _, true, _, rfl, rfl, rfl⟩
              · simp [Region.binds] at hr
                repeat (rcases hr with ⟨hq, hr⟩)
                subst_vars
                refine wpOpIn_step rfl (fun K hK => ?_)
                go_simp
                refine hK _ _ ⟨_, _, _, _, _, _, _, _, _, _, _, _, _, _, _, _, _, true, rfl, rfl, rfl⟩
              · simp at hr
            case last =>
              rintro ac W4 ⟨f0, f1, f2, f3, f4, f5, f6, f7, f8, f9, f10, f11, f12, f13, f14, f15, f16, f17, hlf, rfl, rfl⟩
              have hlf := congrArg Array.toList hlf
              simp at hlf
              repeat (rcases hlf with ⟨hq, hlf⟩)
              subst_vars
              go_wp2_with fail
              go_round
              case rel => exact ⟨i + 1, by omega, by go_num, HN, hide (bdrew (unhide B2) 1)⟩
              case measure => simp [intOf]; omega
    · obtain rfl : i = P.length := by omega
      have HR : Hid (pf P = 0) := hide (by rw [unhide HPF, unhide HG]; rfl)
      go_wp2_with fail
      go_ret
      exact ⟨by rw [unhide HR]; rfl, unhide HB⟩
theorem faultS (v : Value) (P : List ByteArray) (w : World) (hv : StrsAt w v P) (hz : ∀ i, i < P.length → (nthS P i).size ≤ 1048576) (hl : P.length ≤ 1048576) :
    Calls Tryz.prog 23 #[v] w fun e w' => e = .returned (.int .i64 (pf P)) ∧ Below w.heap.size w w' := by
  by_cases hP : 1000 < P.length
  · have hgt : (1000 : Int) < (P.length : Int) := by omega
    have HR : Hid (pf P = 1) := hide (by unfold pf; rw [if_pos hP])
    obtain ⟨a, cap, rfl, _⟩ := hv
    go_enter Tryz.func23, Tryz.ntmps23
    go_wp2
    go_ret
    exact ⟨by rw [unhide HR]; rfl, Below.refl _ _⟩
  · obtain ⟨a, cap, rfl, h | ⟨b, off, rfl, hb, hc⟩⟩ := hv
    · subst h
      have HR : Hid (pf [] = 0) := hide rfl
      go_enter Tryz.func23, Tryz.ntmps23
      go_wp2
      refine wp_loop_rounds 1 ?_
      rw [rounds_succ]
      go_wp2
      go_ret
      exact ⟨by rw [unhide HR]; rfl, Below.refl _ _⟩
    · exact faultS_at b off cap P w hb hc hz (by omega)
end Hyp
end Go.Proofs.YtcdhaikmedicfaaGreatDoor
/- A tree of patterns, as the program makes it; whether they are right. -/
namespace Go.Proofs.YtcdhaikmedicfaaGreatDoor
namespace Hyp
open Go.RowKit
set_option linter.unusedVariables false
set_option linter.unusedSimpArgs false
theorem tr_root (w : World) : Tr w.heap.size (w.alloc (.cells zN 65)) (fun p => if p = [] then some (w.heap.size, none) else none) := by
  refine ⟨fun p k c => ?_, fun p x c => ?_, fun p b g L c => ?_, fun p q x y c1 c2 _ => ?_, fun p q b b' g L L' c1 c2 => ?_⟩
  · rw [if_neg (by simp)] at c
    exact absurd rfl c
  · by_cases e : p = []
    · rw [if_pos e] at c
      obtain rfl := Option.some.inj c
      refine ⟨Nat.le_refl _, (zN_new w).val fun k hk => ?_⟩
      unfold chV
      simp only [List.append_eq_nil_iff, List.cons_ne_self, and_false, if_false, reduceCtorEq, Option.map_none]
    · rw [if_neg e] at c
      cases c
  · by_cases e : p = []
    · rw [if_pos e] at c
      injection c with c
      injection c with _ c
      cases c
    · rw [if_neg e] at c
      cases c
  · have f : ∀ (q : List Nat) (z : Nd), (if q = [] then some ((w.heap.size, none) : Nd) else none) = some z → q = [] := fun q z c => by
      by_cases e : q = []
      · exact e
      · rw [if_neg e] at c; cases c
    rw [f p x c1, f q y c2]
  · have f : ∀ (q : List Nat) (z : Nd), (if q = [] then some ((w.heap.size, none) : Nd) else none) = some z → q = [] := fun q z c => by
      by_cases e : q = []
      · exact e
      · rw [if_neg e] at c; cases c
    rw [f p _ c1, f q _ c2]
theorem own_cells {w : World} {B h n c : Nat} {L : List Int} (ho : w.ownsRow B 5 1 (.slice (some ⟨h, 0, none⟩) n c) n (u8s L)) (j : Nat) (hj : j < L.length) : w.cell? ⟨h, 0 + j, none⟩ = some (.int .u8 (L.getD j 0)) := by
  have h1 : (u8s L).length = L.length := by simp [u8s]
  have h2 : (u8s L).length = n := by simpa using ho.1
  have := ho.cellAt j (by omega)
  rw [Nat.zero_add, this]
  simp [u8s, List.getD_eq_getElem?_getD, hj]
/-- The digits of the first i patterns, by their letters. -/
def dgs (P : List ByteArray) : Nat → List Nat → Option (List Int)
  | 0 => fun _ => none
  | i + 1 => match pat (nthS P i) with
    | some s => put (dgs P i) (s.L.map kd) (s.D ++ [s.d])
    | none => dgs P i
theorem dgs_next {P : List ByteArray} {i : Nat} {s : St} (h : pat (nthS P i) = some s) : dgs P (i + 1) = put (dgs P i) (s.L.map kd) (s.D ++ [s.d]) := by
  rw [dgs, h]
theorem dgs_root (b : Nat) : dgA (fun p => if p = [] then some ((b, none) : Nd) else none) = fun _ => none := by
  funext q
  unfold dgA
  by_cases e : q = []
  · simp [e]
  · simp [e]
set_option maxRecDepth 100000 in
set_option maxHeartbeats 1000000 in
theorem treeI_at (b off cap : Nat) (P : List ByteArray) (w : World) (hb : b < w.heap.size) (hc : ∀ i, i < P.length → w.cell? ⟨b, off + i, none⟩ = some (.string (nthS P i))) (hz : ∀ i, i < P.length → (nthS P i).size ≤ 1048576) (hP : P.length ≤ 1000) :
    Calls Tryz.prog 18 #[.slice (some ⟨b, off, none⟩) P.length cap] w fun e w' => (∃ p, e = .returned (.tuple #[.pointer p, .bool (gd P P.length)]) ∧ (gd P P.length = true → ∃ b0 A d, p = some ⟨b0, 0, none⟩ ∧ Tr w.heap.size w' A ∧ A [] = some (b0, d) ∧ dgA A = dgs P P.length)) ∧ Below w.heap.size w w' := by
  have hPI : ¬ (1000 : Int) < (P.length : Int) := by omega
  have HC := hide hc
  have CP := hide (fun i (hi : i < P.length) W => patI (nthS P i) (hz i hi) W)
  have HBAD := hide (fun k (hk : k < P.length) => gd_bad (P := P) hk)
  clear hc hz
  have NO : Hid (∀ W, gd P P.length = false → Below w.heap.size w W → (∃ p, Ending.returned (.tuple #[.pointer none, .bool false]) = .returned (.tuple #[.pointer p, .bool (gd P P.length)]) ∧ (gd P P.length = true → ∃ b0 A d, p = some ⟨b0, 0, none⟩ ∧ Tr w.heap.size W A ∧ A [] = some (b0, d) ∧ dgA A = dgs P P.length)) ∧ Below w.heap.size w W) := hide (fun W h hb => ⟨⟨none, by rw [h], fun h2 => by rw [h] at h2; cases h2⟩, hb⟩)
  have T0 := hide (tr_root w)
  have B0 : Hid (Below w.heap.size w (w.alloc (.cells zN 65))) := hide ((Below.refl _ _).alloc (Nat.le_refl _) _)
  unfold zN at T0 B0
  go_enter Tryz.func18, Tryz.ntmps18
  go_wp2_with fail
  go_loopw [2, 15] (fun v2 v15 wr => ∃ (i : Nat) (A : Mp) (d : Option (Nat × List Int)), i ≤ P.length ∧ v2 = .pointer (some ⟨w.heap.size, 0, none⟩) ∧ v15 = .int .i64 (i : Int) ∧ Hid (gd P i = true) ∧ Hid (Tr w.heap.size wr A) ∧ Hid (A [] = some (w.heap.size, d)) ∧ Hid (Below w.heap.size w wr) ∧ Hid (dgA A = dgs P i)) (fun _ x _ => P.length - (intOf x).toNat)
  case atStart => exact ⟨0, _, none, by omega, rfl, rfl, hide rfl, T0, hide (if_pos rfl), B0, hide (dgs_root _)⟩
  case round =>
    obtain ⟨i, A, d, hi, rfl, rfl, HG, HT, HA, HB, HDG⟩ := hrel
    by_cases hlt : i < P.length
    · have hI : (i : Int) < (P.length : Int) := by omega
      have c1 := ((unhide HB).cell (p := ⟨b, off + i, none⟩) hb).trans ((unhide HC) i hlt)
      have CPi := hide (fun W => (unhide CP) i hlt W)
      have hbz := (unhide HB).size
      have HNX := hide (fun h => gd_next (P := P) (unhide HG) h)
      have HBD := hide ((unhide HBAD) i hlt)
      have HC0 := hide (fun (h0 : i ≠ 0) => ((unhide HB).cell (p := ⟨b, off + (i - 1), none⟩) hb).trans ((unhide HC) (i - 1) (by omega)))
      have HDN := hide (fun (s : St) (h : pat (nthS P i) = some s) => (dgs_next h).trans (by rw [← unhide HDG]))
      generalize hX : nthS P i = X at *
      go_upto_region 8 with (go_at_call 35; refine ((unhide CPi) _).mono ?_; rintro e w2 ⟨⟨Xs, va, vn, vc, rfl, hpt⟩, hb2⟩; have B2 := hide hb2; have PT := hide hpt; clear hb2 hpt)
      obtain ⟨w3, hw3⟩ : ∃ w3, w3 = w2.alloc (.cells #[.string Xs, .slice va vn vc] 67) := ⟨_, rfl⟩
      have P3 : Hid (PBox w3 w2.heap.size Xs (.slice va vn vc)) := hide (by rw [hw3]; exact heap_alloc_new _ _)
      have b23 : Below w2.heap.size w2 w3 := by rw [hw3]; exact (Below.refl _ _).alloc (Nat.le_refl _) _
      have brs := (unhide B2).size
      have br3 : Hid (Below wr.heap.size wr w3) := hide ((unhide B2).trans (b23.mono brs))
      have bw3 : Hid (Below w.heap.size w w3) := hide ((unhide HB).trans ((unhide br3).mono hbz))
      have T3 := hide ((unhide HT).below (unhide br3))
      try rw [← hw3]
      clear hw3
      obtain ⟨g0, g1, gf⟩ := (unhide P3).cells
      cases hr : right X
      · have HR : Hid (gd P P.length = false) := hide ((unhide HBD) (by rw [hr]; rfl))
        clear HBD HNX
        go_wp2_with fail
        go_ret2
        exact (unhide NO) _ (unhide HR) (unhide bw3)
      · by_cases h0 : i = 0
        · have h0I : ¬ (0 : Int) < (i : Int) := by omega
          have h0d : decide (0 < i) = false := by simp; omega
          have HN := hide ((unhide HNX) (by rw [h0, hr]; rfl))
          clear HBD HNX h0 HC0
          obtain ⟨s, hs⟩ : ∃ s, pat X = some s := Option.isSome_iff_exists.1 (show (pat X).isSome = true from hr)
          have HPS := hs
          obtain ⟨hXs, ho⟩ := (unhide PT) hr s hs
          obtain ⟨hpr, hok⟩ := pat_pr hs
          have o := pr_ok hpr
          obtain ⟨a9, c9, e9, hb9⟩ := row_frm ho
          injection e9 with e9 e10 e11
          obtain ⟨h, eh, hBh⟩ := hb9 (by omega)
          subst e9
          subst eh
          subst e10
          subst e11
          subst hXs
          have hDl : (s.D ++ [s.d]).length = s.L.length + 1 := by simp [o.len]
          have hDn : (s.D ++ [s.d]).length = s.D.length + 1 := by simp
          have hhl : h < w2.heap.size := (ho.lt h rfl).2
          have hL20 : s.L.length ≤ 20 := by
            unfold okP at hok
            simp only [Bool.and_eq_true, decide_eq_true_eq] at hok
            exact hok.2.2.1
          have hNb : Nb A h := fun p y e => by
            have hl1 := ((unhide HT).node p y e).2.lt
            refine ⟨by omega, fun g L e2 => ?_⟩
            obtain ⟨yb, yd⟩ := y
            simp only at e2
            subst e2
            have := (unhide HT).dlt e
            omega
          have CA := hide (addH A w.heap.size w.heap.size d w3 (unhide T3) (unhide HA) (by have := (unhide bw3).size; omega) s.L (s.D ++ [s.d]) o.lt hDl hL20 h vc (by have := b23.size; omega) (fun j hj => (b23.cell (p := ⟨h, 0 + j, none⟩) hhl).trans (own_cells ho j hj)) hNb (by omega))
          rw [hDn] at CA
          have HN2 := HN
          clear ho hpr hok o hDl hDn hNb PT hs
          go_wp2_with (go_at_call 36; refine (unhide CA).mono ?_; rintro e w4 ⟨⟨v, rfl⟩, ⟨A', d', hT', hA', hD'⟩, hb4⟩)
          go_round
          case rel => exact ⟨i + 1, A', d', by omega, rfl, by go_num, HN2, hide hT', hide hA', hide ((unhide bw3).trans hb4), hide (hD'.trans ((unhide HDN) s HPS).symm)⟩
          case measure => simp [intOf]; omega
        · have h0I : (0 : Int) < (i : Int) := by omega
          have h0d : decide (0 < i) = true := by simp; omega
          have h0b : (i == 0) = false := by simpa using h0
          have hm1 : (i : Int) - 1 = ((i - 1 : Nat) : Int) := by omega
          have hm2 : ((i - 1 : Nat) : Int) < (P.length : Int) := by omega
          have hwi : IntKind.i64.wrap ((i - 1 : Nat) : Int) = ((i - 1 : Nat) : Int) := by simp [IntKind.wrap, IntKind.bits, IntKind.signed]; omega
          have d0 := ((unhide br3).cell (p := ⟨b, off + (i - 1), none⟩) (by show b < _; omega)).trans ((unhide HC0) h0)
          rw [h0b, hr] at HNX HBD
          clear HC0
          generalize nthS P (i - 1) = Z at *
          cases hq : Op.bytesLess Z.toList X.toList
          · have HR : Hid (gd P P.length = false) := hide ((unhide HBD) (by rw [hq]; rfl))
            clear HBD HNX
            go_wp2_with fail
            go_ret2
            exact (unhide NO) _ (unhide HR) (unhide bw3)
          · have HN := hide ((unhide HNX) (by rw [hq]; rfl))
            clear HBD HNX
            obtain ⟨s, hs⟩ : ∃ s, pat X = some s := Option.isSome_iff_exists.1 (show (pat X).isSome = true from hr)
            have HPS := hs
            obtain ⟨hXs, ho⟩ := (unhide PT) hr s hs
            obtain ⟨hpr, hok⟩ := pat_pr hs
            have o := pr_ok hpr
            obtain ⟨a9, c9, e9, hb9⟩ := row_frm ho
            injection e9 with e9 e10 e11
            obtain ⟨h, eh, hBh⟩ := hb9 (by omega)
            subst e9
            subst eh
            subst e10
            subst e11
            subst hXs
            have hDl : (s.D ++ [s.d]).length = s.L.length + 1 := by simp [o.len]
            have hDn : (s.D ++ [s.d]).length = s.D.length + 1 := by simp
            have hhl : h < w2.heap.size := (ho.lt h rfl).2
            have hL20 : s.L.length ≤ 20 := by
              unfold okP at hok
              simp only [Bool.and_eq_true, decide_eq_true_eq] at hok
              exact hok.2.2.1
            have hNb : Nb A h := fun p y e => by
              have hl1 := ((unhide HT).node p y e).2.lt
              refine ⟨by omega, fun g L e2 => ?_⟩
              obtain ⟨yb, yd⟩ := y
              simp only at e2
              subst e2
              have := (unhide HT).dlt e
              omega
            have CA := hide (addH A w.heap.size w.heap.size d w3 (unhide T3) (unhide HA) (by have := (unhide bw3).size; omega) s.L (s.D ++ [s.d]) o.lt hDl hL20 h vc (by have := b23.size; omega) (fun j hj => (b23.cell (p := ⟨h, 0 + j, none⟩) hhl).trans (own_cells ho j hj)) hNb (by omega))
            rw [hDn] at CA
            have HN2 := HN
            clear ho hpr hok o hDl hDn hNb PT hs
            go_wp2_with (go_at_call 36; refine (unhide CA).mono ?_; rintro e w4 ⟨⟨v, rfl⟩, ⟨A', d', hT', hA', hD'⟩, hb4⟩)
            go_round
            case rel => exact ⟨i + 1, A', d', by omega, rfl, by go_num, HN2, hide hT', hide hA', hide ((unhide bw3).trans hb4), hide (hD'.trans ((unhide HDN) s HPS).symm)⟩
            case measure => simp [intOf]; omega
    · obtain rfl : i = P.length := by omega
      have HR : Hid (gd P P.length = true) := hide (unhide HG)
      go_wp2_with fail
      go_ret2
      exact ⟨⟨some ⟨w.heap.size, 0, none⟩, by rw [unhide HR]; rfl, fun _ => ⟨_, A, d, rfl, unhide HT, unhide HA, unhide HDG⟩⟩, unhide HB⟩
theorem treeI (v : Value) (P : List ByteArray) (w : World) (hv : StrsAt w v P) (hz : ∀ i, i < P.length → (nthS P i).size ≤ 1048576) (hl : P.length ≤ 1048576) :
    Calls Tryz.prog 18 #[v] w fun e w' => (∃ p, e = .returned (.tuple #[.pointer p, .bool (pf P == 0)]) ∧ (pf P = 0 → ∃ b0 A d, p = some ⟨b0, 0, none⟩ ∧ Tr w.heap.size w' A ∧ A [] = some (b0, d) ∧ dgA A = dgs P P.length)) ∧ Below w.heap.size w w' := by
  by_cases hP : 1000 < P.length
  · have hgt : (1000 : Int) < (P.length : Int) := by omega
    have HR : Hid (pf P = 1) := hide (by unfold pf; rw [if_pos hP])
    obtain ⟨a, cap, rfl, _⟩ := hv
    go_enter Tryz.func18, Tryz.ntmps18
    go_wp2
    go_ret2
    exact ⟨⟨none, by rw [unhide HR]; rfl, fun h => by rw [unhide HR] at h; cases h⟩, Below.refl _ _⟩
  · have hpf : pf P = if gd P P.length = true then 0 else 1 := by unfold pf; rw [if_neg hP]
    obtain ⟨a, cap, rfl, h | ⟨b, off, rfl, hb, hc⟩⟩ := hv
    · subst h
      have HR : Hid (pf [] = 0) := hide rfl
      have T0 := hide (tr_root w)
      unfold zN at T0
      go_enter Tryz.func18, Tryz.ntmps18
      go_wp2
      refine wp_loop_rounds 1 ?_
      rw [rounds_succ]
      go_wp2
      go_ret2
      exact ⟨⟨some ⟨w.heap.size, 0, none⟩, by rw [unhide HR]; rfl, fun _ => ⟨_, _, none, rfl, unhide T0, if_pos rfl, dgs_root _⟩⟩, (Below.refl _ _).alloc (Nat.le_refl _) _⟩
    · refine (treeI_at b off cap P w hb hc hz (by omega)).mono ?_
      rintro e w' ⟨⟨p, rfl, h2⟩, hb2⟩
      rw [hpf]
      cases h : gd P P.length
      · exact ⟨⟨p, by rfl, fun c => by simp at c⟩, hb2⟩
      · exact ⟨⟨p, by rfl, fun _ => h2 h⟩, hb2⟩
end Hyp
end Go.Proofs.YtcdhaikmedicfaaGreatDoor
/- The digits of a text, by the tree: what the rounds do. -/
namespace Go.Proofs.YtcdhaikmedicfaaGreatDoor
namespace Hyp
open Go.RowKit
set_option linter.unusedVariables false
set_option linter.unusedSimpArgs false
/-- The path of n letters from a place on. -/
def pth (t : ByteArray) (a : Nat) : Nat → List Nat
  | 0 => []
  | n + 1 => pth t a n ++ [kd (bt t (a + n) : Int)]
def rr (D : List Nat → Option (List Int)) (t : ByteArray) (a : Nat) (R : List Int) : Nat → List Int
  | 0 => R
  | n + 1 => match D (pth t a (n + 1)) with
    | some L => rsk (rr D t a R n) a L L.length
    | none => rr D t a R n
def aa (D : List Nat → Option (List Int)) (t : ByteArray) : Nat → List Int
  | 0 => List.replicate (t.size + 1) 0
  | a + 1 => rr D t a (aa D t a) (t.size - a)
theorem rr_len (D : List Nat → Option (List Int)) (t : ByteArray) (a : Nat) (R : List Int) (n : Nat) : (rr D t a R n).length = R.length := by
  induction n with
  | zero => rfl
  | succ n ih =>
    rw [rr]
    split
    · rw [rsk_len, ih]
    · exact ih
theorem aa_len (D : List Nat → Option (List Int)) (t : ByteArray) (a : Nat) : (aa D t a).length = t.size + 1 := by
  induction a with
  | zero => simp [aa]
  | succ a ih => rw [aa, rr_len, ih]
theorem pth_len (t : ByteArray) (a n : Nat) : (pth t a n).length = n := by
  induction n with
  | zero => rfl
  | succ n ih => simp [pth, ih]
theorem up_all {B : Nat} {w : World} {A : Mp} (h : Tr B w A) (t : ByteArray) (a n : Nat) (h0 : A (pth t a n) = none) : ∀ k, A (pth t a (n + k)) = none
  | 0 => h0
  | k + 1 => by
    by_cases c : A (pth t a (n + (k + 1))) = none
    · exact c
    · exact absurd (up_all h t a n h0 k) (h.up _ _ c)
theorem rr_stop {B : Nat} {w : World} {A : Mp} (h : Tr B w A) (t : ByteArray) (a n : Nat) (R : List Int) (h0 : A (pth t a (n + 1)) = none) : ∀ k, rr (dgA A) t a R (n + k) = rr (dgA A) t a R n
  | 0 => rfl
  | k + 1 => by
    have := up_all h t a (n + 1) h0 k
    rw [show n + 1 + k = n + k + 1 by omega] at this
    have e : dgA A (pth t a (n + k + 1)) = none := by unfold dgA; rw [this]; rfl
    rw [← Nat.add_assoc, rr, e]
    exact rr_stop h t a n R h0 k
theorem cut_byte (t : ByteArray) (a i : Nat) (h : a + i < t.size) : ((t.extract a t.size).data.toList.getD i 0).toNat = bt t (a + i) := by
  have h2 : i < (t.extract a t.size).data.toList.length := by
    rw [Array.length_toList]
    show i < (t.extract a t.size).size
    rw [ByteArray.size_extract]
    omega
  have e : ∀ (s : ByteArray) (j : Nat) (hj : j < s.size), s.get! j = s.data.toList.getD j 0 := fun s j hj => by
    obtain ⟨⟨l⟩⟩ := s
    show (⟨l⟩ : Array UInt8)[j]! = l.getD j 0
    have hj2 : j < l.length := hj
    simp [List.getD_eq_getElem?_getD, hj2]
  unfold bt
  rw [e t (a + i) h]
  congr 1
  rw [ByteArray.data_extract]
  have h3 : a + i < t.data.size := h
  simp [List.getD_eq_getElem?_getD, List.getElem?_take, List.getElem?_drop, show i < t.size - a by omega, Array.getElem?_eq_getElem h3]
end Hyp
end Go.Proofs.YtcdhaikmedicfaaGreatDoor
/- The digits of a text, by the tree. -/
namespace Go.Proofs.YtcdhaikmedicfaaGreatDoor
namespace Hyp
open Go.RowKit
set_option linter.unusedVariables false
set_option linter.unusedSimpArgs false
set_option maxRecDepth 100000 in
set_option maxHeartbeats 1500000 in
theorem raiseN (g off n cap : Nat) (w : World) : Calls Tryz.prog 55 #[.slice (some ⟨g, off, none⟩) n cap, .slice none 0 0] w fun e w' => (∃ v, e = .returned v) ∧ w' = w := by
  go_enter Tryz.func55, Tryz.ntmps55
  go_wp2_with fail
  refine wp_loop_rounds 1 ?_
  rw [rounds_succ]
  go_wp2_with fail
  refine bodyPost_end (v := .tuple #[]) (by simp [results, Tryz.f55, go_sem]; try rfl) rfl ⟨⟨_, rfl⟩, rfl⟩
set_option maxRecDepth 100000 in
set_option maxHeartbeats 8000000 in
theorem digitsI (A : Mp) (B b0 : Nat) (d0 : Option (Nat × List Int)) (t : ByteArray) (w : World) (hT : Tr B w A) (h0 : A [] = some (b0, d0)) (hB : B ≤ w.heap.size) (hl : ∀ i, i < t.size → ltr (bt t i : Int)) (hz : t.size ≤ 70000) :
    Calls Tryz.prog 38 #[.pointer (some ⟨b0, 0, none⟩), .string t] w fun e w' => (∃ g c, e = .returned (.slice (some ⟨g, 0, none⟩) (t.size + 1) c) ∧ w'.heap[g]? = some (.cells (u8s (aa (dgA A) t t.size)).toArray 5 (0, 0)) ∧ w.heap.size ≤ g) ∧ Below w.heap.size w w' := by
  obtain ⟨i0, hi, hz0, hz1, hz2⟩ := info_parts info5h
  have hmx := mixedA
  have HT := hide hT
  have HL := hide hl
  have H0 := hide h0
  clear hT hl h0
  go_enter Tryz.func38, Tryz.ntmps38
  go_wp2_with (at_make; refine wpList_make_full _ rfl _ _ 22 rfl w.heap.size 5 i0 (.int .u8 0) 1 Tryz.underlying22 hi hz0 hz1 .i64 .i64 _ _ (t.size + 1) rfl rfl rfl rfl (by first | (rw [hz2]; omega) | (unfold maxLen; omega) | omega) (by first | (rw [hz2]; omega) | (unfold maxLen; omega) | omega) (by first | (rw [hz2]; omega) | (unfold maxLen; omega) | omega) ?_)
  intro w5 hown hgrow
  have hrow := (own_full hown).2
  rw [made8] at hrow
  have hbm : Below w.heap.size w w5 := ⟨hgrow.os, hgrow.tape, hgrow.output, hgrow.size, fun k hk => hgrow.block k hk (fun c => by cases c)⟩
  have R5 : Hid (w5.heap[w.heap.size]? = some (.cells (u8s (aa (dgA A) t 0)).toArray 5 (0, 0))) := hide hrow
  have B5 := hide hbm
  generalize hg : w.heap.size = g at R5 B5
  have GW : Hid (w.heap.size = g) := hide hg
  clear hown hgrow hrow hbm i0 hi hz0 hz1 hz2
  go_wp2_with fail
  have hBg : B ≤ g := by omega
  clear hg
  go_loopw [16] (fun v16 wr => ∃ a : Nat, a ≤ t.size ∧ v16 = .int .i64 (a : Int) ∧ Hid (wr.heap[g]? = some (.cells (u8s (aa (dgA A) t a)).toArray 5 (0, 0))) ∧ Hid (Below g w wr)) (fun x _ => t.size - (intOf x).toNat)
  case atStart => exact ⟨0, by omega, rfl, R5, B5⟩
  case round =>
    obtain ⟨a, ha, rfl, HR, HB⟩ := hrel
    by_cases hlt : a < t.size
    · have hI : (a : Int) < (t.size : Int) := by omega
      have hxz : (t.extract a t.size).size = t.size - a := by rw [ByteArray.size_extract]; omega
      have HX : Hid (∀ i, i < t.size - a → (((t.extract a t.size).data.toList.getD i 0).toNat : Int) = (bt t (a + i) : Int)) := hide (fun i hi => by rw [cut_byte t a i (by omega)])
      have hcv : ∀ W : World, (convert 9 22 (.string (t.extract a t.size))).run Tryz.prog W = .ok (.slice (some ⟨W.heap.size, 0, none⟩) (t.extract a t.size).size (grownCap W (t.extract a t.size).size 0 5)) (Lib.bytesWorld W 5 (t.extract a t.size)) := fun W => Lib.run_convert_string_bytes W 9 22 5 (t.extract a t.size) Tryz.underlying9 Tryz.underlying22 Tryz.underlying5
      go_wp2_with fail
      generalize t.extract a t.size = x at *
      obtain ⟨m, hm⟩ : ∃ m, t.size - a = m := ⟨_, rfl⟩
      have HM : Hid (t.size = a + m) := hide (by omega)
      have hmb : m ≤ 70000 := by omega
      rw [hm] at hxz HX
      rw [hm] at *
      obtain ⟨w2, hw2⟩ : ∃ w2, w2 = Lib.bytesWorld wr 5 x := ⟨_, rfl⟩
      rw [← hw2]
      have b2 : Below wr.heap.size wr w2 := by rw [hw2]; exact bwA _ _ _
      have hgw := (unhide HB).size
      have GWn := unhide GW
      have hgl : g < wr.heap.size := lt_of_block (unhide HR)
      have HC : Hid (∀ i, i < m → w2.cell? ⟨wr.heap.size, i, none⟩ = some (.int .u8 (bt t (a + i) : Int))) := hide (fun i hi => by
        rw [hw2, Lib.bytesWorld_cell wr 5 x i (by omega), (unhide HX) i hi])
      have R2 : Hid (w2.heap[g]? = some (.cells (u8s (rr (dgA A) t a (aa (dgA A) t a) 0)).toArray 5 (0, 0))) := hide ((b2.block g hgl).trans (unhide HR))
      have B2 : Hid (Below g w w2) := hide ((unhide HB).trans (b2.mono (by omega)))
      have hbl : wr.heap.size < w2.heap.size := by rw [hw2, Lib.bytesWorld_size]; omega
      generalize grownCap wr m 0 5 = cp
      generalize hq : wr.heap.size = q at *
      have hqw : q < w2.heap.size := hbl
      clear hw2 hcv b2 HX hq hbl HB HR hxz
      go_loopw [7, 25] (fun v7 v25 W => ∃ (n : Nat) (y : Nd), n ≤ m ∧ v25 = .int .i64 (n : Int) ∧ v7 = .pointer (some ⟨y.1, 0, none⟩) ∧ Hid (A (pth t a n) = some y) ∧ Hid (W.heap[g]? = some (.cells (u8s (rr (dgA A) t a (aa (dgA A) t a) n)).toArray 5 (0, 0))) ∧ Hid (Below g w W) ∧ Hid (w2.heap.size ≤ W.heap.size ∧ W.heap[q]? = w2.heap[q]?)) (fun _ v _ => m - (intOf v).toNat)
      case atStart => exact ⟨0, (b0, d0), by omega, rfl, rfl, H0, R2, B2, hide ⟨Nat.le_refl _, rfl⟩⟩
      case round =>
        obtain ⟨n, y, hn, rfl, rfl, HY, HRn, HBn, HQn⟩ := hrel
        have TR := (unhide HT).below (w' := wr) (by rw [GWn]; exact unhide HBn)
        have ny := TR.node _ _ (unhide HY)
        have hwq := (unhide HQn).1
        have HS : Hid (aa (dgA A) t (a + 1) = rr (dgA A) t a (aa (dgA A) t a) m) := hide (by rw [aa, show t.size - a = m by have := unhide HM; omega])
        by_cases hlt2 : n < m
        · have hnI : (n : Int) < (m : Int) := by omega
          have HLE : Hid (n + 1 ≤ m) := hide (by omega)
          have hltr := (unhide HL) (a + n) (by have := unhide HM; omega)
          have cI := (cell_same (unhide HQn).2 n).trans ((unhide HC) n hlt2)
          have CK := hide (fun W => kindH _ hltr W)
          have hk27 := kd_lt hltr
          have HP : Hid (pth t a (n + 1) = pth t a n ++ [kd (bt t (a + n) : Int)]) := hide rfl
          have cc := ny.2.cell.1 _ hk27
          have hk27I : ((kd (bt t (a + n) : Int) : Nat) : Int) < 27 := by omega
          have hk0I : (0 : Int) ≤ ((kd (bt t (a + n) : Int) : Nat) : Int) := by omega
          generalize (bt t (a + n) : Int) = c at *
          generalize kd c = k at *
          clear hltr
          cases hch : A (pth t a n ++ [k]) with
          | none =>
            have ce : chV A (pth t a n) k = .pointer none := by unfold chV; rw [hch]; rfl
            rw [ce] at cc
            have HF : Hid (wr.heap[g]? = some (.cells (u8s (aa (dgA A) t (a + 1))).toArray 5 (0, 0))) := hide (by
              have h1 := rr_stop (unhide HT) t a n (aa (dgA A) t a) (by rw [unhide HP]; exact hch) (m - n)
              rw [show n + (m - n) = m by omega] at h1
              rw [unhide HS, h1]
              exact unhide HRn)
            clear ce hch
            go_upto_region 9 with fail
            go_region_with (go_at_call 54; refine ((unhide CK) _).mono ?_; rintro e w' ⟨rfl, hw⟩; obtain rfl := hw.symm; clear hw)
            all_goals go_wp2_with fail
            go_roundw
            case rel => exact ⟨a + 1, by omega, by go_num, HF, hide (bdrew (unhide HBn) _)⟩
            case measure => simp [intOf]; omega
          | some z =>
            have ce : chV A (pth t a n) k = .pointer (some ⟨z.1, 0, none⟩) := by unfold chV; rw [hch]; rfl
            rw [ce] at cc
            have HZ := hide (show A (pth t a (n + 1)) = some z by rw [unhide HP]; exact hch)
            have nz := TR.node _ _ hch
            have c27 := nz.2.cell.2.1
            have f27 := nz.2.cell.2.2 27
            obtain ⟨z1, z2⟩ := z
            clear ce hch
            cases z2 with
            | none =>
              have c27' : wr.cell? ⟨z1, 27, none⟩ = some (.slice none 0 0) := c27
              clear c27
              have HF : Hid (wr.heap[g]? = some (.cells (u8s (rr (dgA A) t a (aa (dgA A) t a) (n + 1))).toArray 5 (0, 0))) := hide (by
                rw [rr, dgA_none (unhide HZ)]
                exact unhide HRn)
              have CN := hide (fun off cap l W => raiseN g off cap l W)
              go_upto_region 9 with fail
              go_region_with (go_at_call 54; refine ((unhide CK) _).mono ?_; rintro e w' ⟨rfl, hw⟩; obtain rfl := hw.symm; clear hw)
              all_goals
                go_upto_region 11 with fail
                go_region_with (go_at_call 55; refine ((unhide CN) _ _ _ _).mono ?_; rintro e w' ⟨⟨v, rfl⟩, hw⟩; obtain rfl := hw.symm; clear hw)
              all_goals
                go_wp2_with fail
                go_roundw
                case rel => exact ⟨n + 1, (z1, none), unhide HLE, by go_num, rfl, HZ, HF, hide (by first | exact bdrew (bdrew (unhide HBn) _) _ | exact bdrew (unhide HBn) _), HQn⟩
                case measure => have := unhide HLE; simp [intOf]; omega
            | some gl =>
              obtain ⟨hb, O⟩ := gl
              have c27' : wr.cell? ⟨z1, 27, none⟩ = some (.slice (some ⟨hb, 0, none⟩) O.length O.length) := c27
              clear c27
              have dg := TR.dig _ _ _ _ (unhide HZ)
              have HOL : Hid (O.length = n + 2) := hide (by have := dg.2.2; rw [pth_len] at this; exact this)
              have hhg : hb < g := by have := (unhide HT).dlt (unhide HZ); omega
              have CR := hide (fun W (hW : Below wr.heap.size wr W) => raiseH g a (t.size + 1 - a) (t.size + 1 - a) hb 0 O.length (rr (dgA A) t a (aa (dgA A) t a) n) O W ((hW.block _ (by omega)).trans (unhide HRn)) (fun j hj => (hW.cell (p := ⟨hb, 0 + j, none⟩) (by show hb < _; omega)).trans (by rw [Nat.zero_add]; exact row_cell dg.2.1 j hj)) (by omega) (by have := hW.size; omega) (by rw [rr_len, aa_len]; omega) (by have := unhide HOL; have := unhide HM; omega) (by rw [rr_len, aa_len]; omega))
              clear dg
              have HE : Hid (rr (dgA A) t a (aa (dgA A) t a) (n + 1) = rsk (rr (dgA A) t a (aa (dgA A) t a) n) a O O.length) := hide (by rw [rr, dgA_some (unhide HZ)])
              go_upto_region 9 with fail
              go_region_with (go_at_call 54; refine ((unhide CK) _).mono ?_; rintro e w' ⟨rfl, hw⟩; obtain rfl := hw.symm; clear hw)
              all_goals
                go_upto_region 11 with fail
                go_region_with (go_at_call 55; refine ((unhide CR) _ (by first | exact bdrew (bdrew (Below.refl _ _) _) _ | exact bdrew (Below.refl _ _) _)).mono ?_; rintro e w9 ⟨⟨v, rfl⟩, hr9, hg9⟩)
              all_goals
                have HR9 := hide hr9
                have HG9 : Hid (wr.grownBy w9 (some g)) := hide ⟨hg9.os, hg9.tape, hg9.output, hg9.size, hg9.block⟩
                clear hr9 hg9
                go_wp2_with fail
                go_roundw
                case rel => exact ⟨n + 1, (z1, some (hb, O)), unhide HLE, by go_num, rfl, HZ, hide (by rw [unhide HE]; exact unhide HR9), hide (by first | exact bdrew ((unhide HBn).grown (unhide HG9) (by omega) (fun k e => by injection e with e; omega)) _ | exact (unhide HBn).grown (unhide HG9) (by omega) (fun k e => by injection e with e; omega)), hide ⟨Nat.le_trans hwq (unhide HG9).size, ((unhide HG9).block q (by omega) (fun e => by injection e with e; omega)).trans (unhide HQn).2⟩⟩
                case measure => have := unhide HLE; simp [intOf]; omega
        · obtain rfl : n = m := by omega
          have HF : Hid (wr.heap[g]? = some (.cells (u8s (aa (dgA A) t (a + 1))).toArray 5 (0, 0))) := hide (by rw [unhide HS]; exact unhide HRn)
          go_wp2_with fail
          go_roundw
          case rel => exact ⟨a + 1, by omega, by go_num, HF, HBn⟩
          case measure => simp [intOf]; omega
    · obtain rfl : a = t.size := by omega
      go_wp2_with fail
      go_ret
      exact ⟨⟨g, _, rfl, unhide HR, by have := unhide GW; omega⟩, by rw [unhide GW]; exact unhide HB⟩
end Hyp
end Go.Proofs.YtcdhaikmedicfaaGreatDoor
/- The digits of a text, by the tree and by the patterns, in plain numbers. -/
namespace Go.Proofs.YtcdhaikmedicfaaGreatDoor
namespace Hyp
open Go.RowKit
set_option linter.unusedVariables false
set_option linter.unusedSimpArgs false
theorem getD_set (L : List Int) (i j : Nat) (x : Int) (h : i < L.length) : (L.set i x).getD j 0 = if j = i then x else L.getD j 0 := by
  rw [List.getD_eq_getElem?_getD, List.getElem?_set, List.getD_eq_getElem?_getD]
  by_cases e : i = j
  · subst e
    simp [h]
  · rw [if_neg e, if_neg (fun c => e c.symm)]
theorem rsk_at (L : List Int) (off : Nat) (O : List Int) (j : Nat) : ∀ k, off + k ≤ L.length → (rsk L off O k).getD j 0 = if off ≤ j ∧ j < off + k then max (L.getD j 0) (O.getD (j - off) 0) else L.getD j 0
  | 0, _ => by
    rw [rsk, if_neg (by omega)]
  | k + 1, h => by
    rw [rsk, getD_set _ _ _ _ (by rw [rsk_len]; omega)]
    by_cases e : j = off + k
    · subst e
      rw [if_pos rfl, if_pos (by omega), rsk_at L off O (off + k) k (by omega), if_neg (by omega), show off + k - off = k by omega]
    · rw [if_neg e, rsk_at L off O j k (by omega)]
      by_cases c : off ≤ j ∧ j < off + k
      · rw [if_pos c, if_pos (by omega)]
      · rw [if_neg c, if_neg (by omega)]
theorem rsk_le {L : List Int} {off : Nat} {O : List Int} (h : off + O.length ≤ L.length) (j : Nat) (v : Int) : (rsk L off O O.length).getD j 0 ≤ v ↔ L.getD j 0 ≤ v ∧ (off ≤ j → j - off < O.length → O.getD (j - off) 0 ≤ v) := by
  rw [rsk_at L off O j O.length h]
  generalize L.getD j 0 = x
  generalize O.getD (j - off) 0 = y
  by_cases c : off ≤ j ∧ j < off + O.length
  · rw [if_pos c]
    constructor
    · intro h2
      exact ⟨by omega, fun _ _ => by omega⟩
    · rintro ⟨h2, h3⟩
      have := h3 c.1 (by omega)
      omega
  · rw [if_neg c]
    constructor
    · intro h2
      exact ⟨h2, fun c1 c2 => absurd ⟨c1, by omega⟩ c⟩
    · exact fun h2 => h2.1
/-- Digits are one more than letters. -/
def Dl (D : List Nat → Option (List Int)) : Prop := ∀ p L, D p = some L → L.length = p.length + 1
theorem rr_le {D : List Nat → Option (List Int)} (hD : Dl D) (t : ByteArray) (a : Nat) (R : List Int) (hR : R.length = t.size + 1) (j : Nat) (v : Int) : ∀ n, a + n ≤ t.size → ((rr D t a R n).getD j 0 ≤ v ↔ R.getD j 0 ≤ v ∧ ∀ k, 1 ≤ k → k ≤ n → ∀ L, D (pth t a k) = some L → a ≤ j → j - a < L.length → L.getD (j - a) 0 ≤ v)
  | 0, _ => by
    rw [rr]
    exact ⟨fun h => ⟨h, fun k h1 h2 => absurd h2 (by omega)⟩, fun h => h.1⟩
  | n + 1, h => by
    have ih := rr_le hD t a R hR j v n (by omega)
    rw [rr]
    cases e : D (pth t a (n + 1)) with
    | none =>
      show (rr D t a R n).getD j 0 ≤ v ↔ _
      rw [ih]
      constructor
      · rintro ⟨h1, h2⟩
        refine ⟨h1, fun k c1 c2 L c3 => ?_⟩
        by_cases c : k = n + 1
        · subst c
          rw [e] at c3
          cases c3
        · exact h2 k c1 (by omega) L c3
      · rintro ⟨h1, h2⟩
        exact ⟨h1, fun k c1 c2 => h2 k c1 (by omega)⟩
    | some O =>
      show (rsk (rr D t a R n) a O O.length).getD j 0 ≤ v ↔ _
      have hO := hD _ _ e
      rw [pth_len] at hO
      rw [rsk_le (by rw [rr_len, hR]; omega), ih]
      constructor
      · rintro ⟨⟨h1, h2⟩, h3⟩
        refine ⟨h1, fun k c1 c2 L c3 => ?_⟩
        by_cases c : k = n + 1
        · subst c
          rw [e] at c3
          obtain rfl := Option.some.inj c3
          exact h3
        · exact h2 k c1 (by omega) L c3
      · rintro ⟨h1, h2⟩
        exact ⟨⟨h1, fun k c1 c2 => h2 k c1 (by omega)⟩, h2 (n + 1) (by omega) (Nat.le_refl _) O e⟩
theorem zeros_at (n j : Nat) : (List.replicate n (0 : Int)).getD j 0 = 0 := by
  rw [List.getD_eq_getElem?_getD, List.getElem?_replicate]
  split <;> rfl
theorem aa_le {D : List Nat → Option (List Int)} (hD : Dl D) (t : ByteArray) (j : Nat) (v : Int) : ∀ a, a ≤ t.size → ((aa D t a).getD j 0 ≤ v ↔ 0 ≤ v ∧ ∀ b, b < a → ∀ k, 1 ≤ k → b + k ≤ t.size → ∀ L, D (pth t b k) = some L → b ≤ j → j - b < L.length → L.getD (j - b) 0 ≤ v)
  | 0, _ => by
    rw [aa, zeros_at]
    exact ⟨fun h => ⟨h, fun b c => absurd c (by omega)⟩, fun h => h.1⟩
  | a + 1, h => by
    rw [aa, rr_le hD t a _ (aa_len D t a) j v _ (by omega), aa_le hD t j v a (by omega)]
    constructor
    · rintro ⟨⟨h1, h2⟩, h3⟩
      refine ⟨h1, fun b c k c1 c2 => ?_⟩
      by_cases e : b = a
      · subst e
        exact h3 k c1 (by omega)
      · exact h2 b (by omega) k c1 c2
    · rintro ⟨h1, h2⟩
      exact ⟨⟨h1, fun b c => h2 b (by omega)⟩, fun k c1 c2 => h2 a (by omega) k c1 (by omega)⟩
theorem pat_len {x : ByteArray} {s : St} (h : pat x = some s) : (s.D ++ [s.d]).length = s.L.length + 1 := by
  simp [(pr_ok (pat_pr h).1).len]
theorem put_len {D : List Nat → Option (List Int)} (hD : Dl D) {p : List Nat} {O : List Int} (hO : O.length = p.length + 1) : Dl (put D p O) := by
  intro q L h
  unfold put at h
  by_cases e : q = p
  · subst e
    rw [if_pos rfl] at h
    obtain rfl := Option.some.inj h
    rw [rsk_len]
    cases c : D q with
    | none => simp [hO]
    | some L => exact hD q L c
  · rw [if_neg e] at h
    exact hD q L h
theorem dgs_len (P : List ByteArray) : ∀ i, Dl (dgs P i)
  | 0 => fun p L h => by cases h
  | i + 1 => by
    rw [dgs]
    cases e : pat (nthS P i) with
    | none => exact dgs_len P i
    | some s => exact put_len (dgs_len P i) (by rw [pat_len e, List.length_map])
theorem dgs_le (P : List ByteArray) (q : List Nat) (k : Nat) (v : Int) (hv : 0 ≤ v) : ∀ i, ((∀ L, dgs P i q = some L → k < L.length → L.getD k 0 ≤ v) ↔ ∀ i', i' < i → ∀ s, pat (nthS P i') = some s → s.L.map kd = q → k < (s.D ++ [s.d]).length → (s.D ++ [s.d]).getD k 0 ≤ v)
  | 0 => ⟨fun _ i' c => absurd c (by omega), fun _ L h => by cases h⟩
  | i + 1 => by
    have ih := dgs_le P q k v hv i
    have hl := dgs_len P i
    rw [dgs]
    cases e : pat (nthS P i) with
    | none =>
      show (∀ L, dgs P i q = some L → _) ↔ _
      rw [ih]
      constructor
      · intro h i' c s h2
        by_cases e2 : i' = i
        · subst e2
          rw [e] at h2
          cases h2
        · exact h i' (by omega) s h2
      · exact fun h i' c => h i' (by omega)
    | some s =>
      show (∀ L, put (dgs P i) (s.L.map kd) (s.D ++ [s.d]) q = some L → _) ↔ _
      have hs := pat_len e
      unfold put
      by_cases c : q = s.L.map kd
      · subst c
        rw [if_pos rfl]
        have hX : ((dgs P i (s.L.map kd)).getD (List.replicate (s.D ++ [s.d]).length 0)).length = (s.D ++ [s.d]).length := by
          cases c2 : dgs P i (s.L.map kd) with
          | none => simp
          | some L => have := hl _ L c2; rw [List.length_map] at this; rw [hs]; exact this
        constructor
        · intro h i' c s' h2 h3 h4
          have h5 := h _ rfl (by rw [rsk_len, hX, hs]; rw [pat_len h2] at h4; have := congrArg List.length h3; simp at this; omega)
          rw [rsk_le (by rw [hX]; omega)] at h5
          by_cases e2 : i' = i
          · subst e2
            rw [e] at h2
            obtain rfl := Option.some.inj h2
            exact h5.2 (Nat.zero_le _) (by simpa using h4)
          · refine ih.1 (fun L h6 h7 => ?_) i' (by omega) s' h2 h3 h4
            rw [h6] at h5
            exact h5.1
        · intro h L h2 h3
          obtain rfl := Option.some.inj h2
          rw [rsk_le (by rw [hX]; omega)]
          refine ⟨?_, fun _ h4 => h i (by omega) s e rfl (by simpa using h4)⟩
          cases c2 : dgs P i (s.L.map kd) with
          | none =>
            show (List.replicate _ (0 : Int)).getD k 0 ≤ v
            rw [zeros_at]
            exact hv
          | some L =>
            refine ih.2 (fun i' c s' h4 => h i' (by omega) s' h4) L c2 ?_
            rw [rsk_len, hX, hs] at h3
            rw [hl _ L c2, List.length_map]
            exact h3
      · rw [if_neg c, ih]
        constructor
        · intro h i' c1 s' h2 h3
          by_cases e2 : i' = i
          · subst e2
            rw [e] at h2
            obtain rfl := Option.some.inj h2
            exact absurd h3.symm c
          · exact h i' (by omega) s' h2 h3
        · exact fun h i' c1 => h i' (by omega)
end Hyp
end Go.Proofs.YtcdhaikmedicfaaGreatDoor
/- The digits of a text, as the specification finds them, are those of the tree. -/
namespace Go.Proofs.YtcdhaikmedicfaaGreatDoor
namespace Hyp
open Go.RowKit
set_option linter.unusedVariables false
set_option linter.unusedSimpArgs false
/-- Whether a pattern's letters stand at a place. -/
def mt (t : ByteArray) (s : St) (a : Nat) : Bool := (t.extract a (a + s.L.length)).toList == (strOfNums s.L).toList
def pb (t : ByteArray) (s : St) (R : List Int) : Nat → List Int
  | 0 => R
  | a + 1 => if mt t s a = true then rsk (pb t s R a) a (s.D ++ [s.d]) (s.D ++ [s.d]).length else pb t s R a
def bb (t : ByteArray) (P : List ByteArray) : Nat → List Int
  | 0 => List.replicate (t.size + 1) 0
  | i + 1 => match pat (nthS P i) with
    | some s => pb t s (bb t P i) (t.size + 1 - s.L.length)
    | none => bb t P i
theorem pb_len (t : ByteArray) (s : St) (R : List Int) (n : Nat) : (pb t s R n).length = R.length := by
  induction n with
  | zero => rfl
  | succ n ih =>
    rw [pb]
    split
    · rw [rsk_len, ih]
    · exact ih
theorem bb_len (t : ByteArray) (P : List ByteArray) (i : Nat) : (bb t P i).length = t.size + 1 := by
  induction i with
  | zero => simp [bb]
  | succ i ih =>
    rw [bb]
    split
    · rw [pb_len, ih]
    · exact ih
theorem pb_le (t : ByteArray) {x : ByteArray} {s : St} (hs : pat x = some s) (R : List Int) (hR : R.length = t.size + 1) (j : Nat) (v : Int) : ∀ n, n ≤ t.size + 1 - s.L.length → ((pb t s R n).getD j 0 ≤ v ↔ R.getD j 0 ≤ v ∧ ∀ a, a < n → mt t s a = true → a ≤ j → j - a < (s.D ++ [s.d]).length → (s.D ++ [s.d]).getD (j - a) 0 ≤ v)
  | 0, _ => by
    rw [pb]
    exact ⟨fun h => ⟨h, fun a c => absurd c (by omega)⟩, fun h => h.1⟩
  | n + 1, h => by
    have ih := pb_le t hs R hR j v n (by omega)
    have hl := pat_len hs
    rw [pb]
    by_cases c : mt t s n = true
    · rw [if_pos c, rsk_le (by rw [pb_len, hR]; omega), ih]
      constructor
      · rintro ⟨⟨h1, h2⟩, h3⟩
        refine ⟨h1, fun a c1 c2 => ?_⟩
        by_cases e : a = n
        · subst e; exact h3
        · exact h2 a (by omega) c2
      · rintro ⟨h1, h2⟩
        exact ⟨⟨h1, fun a c1 => h2 a (by omega)⟩, h2 n (by omega) c⟩
    · rw [if_neg c, ih]
      constructor
      · rintro ⟨h1, h2⟩
        refine ⟨h1, fun a c1 c2 => ?_⟩
        by_cases e : a = n
        · subst e; exact absurd c2 c
        · exact h2 a (by omega) c2
      · rintro ⟨h1, h2⟩
        exact ⟨h1, fun a c1 => h2 a (by omega)⟩
theorem bb_le (t : ByteArray) (P : List ByteArray) (j : Nat) (v : Int) : ∀ i, ((bb t P i).getD j 0 ≤ v ↔ 0 ≤ v ∧ ∀ i', i' < i → ∀ s, pat (nthS P i') = some s → ∀ a, a < t.size + 1 - s.L.length → mt t s a = true → a ≤ j → j - a < (s.D ++ [s.d]).length → (s.D ++ [s.d]).getD (j - a) 0 ≤ v)
  | 0 => by
    rw [bb, zeros_at]
    exact ⟨fun h => ⟨h, fun i' c => absurd c (by omega)⟩, fun h => h.1⟩
  | i + 1 => by
    have ih := bb_le t P j v i
    rw [bb]
    cases e : pat (nthS P i) with
    | none =>
      show (bb t P i).getD j 0 ≤ v ↔ _
      rw [ih]
      constructor
      · rintro ⟨h1, h2⟩
        refine ⟨h1, fun i' c s h3 => ?_⟩
        by_cases e2 : i' = i
        · subst e2
          rw [e] at h3
          cases h3
        · exact h2 i' (by omega) s h3
      · rintro ⟨h1, h2⟩
        exact ⟨h1, fun i' c => h2 i' (by omega)⟩
    | some s =>
      show (pb t s (bb t P i) _).getD j 0 ≤ v ↔ _
      rw [pb_le t e _ (bb_len t P i) j v _ (Nat.le_refl _), ih]
      constructor
      · rintro ⟨⟨h1, h2⟩, h3⟩
        refine ⟨h1, fun i' c s' h4 => ?_⟩
        by_cases e2 : i' = i
        · subst e2
          rw [e] at h4
          obtain rfl := Option.some.inj h4
          exact h3
        · exact h2 i' (by omega) s' h4
      · rintro ⟨h1, h2⟩
        exact ⟨⟨h1, fun i' c => h2 i' (by omega)⟩, h2 i (by omega) s e⟩
theorem kd_inj {x y : Int} (hx : ltr x) (hy : ltr y) (h : kd x = kd y) : x = y := by
  unfold kd at h
  unfold ltr at hx hy
  split at h <;> split at h <;> omega
theorem ext_getD {α : Type} (d : α) {X Y : List α} (h : X.length = Y.length) (h2 : ∀ j, j < X.length → X.getD j d = Y.getD j d) : X = Y := by
  apply List.ext_getElem h
  intro j h3 h4
  have := h2 j h3
  simpa [List.getD_eq_getElem?_getD, h3, h4] using this
theorem pth_get (t : ByteArray) (a j : Nat) : ∀ n, j < n → (pth t a n).getD j 0 = kd (bt t (a + j) : Int)
  | 0, h => absurd h (by omega)
  | n + 1, h => by
    rw [pth, List.getD_eq_getElem?_getD]
    by_cases e : j = n
    · subst e
      rw [List.getElem?_append_right (by rw [pth_len]; omega), pth_len]
      simp
    · rw [List.getElem?_append_left (by rw [pth_len]; omega), ← List.getD_eq_getElem?_getD]
      exact pth_get t a j n (by omega)
theorem cut_byte2 (t : ByteArray) (a b i : Nat) (h : a + i < b) (hb : b ≤ t.size) : ((t.extract a b).data.toList.getD i 0).toNat = bt t (a + i) := by
  have e : ∀ (s : ByteArray) (j : Nat) (hj : j < s.size), s.get! j = s.data.toList.getD j 0 := fun s j hj => by
    obtain ⟨⟨l⟩⟩ := s
    show (⟨l⟩ : Array UInt8)[j]! = l.getD j 0
    have hj2 : j < l.length := hj
    simp [List.getD_eq_getElem?_getD, hj2]
  unfold bt
  rw [e t (a + i) (by omega)]
  congr 1
  rw [ByteArray.data_extract]
  have h3 : a + i < t.data.size := by show a + i < t.size; omega
  simp [List.getD_eq_getElem?_getD, List.getElem?_take, List.getElem?_drop, show i < b - a by omega, Array.getElem?_eq_getElem h3]
theorem mt_iff {t : ByteArray} (hl : ∀ i, i < t.size → ltr (bt t i : Int)) {s : St} (hs : ∀ x ∈ s.L, ltr x) {a : Nat} (h : a + s.L.length ≤ t.size) : mt t s a = true ↔ pth t a s.L.length = s.L.map kd := by
  have hX : (t.extract a (a + s.L.length)).toList = (t.extract a (a + s.L.length)).data.toList := ByteArray.toList_eq _
  have hY : (strOfNums s.L).toList = (strOfNums s.L).data.toList := ByteArray.toList_eq _
  have lX : (t.extract a (a + s.L.length)).data.toList.length = s.L.length := by
    rw [Array.length_toList]
    show (t.extract a (a + s.L.length)).size = _
    rw [ByteArray.size_extract]
    omega
  have lY : (strOfNums s.L).data.toList.length = s.L.length := by rw [strOfNums_data, List.length_map]
  have hm : ∀ j, j < s.L.length → (s.L.map kd).getD j 0 = kd (s.L.getD j 0) := fun j hj => by
    simp [List.getD_eq_getElem?_getD, hj]
  have hlt : ∀ j, j < s.L.length → ltr (s.L.getD j 0) := fun j hj => hs _ (by rw [List.getD_eq_getElem?_getD, List.getElem?_eq_getElem hj]; exact List.getElem_mem hj)
  unfold mt
  rw [hX, hY, beq_iff_eq]
  constructor
  · intro e
    refine ext_getD 0 (by rw [pth_len, List.length_map]) fun j hj => ?_
    rw [pth_len] at hj
    rw [pth_get t a j _ hj, hm j hj]
    have h1 := cut_byte2 t a (a + s.L.length) j (by omega) h
    rw [e] at h1
    rw [← h1, byte_at hs j hj]
  · intro e
    refine ext_getD 0 (by rw [lX, lY]) fun j hj => ?_
    rw [lX] at hj
    have h1 := cut_byte2 t a (a + s.L.length) j (by omega) h
    have h2 := byte_at hs j hj
    have h3 := pth_get t a j _ hj
    rw [e, hm j hj] at h3
    have h4 := kd_inj (hlt j hj) (hl (a + j) (by omega)) h3
    apply UInt8.toNat_inj.1
    omega
/-- Both sides' digits. -/
theorem aa_bb {t : ByteArray} (hl : ∀ i, i < t.size → ltr (bt t i : Int)) (P : List ByteArray) (m j : Nat) : (aa (dgs P m) t t.size).getD j 0 = (bb t P m).getD j 0 := by
  have key : ∀ v, (aa (dgs P m) t t.size).getD j 0 ≤ v ↔ (bb t P m).getD j 0 ≤ v := fun v => by
    rw [aa_le (dgs_len P m) t j v _ (Nat.le_refl _), bb_le]
    constructor
    · rintro ⟨h1, h2⟩
      refine ⟨h1, fun i' c s hp a ha hm haj hlt => ?_⟩
      obtain ⟨hpr, hok⟩ := pat_pr hp
      have o := pr_ok hpr
      have h1l : 1 ≤ s.L.length := by
        unfold okP at hok
        simp only [Bool.and_eq_true, decide_eq_true_eq] at hok
        exact hok.2.1
      have hpth := (mt_iff hl o.lt (a := a) (by omega)).1 hm
      exact (dgs_le P _ (j - a) v h1 m).1 (fun L h3 h4 => h2 a (by omega) s.L.length h1l (by omega) L h3 haj h4) i' c s hp hpth.symm hlt
    · rintro ⟨h1, h2⟩
      refine ⟨h1, fun b hb k hk hbk L hL hbj hlt => ?_⟩
      refine (dgs_le P _ (j - b) v h1 m).2 (fun i' c s hp hq hlt2 => ?_) L hL hlt
      have hpr := pr_ok (pat_pr hp).1
      have hlen : s.L.length = k := by
        have := congrArg List.length hq
        rw [List.length_map, pth_len] at this
        exact this
      subst hlen
      exact h2 i' c s hp b (by omega) ((mt_iff hl hpr.lt hbk).2 hq.symm) hbj hlt2
  exact Int.le_antisymm ((key _).2 (Int.le_refl _)) ((key _).1 (Int.le_refl _))
end Hyp
end Go.Proofs.YtcdhaikmedicfaaGreatDoor
/- Hyphens of a word, as the program tells them. -/
namespace Go.Proofs.YtcdhaikmedicfaaGreatDoor
namespace Hyp
open Go.RowKit
set_option linter.unusedVariables false
set_option linter.unusedSimpArgs false
/-- Whether all bytes of a text are small letters. -/
def smP (x : ByteArray) (k : Nat) : Prop := ∀ i, i < k → 97 ≤ bt x i ∧ bt x i ≤ 122
def sm (x : ByteArray) : Bool := decide (∀ i, i < x.size → 97 ≤ bt x i ∧ bt x i ≤ 122)
theorem sm_yes {x : ByteArray} (h : smP x x.size) : sm x = true := decide_eq_true h
theorem sm_no {x : ByteArray} {i : Nat} (hi : i < x.size) (h : ¬ (97 ≤ bt x i ∧ bt x i ≤ 122)) : sm x = false := decide_eq_false (fun c => h (c i hi))
theorem smP_next {x : ByteArray} {k : Nat} (h : smP x k) (h2 : 97 ≤ bt x k ∧ bt x k ≤ 122) : smP x (k + 1) := fun i hi => by
  by_cases e : i = k
  · subst e; exact h2
  · exact h i (by omega)
theorem dP_big {s : ByteArray} {i : Nat} (h : 128 ≤ bt s i) : 128 ≤ dP s i := by
  unfold dP
  rw [decode_dec]
  unfold dec
  rw [if_neg (by omega)]
  repeat' split
  all_goals (simp only []; omega)
theorem dP_small {s : ByteArray} {i : Nat} (h : bt s i < 128) : dP s i = bt s i ∧ dN s i = 1 := by
  unfold dP dN
  rw [decode_dec, dec_one h]
  exact ⟨rfl, rfl⟩
set_option maxRecDepth 100000 in
set_option maxHeartbeats 2000000 in
theorem noSmI (p : Int) (h0 : 0 ≤ p) (h1 : p ≤ 1114111) (w : World) : Calls Tryz.prog 21 #[.int .i32 p] w fun e w' => e = .returned (.bool (!(decide (97 ≤ p) && decide (p ≤ 122)))) ∧ w' = w := by
  go_enter Tryz.func21, Tryz.ntmps21
  go_wp2_with (go_at_call 29; refine (withinH _ _ _ _).mono ?_; rintro e w' ⟨rfl, hw⟩; obtain rfl := hw.symm; clear hw)
  go_ret
  refine ⟨?_, rfl⟩
  show Ending.returned (.bool (!decide _ || !decide _)) = _
  rw [Bool.not_and]
set_option maxRecDepth 100000 in
set_option maxHeartbeats 4000000 in
theorem sidxI (x : ByteArray) (hx : x.size ≤ 1048576) (w : World) : Calls Tryz.prog 56 #[.string x, .func (.func 21) #[] #[], .bool true] w fun e w' => (∃ r : Int, e = .returned (.int .i64 r) ∧ (0 ≤ r ↔ sm x = false)) ∧ Below w.heap.size w w' := by
  have HI0 : Hid ((w.iter x 0).heap[w.heap.size]? = some (.stringIter x 0)) := hide (World.iter_heap w x 0)
  have HB0 : Hid (Below w.heap.size w (w.iter x 0)) := hide ((Below.refl _ _).alloc (Nat.le_refl _) _)
  go_enter Tryz.func56, Tryz.ntmps56
  go_wp2_with fail
  go_loopw [7, 8] (fun _ _ wr => ∃ pos : Nat, pos ≤ x.size ∧ Hid (smP x pos) ∧ Hid (wr.heap[w.heap.size]? = some (.stringIter x pos)) ∧ Hid (Below w.heap.size w wr)) (fun _ _ wr => x.size - wr.iterPos w.heap.size)
  case atStart => exact ⟨0, by omega, hide (fun i hi => absurd hi (by omega)), HI0, HB0⟩
  case round =>
    obtain ⟨pos, hpos, HS, HI, HB⟩ := hrel
    clear HI0 HB0
    have HM := hide (iterPos_of (unhide HI))
    by_cases hlt : pos < x.size
    · have hbd := dN_bd x pos hlt
      have hp0 : (0 : Int) ≤ (dP x pos : Int) := by omega
      have hp1 : (dP x pos : Int) ≤ 1114111 := by omega
      have hnx : ∀ ty, (Instr.next (.pointer (some ⟨w.heap.size, 0, none⟩)) true ty).run Tryz.prog wr = .ok (.tuple #[.bool true, .int .i64 pos, .int .i32 (dP x pos)]) (wr.iterAt w.heap.size x (pos + dN x pos)) := fun ty => Lib.run_next_any_at wr _ x pos ty (unhide HI) hlt
      obtain ⟨w2, hw2⟩ : ∃ w2, wr.iterAt w.heap.size x (pos + dN x pos) = w2 := ⟨_, rfl⟩
      rw [hw2] at hnx
      have HI2 : Hid (w2.heap[w.heap.size]? = some (.stringIter x (pos + dN x pos))) := hide (by rw [← hw2]; exact Lib.iterAt_heap wr _ x pos _ (unhide HI))
      have HB2 : Hid (Below w.heap.size w w2) := hide ((unhide HB).trans (by rw [← hw2]; exact Lib.below_iterAt (Below.refl _ _) (Nat.le_refl _) _ _))
      have CN := hide (fun W => noSmI (dP x pos : Int) hp0 hp1 W)
      clear hw2
      by_cases hs : 97 ≤ bt x pos ∧ bt x pos ≤ 122
      · obtain ⟨e1, e2⟩ := dP_small (s := x) (i := pos) (by omega)
        have hb : (!(decide ((97 : Int) ≤ (dP x pos : Int)) && decide ((dP x pos : Int) ≤ 122))) = false := by
          rw [e1]
          simp
          omega
        have HS2 := hide (smP_next (unhide HS) hs)
        rw [hb] at CN
        rw [e2] at HI2
        have HM2 := hide (iterPos_of (unhide HI2))
        clear hb e1 e2 hbd hp0 hp1 hs
        generalize dP x pos = p at *
        go_wp2_with (go_at_call 21; refine ((unhide CN) _).mono ?_; rintro e w' ⟨rfl, hw⟩; obtain rfl := hw.symm; clear hw)
        go_roundw
        case rel => exact ⟨pos + 1, by omega, HS2, HI2, HB2⟩
        case measure => rw [unhide HM, unhide HM2]; omega
      · have hb : (!(decide ((97 : Int) ≤ (dP x pos : Int)) && decide ((dP x pos : Int) ≤ 122))) = true := by
          by_cases c : bt x pos < 128
          · rw [(dP_small c).1]
            simp
            omega
          · have := dP_big (s := x) (i := pos) (by omega)
            simp
            omega
        have HR := hide (sm_no hlt hs)
        have hp9 : (0 : Int) ≤ (pos : Int) := by omega
        rw [hb] at CN
        clear hb hbd hp0 hp1 hs
        generalize dP x pos = p at *
        go_wp2_with (go_at_call 21; refine ((unhide CN) _).mono ?_; rintro e w' ⟨rfl, hw⟩; obtain rfl := hw.symm; clear hw)
        go_ret
        exact ⟨⟨_, rfl, ⟨fun _ => unhide HR, fun _ => hp9⟩⟩, unhide HB2⟩
    · have hnx : ∀ ty, (Instr.next (.pointer (some ⟨w.heap.size, 0, none⟩)) true ty).run Tryz.prog wr = .ok (.tuple #[.bool false]) wr := fun ty => Lib.run_next_end_at wr _ x pos ty (unhide HI) hlt
      obtain rfl : pos = x.size := by omega
      have HR := hide (sm_yes (unhide HS))
      go_wp2_with fail
      go_ret
      exact ⟨⟨_, rfl, ⟨fun h => absurd h (by decide), fun h => by rw [unhide HR] at h; cases h⟩⟩, unhide HB⟩
set_option maxRecDepth 100000 in
set_option maxHeartbeats 2000000 in
theorem contI (x : ByteArray) (hx : x.size ≤ 1048576) (w : World) : Calls Tryz.prog 20 #[.string x, .func (.func 21) #[] #[]] w fun e w' => e = .returned (.bool (!sm x)) ∧ Below w.heap.size w w' := by
  have CS := hide (fun W => sidxI x hx W)
  have CI : Hid (∀ W, Calls Tryz.prog 37 #[.string x, .func (.func 21) #[] #[]] W fun e w' => (∃ r : Int, e = .returned (.int .i64 r) ∧ (0 ≤ r ↔ sm x = false)) ∧ Below W.heap.size W w') := hide (fun W => by
    go_enter Tryz.func37, Tryz.ntmps37
    go_wp2_with (go_at_call 56; refine ((unhide CS) _).mono ?_; rintro e w1 ⟨⟨r, rfl, hr⟩, hb⟩)
    go_ret
    exact ⟨⟨r, rfl, hr⟩, hb⟩)
  clear CS
  cases hs : sm x
  · go_enter Tryz.func20, Tryz.ntmps20
    go_wp2_with (go_at_call 37; refine ((unhide CI) _).mono ?_; rintro e w1 ⟨⟨r, rfl, hr⟩, hb⟩; have h0 : (0 : Int) ≤ r := hr.2 hs; clear hr)
    go_ret
    exact ⟨rfl, hb⟩
  · go_enter Tryz.func20, Tryz.ntmps20
    go_wp2_with (go_at_call 37; refine ((unhide CI) _).mono ?_; rintro e w1 ⟨⟨r, rfl, hr⟩, hb⟩; have h0 : ¬ (0 : Int) ≤ r := (fun c => by rw [hr.1 c] at hs; cases hs); clear hr)
    go_ret
    refine ⟨?_, hb⟩
    show Ending.returned (.bool (decide (0 ≤ r))) = _
    rw [decide_eq_false (by omega)]
    rfl
/-- A text between the edges of a word. -/
def tx (x : ByteArray) : ByteArray := (⟨#[46]⟩ : ByteArray) ++ x ++ ⟨#[46]⟩
theorem tx_size (x : ByteArray) : (tx x).size = x.size + 2 := by
  unfold tx
  rw [ByteArray.size_append, ByteArray.size_append]
  show 1 + x.size + 1 = _
  omega
theorem bt_lst (s : ByteArray) (i : Nat) (h : i < s.size) : bt s i = (s.data.toList.getD i 0).toNat := by
  obtain ⟨⟨l⟩⟩ := s
  have hj : i < l.length := h
  unfold bt
  show ((⟨l⟩ : Array UInt8)[i]!).toNat = _
  simp [List.getD_eq_getElem?_getD, hj]
theorem tx_letters {x : ByteArray} (h : sm x = true) : ∀ i, i < (tx x).size → ltr (bt (tx x) i : Int) := fun i hi => by
  have hs := of_decide_eq_true h
  have hd : (tx x).data.toList = 46 :: (x.data.toList ++ [46]) := by
    unfold tx
    simp [ByteArray.data_append]
  rw [bt_lst _ _ hi, hd]
  rw [tx_size] at hi
  unfold ltr
  match i with
  | 0 => exact .inr (by simp)
  | j + 1 =>
    by_cases c : j < x.size
    · have h1 := hs j c
      rw [bt_lst _ _ c] at h1
      have c' : j < x.data.toList.length := by rw [Array.length_toList]; exact c
      rw [List.getD_cons_succ, List.getD_eq_getElem?_getD, List.getElem?_append_left c', ← List.getD_eq_getElem?_getD]
      exact .inl (by omega)
    · have c' : x.data.toList.length = x.size := by rw [Array.length_toList]; rfl
      obtain rfl : j = x.size := by omega
      rw [List.getD_cons_succ, List.getD_eq_getElem?_getD, List.getElem?_append_right (by omega), c']
      exact .inr (by simp)
/-- The places with odd digits. -/
def hy (best : List Int) : Nat → List Int
  | 0 => []
  | k + 1 => if ((best.getD (k + 3) 0).tmod 2 == 1) = true then hy best k ++ [((k + 2 : Nat) : Int)] else hy best k
theorem hy_len (best : List Int) (k : Nat) : (hy best k).length ≤ k := by
  induction k with
  | zero => exact Nat.le_refl _
  | succ k ih =>
    rw [hy]
    split
    · rw [List.length_append]; simp; omega
    · omega
def NewRow (w w' : World) (e : Ending) (l : List Int) : Prop := ∃ v, e = .returned v ∧ w'.ownsRow w.heap.size 2 1 v l.length (l.map (Value.int .i64)) ∧ Below w.heap.size w w'
theorem own_baseH {w : World} {B' B : Nat} {e : TypeId} {s : Nat} {v : Value} {n : Nat} {xs : List Value} (h : w.ownsRow B' e s v n xs) (hB : B ≤ B') : w.ownsRow B e s v n xs := by
  refine ⟨h.1, ?_⟩
  rcases h.2 with h' | ⟨g, cp, cur, hv, hg, r⟩
  · exact .inl h'
  · exact .inr ⟨g, cp, cur, hv, Nat.le_trans hB hg, r⟩
theorem owned_allocH {w : World} {base : Nat} {e : TypeId} {v : Value} {n : Nat} {xs : List Value} (h : w.ownsRow base e 1 v n xs) (o : Obj) : (w.alloc o).ownsRow base e 1 v n xs :=
  ownsRow_below h ((Below.refl _ _).alloc (Nat.le_refl _) o)
theorem row_stepH {w wr w2 : World} {base : Nat} {v v' : Value} {L : List Int} {p : Int} {o : Obj} (hb : Below base w wr) (hB : base ≤ wr.heap.size)
    (ho : wr.ownsRow base 2 1 v L.length (L.map (Value.int .i64)))
    (ho2 : w2.ownsRow base 2 1 v' (L.length + 1) (L.map (Value.int .i64) ++ [.int .i64 p])) (hg : (wr.alloc o).grownBy w2 v.ownBlock) :
    w2.ownsRow base 2 1 v' (L ++ [p]).length ((L ++ [p]).map (Value.int .i64)) ∧ Below base w w2 := by
  refine ⟨?_, (hb.alloc hB o).grown hg (by simp; omega) (fun j hj => (ho.lt j hj).1)⟩
  rw [List.length_append, List.map_append]
  exact ho2
theorem form_ownH {w : World} {B n : Nat} {v : Value} {xs : List Value} (h : w.ownsRow B 2 1 v n xs) : ∃ a cap, v = .slice a n cap := by
  rcases h.2 with ⟨rfl, rfl⟩ | ⟨g, cap, cur, rfl, _⟩
  · exact ⟨_, _, rfl⟩
  · exact ⟨_, _, rfl⟩
theorem aa_nn (D : List Nat → Option (List Int)) (h : Dl D) (t : ByteArray) (j : Nat) : 0 ≤ (aa D t t.size).getD j 0 := ((aa_le h t j _ t.size (Nat.le_refl _)).1 (Int.le_refl _)).1
theorem mod2 {d : Int} (h : 0 ≤ d) : 0 ≤ d.tmod 2 ∧ d.tmod 2 < 2 := ⟨Int.tmod_nonneg _ h, Int.tmod_lt_of_pos _ (by decide)⟩
end Hyp
end Go.Proofs.YtcdhaikmedicfaaGreatDoor
/- Hyphens of a word, as the program tells them: the walk. -/
namespace Go.Proofs.YtcdhaikmedicfaaGreatDoor
namespace Hyp
open Go.RowKit
set_option linter.unusedVariables false
set_option linter.unusedSimpArgs false
theorem addE1 (x : ByteArray) (hx : x.size ≤ 1048576) (W : World) : (Op.stringOp .add ⟨#[46]⟩ x).run Tryz.prog W = .ok (.string ((⟨#[46]⟩ : ByteArray) ++ x)) W :=
  run_string_add_sum W _ _ (by show 1 + x.size ≤ _; omega)
theorem addE2 (x : ByteArray) (hx : x.size ≤ 1048576) (W : World) : (Op.stringOp .add ((⟨#[46]⟩ : ByteArray) ++ x) ⟨#[46]⟩).run Tryz.prog W = .ok (.string (tx x)) W :=
  run_string_add_sum W _ _ (by rw [ByteArray.size_append]; show 1 + x.size + 1 ≤ _; omega)
theorem wrap8_2 {q : Int} (h0 : 0 ≤ q) (h1 : q < 2) : IntKind.u8.wrap q = q := by
  simp [IntKind.wrap, IntKind.bits, IntKind.signed]
  omega
theorem wrapN (b : Nat) (h : b ≤ 1048576) : wrap64 (b : Int) = (b : Int) := by unfold wrap64; omega
set_option maxRecDepth 100000 in
set_option maxHeartbeats 4000000 in
theorem hyphI (A : Mp) (b0 : Nat) (B : Nat) (d0 : Option (Nat × List Int)) (x : ByteArray) (w : World) (hT : Tr B w A) (h0 : A [] = some (b0, d0)) (hB : B ≤ w.heap.size) (hD : Dl (dgA A)) (hl : sm x = true) (hz : x.size ≤ 65536) :
    Calls Tryz.prog 22 #[.pointer (some ⟨b0, 0, none⟩), .string x] w fun e w' => NewRow w w' e (hy (aa (dgA A) (tx x) (tx x).size) (x.size - 4)) := by
  obtain ⟨i0, hi, hz0, hz1, hz2⟩ := info_parts info2
  have htz := tx_size x
  have CD := hide (fun W (hb : Below w.heap.size w W) => digitsI A B b0 d0 (tx x) W (hT.below hb) h0 (Nat.le_trans hB hb.size) (tx_letters hl) (by omega))
  have NN := hide (aa_nn (dgA A) hD (tx x))
  have A1 := addE1 x (by omega)
  have A2 := addE2 x (by omega)
  have LB : Hid ((aa (dgA A) (tx x) (tx x).size).length = x.size + 3) := hide (by rw [aa_len, htz])
  clear hT h0 hD hl hB
  rw [htz] at CD
  rw [htz] at NN LB ⊢
  clear htz
  generalize aa (dgA A) (tx x) (x.size + 2) = best at *
  generalize (⟨#[46]⟩ : ByteArray) ++ x = x1 at *
  generalize tx x = t at *
  go_enter Tryz.func22, Tryz.ntmps22
  go_wp2_with (go_at_call 38; refine ((unhide CD) _ (Below.refl _ _)).mono ?_; rintro e w5 ⟨⟨g, c, rfl, hg, hgs⟩, hb5⟩)
  have R5 := hide hg
  have B5 := hide hb5
  have hgl : g < w5.heap.size := lt_of_block hg
  have O5 : Hid (w5.ownsRow w5.heap.size 2 1 (.slice none 0 0) ([] : List Int).length (([] : List Int).map (Value.int .i64))) := hide ⟨rfl, .inl ⟨rfl, rfl⟩⟩
  clear hg hb5
  go_loopw [6, 7] (fun v6 v7 wr => ∃ (a k : Nat), v7 = .int .i64 (a : Int) ∧ Hid (a = k + 2) ∧ k ≤ x.size - 4 ∧ Hid (wr.ownsRow w5.heap.size 2 1 v6 (hy best k).length ((hy best k).map (Value.int .i64))) ∧ Hid (Below w5.heap.size w5 wr)) (fun _ v _ => x.size - (intOf v).toNat)
  case atStart => exact ⟨2, 0, rfl, hide rfl, by omega, O5, hide (Below.refl _ _)⟩
  case round =>
    obtain ⟨a, k, rfl, HA, hk, HO, HB⟩ := hrel
    have hhl := hy_len best k
    obtain ⟨va, vc, rfl⟩ := form_ownH (unhide HO)
    have hsz := (unhide HB).size
    by_cases hlt : k < x.size - 4
    · have hI : (a : Int) ≤ (x.size : Int) - 3 := by have := unhide HA; omega
      have ha9 : a ≤ 65536 := by have := unhide HA; omega
      obtain ⟨b, hb⟩ : ∃ b, a + 1 = b := ⟨_, rfl⟩
      have hbI : (a : Int) + 1 = (b : Int) := by omega
      have hb2 : (b : Int) < (x.size : Int) + 2 + 1 := by omega
      have c1 := row_cell (unhide R5) b (by have := unhide HA; rw [unhide LB]; omega)
      have c2 := ((unhide HB).cell (p := ⟨g, b, none⟩) hgl).trans c1
      have hd := (unhide NN) b
      have hm := mod2 hd
      have HX : Hid (hy best (k + 1) = if ((best.getD b 0).tmod 2 == 1) = true then hy best k ++ [(a : Int)] else hy best k) := hide (by rw [hy, ← hb, unhide HA])
      have hw8 := wrap8_2 hm.1 hm.2
      have HA2 : Hid (b = k + 1 + 2) := hide (by have := unhide HA; omega)
      clear c1 hm hd hb
      generalize best.getD b 0 = d at *
      generalize hq : d.tmod 2 = q at *
      cases hq1 : (q == 1)
      · have HX2 : Hid (hy best (k + 1) = hy best k) := hide ((unhide HX).trans (if_neg (by rw [hq1]; decide)))
        go_wp2_with fail
        go_roundw
        case rel => exact ⟨b, k + 1, by go_num, HA2, by omega, hide (by rw [unhide HX2]; exact unhide HO), HB⟩
        case measure => simp [intOf]; omega
      · have HX2 : Hid (hy best (k + 1) = hy best k ++ [(a : Int)]) := hide ((unhide HX).trans (if_pos hq1))
        go_wp2_with (at_builtin; refine wpList_append_own _ rfl _ _ 26 rfl w5.heap.size 2 i0 (.int .i64 0) 1 8 Tryz.underlying26 hi hz0 hz1 hz2 rfl (by decide) _ _ _ rfl (owned_allocH (unhide HO) _) ⟨wr.heap.size, 0, none⟩ 1 1 [.int .i64 (a : Int)] rfl rfl ?c1 ?c2 ?c3 ?c4 ?c5 ?_)
        case c1 => exact cell_one_new _ _ _
        case c2 => intro u hu; simp at hu; subst hu; rfl
        case c3 => unfold maxLen; omega
        case c4 => omega
        case c5 => simp; omega
        intro v' w3 hown' hgrow _
        have R := row_stepH (unhide HB) hsz (unhide HO) hown' hgrow
        rw [← unhide HX2] at R
        have R1 := hide R.1
        have R2 := hide R.2
        clear hown' hgrow R
        go_wp2_with fail
        go_roundw
        case rel => exact ⟨b, k + 1, by go_num, HA2, by omega, R1, R2⟩
        case measure => simp [intOf]; omega
    · obtain rfl : k = x.size - 4 := by omega
      have hI : ¬ (a : Int) ≤ (x.size : Int) - 3 := by have := unhide HA; omega
      go_wp2_with fail
      go_ret
      exact ⟨_, rfl, own_baseH (unhide HO) (unhide B5).size, (unhide B5).trans ((unhide HB).mono (unhide B5).size)⟩
end Hyp
end Go.Proofs.YtcdhaikmedicfaaGreatDoor
/- Hyphens of a word, as the specification tells them: the walk. -/
namespace Go.Proofs.YtcdhaikmedicfaaGreatDoor
namespace Hyp
open Go.RowKit
set_option linter.unusedVariables false
set_option linter.unusedSimpArgs false
theorem wrap64_2 {q : Int} (h0 : 0 ≤ q) (h1 : q < 2) : wrap64 q = q := by
  unfold wrap64
  omega
theorem own_fullI {w : World} {B g n : Nat} {xs : List Value} (h : w.ownsRow B 2 1 (.slice (some ⟨g, 0, none⟩) n n) n xs) : B ≤ g ∧ w.heap[g]? = some (.cells xs.toArray 2 (0, 0)) := by
  rcases h.2 with ⟨h', _⟩ | ⟨g', cap, cur, hv, hb, hh, hn, hm, hs, ht⟩
  · simp at h'
  · simp only [Value.slice.injEq, Option.some.injEq, Addr.mk.injEq, and_true, true_and] at hv
    obtain ⟨rfl, rfl⟩ := hv
    refine ⟨hb, ?_⟩
    have := h.1
    rw [hh]
    congr 2
    rw [← ht, List.take_of_length_le (by rw [Array.length_toList]; omega)]
theorem made64 (m : Nat) : (madeCells #[Value.int .i64 0] m).toList = i64s (List.replicate m 0) := by
  unfold i64s
  rw [List.map_replicate]
  exact toList_madeCells_one _ _
theorem i64s_set (L : List Int) (i : Nat) (x : Int) : (i64s L).toArray.setIfInBounds i (.int .i64 x) = (i64s (L.set i x)).toArray := by
  simp [i64s, List.map_set]
theorem row_cell64 {w : World} {g : Nat} {L : List Int} (h : w.heap[g]? = some (.cells (i64s L).toArray 2 (0, 0))) (i : Nat) (hi : i < L.length) : w.cell? ⟨g, i, none⟩ = some (.int .i64 (L.getD i 0)) := by
  simp [World.cell?, h, i64s, List.getD_eq_getElem?_getD, hi]
theorem set_same (L : List Int) (i : Nat) : L.set i (L.getD i 0) = L := by
  apply List.ext_getElem?
  intro j
  rw [List.getElem?_set]
  by_cases e : i = j
  · subst e
    rw [if_pos rfl]
    by_cases c : i < L.length
    · rw [if_pos c, List.getD_eq_getElem?_getD, List.getElem?_eq_getElem c]; rfl
    · rw [if_neg c, List.getElem?_eq_none (by omega)]
  · rw [if_neg e]
theorem rsk_yes {L O : List Int} {off k : Nat} (h : (rsk L off O k).getD (off + k) 0 < O.getD k 0) : rsk L off O (k + 1) = (rsk L off O k).set (off + k) (O.getD k 0) := by
  rw [rsk]
  congr 1
  omega
theorem rsk_no {L O : List Int} {off k : Nat} (h : ¬ (rsk L off O k).getD (off + k) 0 < O.getD k 0) : rsk L off O (k + 1) = rsk L off O k := by
  rw [rsk, show max ((rsk L off O k).getD (off + k) 0) (O.getD k 0) = (rsk L off O k).getD (off + k) 0 by omega, set_same]
theorem bb_next {t : ByteArray} {P : List ByteArray} {i : Nat} {s : St} (h : pat (nthS P i) = some s) : bb t P (i + 1) = pb t s (bb t P i) (t.size + 1 - s.L.length) := by rw [bb, h]
theorem pb_yes {t : ByteArray} {s : St} {R : List Int} {a : Nat} (h : mt t s a = true) : pb t s R (a + 1) = rsk (pb t s R a) a (s.D ++ [s.d]) (s.D ++ [s.d]).length := if_pos h
theorem pb_no {t : ByteArray} {s : St} {R : List Int} {a : Nat} (h : ¬ mt t s a = true) : pb t s R (a + 1) = pb t s R a := if_neg h
theorem grown_set {w wr : World} {g : Nat} (h0 : w.grownBy wr (some g)) (i : Nat) (u : Value) : w.grownBy (wr.setCell ⟨g, i, none⟩ u) (some g) :=
  ⟨h0.os, h0.tape, h0.output, by have := h0.size; simpa using this, fun j hj e => (Below.heap_setCell _ _ _ _ (fun c => e (by rw [c]))).trans (h0.block j hj e)⟩
theorem grown_drew {w wr : World} {r : Option Nat} (h : w.grownBy wr r) (n : Nat) : w.grownBy (wr.drewN n) r := ⟨h.os, h.tape, h.output, h.size, h.block⟩
set_option maxRecDepth 100000 in
set_option maxHeartbeats 8000000 in
theorem l22H (v : Value) (P : List ByteArray) (x : ByteArray) (w : World) (hv : StrsAt w v P) (hz : ∀ i, i < P.length → (nthS P i).size ≤ 1048576) (hP : P.length ≤ 1000) (hR : ∀ i, i < P.length → right (nthS P i) = true) (hx : x.size ≤ 65536) :
    Calls Tryz.prog 25 #[v, .string x] w fun e w' => NewRow w w' e (hy (bb (tx x) P P.length) (x.size - 4)) := by
  obtain ⟨i0, hi, hz0, hz1, hz2⟩ := info_parts info2
  have htz := tx_size x
  have HTZ := hide htz
  have A1 := addE1 x (by omega)
  have A2 := addE2 x (by omega)
  obtain ⟨va, vc, rfl, hva⟩ := hv
  have HVA : Hid (0 < P.length → ∃ b off, va = some ⟨b, off, none⟩ ∧ b < w.heap.size ∧ ∀ i, i < P.length → w.cell? ⟨b, off + i, none⟩ = some (.string (nthS P i))) := hide (fun h => by
    rcases hva with h0 | ⟨b, off, h1, h2, h3⟩
    · first | omega | (subst h0; simp at h)
    · exact ⟨b, off, h1, h2, h3⟩)
  have CP := hide (fun i (hi : i < P.length) W => patS (nthS P i) (hz i hi) W)
  have HRR := hide hR
  clear hva hz hR
  have ht : (tx x).size ≤ 65538 := by omega
  clear htz
  generalize (⟨#[46]⟩ : ByteArray) ++ x = x1 at *
  generalize tx x = t at *
  go_enter Tryz.func25, Tryz.ntmps25
  go_wp2_with (at_make; refine wpList_make_full _ rfl _ _ 26 rfl w.heap.size 2 i0 (.int .i64 0) 1 Tryz.underlying26 hi hz0 hz1 .i64 .i64 _ _ (t.size + 1) rfl rfl rfl rfl (by first | (rw [hz2]; omega) | (unfold maxLen; omega) | omega) (by first | (rw [hz2]; omega) | (unfold maxLen; omega) | omega) (by first | (rw [hz2]; omega) | (unfold maxLen; omega) | omega) ?_)
  intro w5 hown hgrow
  have hrow := (own_fullI hown).2
  rw [made64] at hrow
  have hbm : Below w.heap.size w w5 := ⟨hgrow.os, hgrow.tape, hgrow.output, hgrow.size, fun k hk => hgrow.block k hk (fun c => by cases c)⟩
  have R5 : Hid (w5.heap[w.heap.size]? = some (.cells (i64s (bb t P 0)).toArray 2 (0, 0))) := hide hrow
  have B5 := hide hbm
  generalize hg : w.heap.size = g at R5 B5
  have GW : Hid (w.heap.size = g) := hide hg
  clear hown hgrow hrow hbm
  go_wp2_with fail
  clear hg
  go_loopw [7] (fun v7 wr => ∃ i : Nat, i ≤ P.length ∧ v7 = .int .i64 (i : Int) ∧ Hid (wr.heap[g]? = some (.cells (i64s (bb t P i)).toArray 2 (0, 0))) ∧ Hid (Below g w wr)) (fun u _ => P.length - (intOf u).toNat)
  case atStart => exact ⟨0, by omega, rfl, R5, B5⟩
  case round =>
    obtain ⟨i, hi2, rfl, HR, HB⟩ := hrel
    by_cases hlt : i < P.length
    · have hI : (i : Int) < (P.length : Int) := by omega
      obtain ⟨b, off, rfl, hbw, hc⟩ := (unhide HVA) (by omega)
      have hgl : g < wr.heap.size := lt_of_block (unhide HR)
      have GWn := unhide GW
      have c1 := ((unhide HB).cell (p := ⟨b, off + i, none⟩) (by show b < g; omega)).trans (hc i hlt)
      have CPi := hide ((unhide CP) i hlt wr)
      have hr := (unhide HRR) i hlt
      obtain ⟨s, hs⟩ : ∃ s, pat (nthS P i) = some s := Option.isSome_iff_exists.1 hr
      have HNX := hide (bb_next (t := t) hs)
      have hok := pat_pr hs
      have o := pr_ok hok.1
      have hL20 : s.L.length ≤ 20 := by
        have hok2 := hok.2
        unfold okP at hok2
        simp only [Bool.and_eq_true, decide_eq_true_eq] at hok2
        exact hok2.2.2.1
      have HDS : Hid ((s.D ++ [s.d]).length = s.L.length + 1) := hide (by simp [o.len])
      have HPT := hide (show right (nthS P i) = true ∧ pat (nthS P i) = some s from ⟨hr, hs⟩)
      clear hc hr hs hok o
      generalize nthS P i = y at *
      go_wp2_with (go_at_call 39; refine (unhide CPi).mono ?_; rintro e w2 ⟨⟨X, dv, rfl, hpt⟩, hb2⟩; obtain ⟨hX, ho⟩ := hpt (unhide HPT).1 s (unhide HPT).2; have HX0 := hide hX; clear hpt hX)
      have hX := unhide HX0
      have hsz := strOfNums_size s.L
      rw [← hX] at hsz
      obtain ⟨a9, c9, e9, hb9⟩ := row_frm ho
      obtain ⟨h, eh, hBh⟩ := hb9 (by omega)
      subst e9
      subst eh
      have hds := unhide HDS
      obtain ⟨dl, hdl⟩ : ∃ dl, s.D.length + 1 = dl := ⟨_, rfl⟩
      rw [hdl] at ho ⊢
      have hhl : h < w2.heap.size := (ho.lt h rfl).2
      have HDL : Hid ((s.D ++ [s.d]).length = dl) := hide (by rw [← hdl]; simp)
      have hdl20 : dl ≤ 21 := by have := unhide HDL; omega
      have HC := hide (fun k (hk : k < dl) => show w2.cell? ⟨h, k, none⟩ = some (.int .i64 ((s.D ++ [s.d]).getD k 0)) from by
        have e : (s.D ++ [s.d])[k]? = some ((s.D ++ [s.d]).getD k 0) := by
          rw [List.getD_eq_getElem?_getD, List.getElem?_eq_getElem (by rw [unhide HDL]; exact hk)]
          rfl
        rw [ho.cellAt k (by omega)]
        unfold i64s
        rw [List.getElem?_map, e]
        rfl)
      have HXL : Hid (X.size = s.L.length) := hide hsz
      have HMT : Hid (∀ a, mt t s a = ((t.extract a (a + X.size)).toList == X.toList)) := hide (fun a => by unfold mt; rw [hX, ← hsz, hX])
      have hX20 : X.size ≤ 20 := by omega
      have HDS2 : Hid (dl = X.size + 1) := hide (by have := unhide HDL; omega)
      obtain ⟨m, hm⟩ : ∃ m, t.size + 1 - X.size = m := ⟨_, rfl⟩
      have HM : Hid (t.size + 1 - X.size = m) := hide hm
      have hmb : m ≤ 65600 := by omega
      have R2 : Hid (w2.heap[g]? = some (.cells (i64s (pb t s (bb t P i) 0)).toArray 2 (0, 0))) := hide ((hb2.block g hgl).trans (unhide HR))
      have B2 : Hid (Below g w w2) := hide ((unhide HB).trans (hb2.mono (by omega)))
      have hgh : g < h := by omega
      rw [← hsz, hm] at HNX
      have hbl := bb_len t P i
      have HBL := hide hbl
      clear hds ho hdl hsz hX hm HDS hb9 hb2 HB HR CPi HPT c1 hbl
      go_wp2_with fail
      go_loopw [11] (fun v11 wa => ∃ a : Nat, a ≤ m ∧ v11 = .int .i64 (a : Int) ∧ Hid (wa.heap[g]? = some (.cells (i64s (pb t s (bb t P i) a)).toArray 2 (0, 0))) ∧ Hid (w2.grownBy wa (some g))) (fun u _ => m - (intOf u).toNat)
      case atStart => exact ⟨0, by omega, rfl, R2, hide ⟨rfl, rfl, rfl, Nat.le_refl _, fun _ _ _ => rfl⟩⟩
      case round =>
        obtain ⟨a, ha, rfl, HRa, HGa⟩ := hrel
        have hplen := pb_len t s (bb t P i) a
        rw [unhide HBL] at hplen
        have HPL := hide hplen
        clear hplen
        by_cases hla : a < m
        · have hq0 : a + X.size ≤ t.size := by have := unhide HM; omega
          obtain ⟨q, hq⟩ : ∃ q, a + X.size = q := ⟨_, rfl⟩
          have hqI : (a : Int) + (X.size : Int) = (q : Int) := by omega
          have hqt : (q : Int) ≤ (t.size : Int) := by omega
          have hq2 : q ≤ t.size := by omega
          have haq : a ≤ q := by omega
          have HMTa := hide ((unhide HMT) a)
          rw [hq] at HMTa
          have HQ := hide hq
          clear hq hq0
          generalize hy : t.extract a q = y2 at *
          by_cases hmt : mt t s a = true
          · have hye : y2.toList = X.toList := by have h1 := unhide HMTa; rw [hmt] at h1; exact beq_iff_eq.1 h1.symm
            have hyb : (y2.toList == X.toList) = true := by rw [hye]; simp
            have HPB := hide (pb_yes (R := bb t P i) hmt)
            rw [unhide HDL] at HPB
            clear hmt HMTa
            have R0 : Hid (wr.heap[g]? = some (.cells (i64s (rsk (pb t s (bb t P i) a) a (s.D ++ [s.d]) 0)).toArray 2 (0, 0))) := HRa
            clear HRa
            have HQM : Hid (q ≤ t.size ∧ a + X.size = q) := hide ⟨hq2, unhide HQ⟩
            go_wp2_with fail
            clear hy hye hyb hqI hqt hq2 haq HQ
            go_loopw [12] (fun v12 wk => ∃ k : Nat, k ≤ dl ∧ v12 = .int .i64 (k : Int) ∧ Hid (wk.heap[g]? = some (.cells (i64s (rsk (pb t s (bb t P i) a) a (s.D ++ [s.d]) k)).toArray 2 (0, 0))) ∧ Hid (w2.grownBy wk (some g))) (fun u _ => dl - (intOf u).toNat)
            case atStart => exact ⟨0, by omega, rfl, R0, HGa⟩
            case round =>
              obtain ⟨k, hk, rfl, HRk, HGk⟩ := hrel
              have hlen := rsk_len (pb t s (bb t P i) a) a (s.D ++ [s.d]) k
              rw [unhide HPL] at hlen
              have HLK := hide hlen
              clear hlen
              by_cases hlk : k < dl
              · have hkI : (k : Int) < (dl : Int) := by omega
                have hrt : a + k < t.size + 1 := by have := unhide HDL; have := unhide HDS2; have := unhide HXL; have := unhide HQM; omega
                have cd := (cell_same ((unhide HGk).block h hhl (fun e => by injection e with e; omega)) k).trans ((unhide HC) k hlk)
                have cb := row_cell64 (unhide HRk) (a + k) (by rw [unhide HLK]; exact hrt)
                have fb : wr.frozen? ⟨g, a + k, none⟩ = false := by simp [World.frozen?, unhide HRk]
                have HS : Hid (∀ n, ((wr.drewN n).setCell ⟨g, a + k, none⟩ (.int .i64 ((s.D ++ [s.d]).getD k 0))).heap[g]? = some (.cells (i64s ((rsk (pb t s (bb t P i) a) a (s.D ++ [s.d]) k).set (a + k) ((s.D ++ [s.d]).getD k 0))).toArray 2 (0, 0))) := hide (fun n => by
                  have h1 := setG_heap (W := wr.drewN n) (unhide HRk) (a + k) (.int .i64 ((s.D ++ [s.d]).getD k 0))
                  rw [i64s_set] at h1
                  exact h1)
                have HGS := hide (fun n => grown_set (grown_drew (unhide HGk) n) (a + k) (.int .i64 ((s.D ++ [s.d]).getD k 0)))
                have HYES := hide (rsk_yes (L := pb t s (bb t P i) a) (O := s.D ++ [s.d]) (off := a) (k := k))
                have HNO := hide (rsk_no (L := pb t s (bb t P i) a) (O := s.D ++ [s.d]) (off := a) (k := k))
                have HGD := hide (fun n => grown_drew (unhide HGk) n)
                have HLE : Hid (k + 1 ≤ dl) := hide hlk
                obtain ⟨r, hr⟩ : ∃ r, a + k = r := ⟨_, rfl⟩
                have hrI : (a : Int) + (k : Int) = (r : Int) := by omega
                have hrt2 : (r : Int) < (t.size : Int) + 1 := by omega
                rw [hr] at cb fb HS HGS HYES HNO
                have HRW : Hid (rsk (pb t s (bb t P i) a) a (s.D ++ [s.d]) (k + 1) = rsk (pb t s (bb t P i) a) a (s.D ++ [s.d]) (k + 1)) := hide rfl
                clear hr hrt
                by_cases hc : (rsk (pb t s (bb t P i) a) a (s.D ++ [s.d]) k).getD r 0 < (s.D ++ [s.d]).getD k 0
                · rw [← (unhide HYES) hc] at HS
                  generalize (rsk (pb t s (bb t P i) a) a (s.D ++ [s.d]) k).getD r 0 = d1 at *
                  generalize (s.D ++ [s.d]).getD k 0 = d2 at *
                  clear HYES HNO HRk
                  go_upto_region 14 with fail
                  go_quiet (fail)
                  go_wp2_with fail
                  first
                    | exact ⟨⟨k + 1, unhide HLE, by go_num, (unhide HS) _, (unhide HGS) _⟩, by have := unhide HLE; simp [intOf]; omega⟩
                    | (go_roundw
                       case rel => exact ⟨k + 1, unhide HLE, by go_num, (unhide HS) _, (unhide HGS) _⟩
                       case measure => have := unhide HLE; simp [intOf]; omega)
                · rw [← (unhide HNO) hc] at HRk
                  generalize (rsk (pb t s (bb t P i) a) a (s.D ++ [s.d]) k).getD r 0 = d1 at *
                  generalize (s.D ++ [s.d]).getD k 0 = d2 at *
                  clear HYES HNO HS HGS
                  go_upto_region 14 with fail
                  go_quiet (fail)
                  go_wp2_with fail
                  go_roundw
                  case rel => exact ⟨k + 1, unhide HLE, by go_num, HRk, (unhide HGD) _⟩
                  case measure => have := unhide HLE; simp [intOf]; omega
              · obtain rfl : k = dl := by omega
                rw [← unhide HPB] at HRk
                go_wp2_with fail
                go_roundw
                case rel => exact ⟨a + 1, by omega, by go_num, HRk, HGk⟩
                case measure => simp [intOf]; omega
          · have hyn : ¬ y2.toList = X.toList := by have h1 := unhide HMTa; intro c; rw [c] at h1; exact hmt (by rw [h1]; simp)
            have hyb : (y2.toList == X.toList) = false := by simpa using hyn
            have HPB := hide (pb_no (R := bb t P i) hmt)
            rw [← unhide HPB] at HRa
            clear hmt HMTa HPB
            go_wp2_with fail
            go_roundw
            case rel => exact ⟨a + 1, by omega, by go_num, HRa, HGa⟩
            case measure => simp [intOf]; omega
        · obtain rfl : a = m := by omega
          obtain ⟨q, hq⟩ : ∃ q, a + X.size = q := ⟨_, rfl⟩
          have hqI : (a : Int) + (X.size : Int) = (q : Int) := by omega
          have hgt : ¬ (q : Int) ≤ (t.size : Int) := by have := unhide HM; omega
          have hq9 : q ≤ 70000 := by have := unhide HM; omega
          clear hq
          rw [← unhide HNX] at HRa
          have HBa : Hid (Below g w wr) := hide ((unhide B2).grown (unhide HGa) (by omega) (fun k e => by injection e with e; omega))
          go_wp2_with fail
          go_roundw
          case rel => exact ⟨i + 1, by omega, by go_num, HRa, HBa⟩
          case measure => simp [intOf]; omega
    · obtain rfl : i = P.length := by omega
      have NN : Hid (∀ j, 0 ≤ (bb t P P.length).getD j 0) := hide (fun j => ((bb_le t P j _ P.length).1 (Int.le_refl _)).1)
      have HBL := hide (bb_len t P P.length)
      have hg5 := lt_of_block (unhide HR)
      have O5 : Hid ((wr.alloc (.cells #[] 2)).ownsRow wr.heap.size 2 1 (.slice (some ⟨wr.heap.size, 0, none⟩) 0 0) ([] : List Int).length (([] : List Int).map (Value.int .i64))) := hide (World.ownsRow_lit wr #[] 0 (Nat.le_refl _) (by unfold maxLen; omega) rfl)
      have B6 : Hid (Below wr.heap.size wr (wr.alloc (.cells #[] 2))) := hide ((Below.refl _ _).alloc (Nat.le_refl _) _)
      obtain ⟨wz, hwz⟩ : ∃ wz, wz = wr := ⟨_, rfl⟩
      have HRz := HR
      have HBz := HB
      have hg6 := (unhide HB).size
      rw [← hwz] at O5 B6 HRz HBz hg5 hg6 ⊢
      clear hwz HR HB
      generalize hbest : bb t P P.length = best at *
      have HBE := hide hbest
      clear hbest
      have GWn := unhide GW
      clear HVA CP HRR R5 B5
      go_wp2_with fail
      go_loopw [13, 14] (fun v13 v14 wq => ∃ (a k : Nat), v14 = .int .i64 (a : Int) ∧ Hid (a = k + 2) ∧ k ≤ x.size - 4 ∧ Hid (wq.ownsRow wz.heap.size 2 1 v13 (hy best k).length ((hy best k).map (Value.int .i64))) ∧ Hid (Below wz.heap.size wz wq)) (fun _ u _ => x.size - (intOf u).toNat)
      case atStart => exact ⟨2, 0, rfl, hide rfl, by omega, O5, B6⟩
      case round =>
        obtain ⟨a, k, rfl, HA, hk, HO, HB⟩ := hrel
        have hhl := hy_len best k
        obtain ⟨va, vc2, rfl⟩ := form_ownH (unhide HO)
        have hsz := (unhide HB).size
        by_cases hlt2 : k < x.size - 4
        · have ha9 : a ≤ 65536 := by have := unhide HA; omega
          obtain ⟨a3, ha3⟩ : ∃ a3, a + 3 = a3 := ⟨_, rfl⟩
          have ha3I : (a : Int) + 3 = (a3 : Int) := by omega
          have hI : (a3 : Int) ≤ (x.size : Int) := by have := unhide HA; omega
          obtain ⟨b, hb⟩ : ∃ b, a + 1 = b := ⟨_, rfl⟩
          have hbI : (a : Int) + 1 = (b : Int) := by omega
          have hb2 : (b : Int) < (t.size : Int) + 1 := by have := unhide HTZ; have := unhide HA; omega
          have c1 := row_cell64 (unhide HRz) b (by have := unhide HA; have := unhide HTZ; rw [unhide HBL]; omega)
          have c2 := ((unhide HB).cell (p := ⟨g, b, none⟩) hg5).trans c1
          have hd := (unhide NN) b
          have hm := mod2 hd
          have HX : Hid (hy best (k + 1) = if ((best.getD b 0).tmod 2 == 1) = true then hy best k ++ [(a : Int)] else hy best k) := hide (by rw [hy, ← hb, unhide HA])
          have hw8 := wrap64_2 hm.1 hm.2
          have HA2 : Hid (b = k + 1 + 2) := hide (by have := unhide HA; omega)
          clear c1 hm hd hb ha3
          generalize best.getD b 0 = d at *
          generalize hq : d.tmod 2 = q at *
          cases hq1 : (q == 1)
          · have HX2 : Hid (hy best (k + 1) = hy best k) := hide ((unhide HX).trans (if_neg (by rw [hq1]; decide)))
            go_wp2_with fail
            go_roundw
            case rel => exact ⟨b, k + 1, by go_num, HA2, by omega, hide (by rw [unhide HX2]; exact unhide HO), HB⟩
            case measure => simp [intOf]; omega
          · have HX2 : Hid (hy best (k + 1) = hy best k ++ [(a : Int)]) := hide ((unhide HX).trans (if_pos hq1))
            go_wp2_with (at_builtin; refine wpList_append_own _ rfl _ _ 26 rfl wz.heap.size 2 i0 (.int .i64 0) 1 8 Tryz.underlying26 hi hz0 hz1 hz2 rfl (by decide) _ _ _ rfl (owned_allocH (unhide HO) _) ⟨wr.heap.size, 0, none⟩ 1 1 [.int .i64 (a : Int)] rfl rfl ?c1 ?c2 ?c3 ?c4 ?c5 ?_)
            case c1 => exact cell_one_new _ _ _
            case c2 => intro u hu; simp at hu; subst hu; rfl
            case c3 => unfold maxLen; omega
            case c4 => omega
            case c5 => simp; omega
            intro v' w3 hown' hgrow _
            have R := row_stepH (unhide HB) hsz (unhide HO) hown' hgrow
            rw [← unhide HX2] at R
            have R1 := hide R.1
            have R2 := hide R.2
            clear hown' hgrow R
            go_wp2_with fail
            go_roundw
            case rel => exact ⟨b, k + 1, by go_num, HA2, by omega, R1, R2⟩
            case measure => simp [intOf]; omega
        · obtain rfl : k = x.size - 4 := by omega
          obtain ⟨a3, ha3⟩ : ∃ a3, a + 3 = a3 := ⟨_, rfl⟩
          have ha3I : (a : Int) + 3 = (a3 : Int) := by omega
          have hI : ¬ (a3 : Int) ≤ (x.size : Int) := by have := unhide HA; omega
          have ha9 : a ≤ 70000 := by have := unhide HA; omega
          clear ha3
          go_wp2_with fail
          go_ret
          have e := unhide HBE
          subst e
          exact ⟨_, rfl, own_baseH (unhide HO) (by omega), by have h1 := unhide HBz; rw [← GWn] at h1; exact h1.trans ((unhide HB).mono (by omega))⟩
end Hyp
end Go.Proofs.YtcdhaikmedicfaaGreatDoor
/- Marks written into rows of numbers and of texts, and found again. -/
namespace Go.Proofs.YtcdhaikmedicfaaGreatDoor
namespace Hyp
open Go.RowKit
set_option linter.unusedVariables false
theorem grown_setM {w w' : World} {g j : Nat} {u : Value} (h : w.grownBy w' (some g)) : w.grownBy (w'.setCell ⟨g, j, none⟩ u) (some g) :=
  ⟨h.os, h.tape, h.output, by simp; exact h.size, fun k hk hne => (heap_setCell_other w' ⟨g, j, none⟩ k u (fun e => hne (by rw [e]))).trans (h.block k hk hne)⟩
theorem grown_refl (w : World) (r : Option Nat) : w.grownBy w r := ⟨rfl, rfl, rfl, Nat.le_refl _, fun _ _ _ => rfl⟩
/-- The marks m0, m0 + 1 and so on. -/
def mkI (m0 : Int) (n : Nat) : List Value := (List.range n).map (fun (i : Nat) => Value.int .i64 (m0 + (i : Int)))
theorem mkI_len (m0 : Int) (n : Nat) : (mkI m0 n).length = n := by simp [mkI]
theorem mkI_at (m0 : Int) (n k : Nat) (h : k < n) : (mkI m0 n)[k]? = some (Value.int .i64 (m0 + (k : Int))) := by simp [mkI, h]
theorem mkI_all {m0 : Int} {n : Nat} {xs : List Value} (hl : xs.length = n) (h : ∀ j, j < n → xs[j]? = some (Value.int .i64 (m0 + (j : Int)))) : xs = mkI m0 n := by
  refine List.ext_getElem? (fun j => ?_)
  by_cases hj : j < n
  · rw [h j hj, mkI_at _ _ _ hj]
  · rw [List.getElem?_eq_none (by omega), List.getElem?_eq_none (by rw [mkI_len]; omega)]
theorem own_pos {w : World} {B n : Nat} {v : Value} {xs : List Value} (h : w.ownsRow B 2 1 v n xs) (hn : 0 < n) : ∃ g cap, v = .slice (some ⟨g, 0, none⟩) n cap := by
  rcases h.2 with ⟨_, h0⟩ | ⟨g, cap, cur, hv, _⟩
  · omega
  · exact ⟨g, cap, hv⟩
end Hyp
end Go.Proofs.YtcdhaikmedicfaaGreatDoor
/- HyphensOf: both sides, and the law. -/
namespace Go.Proofs.YtcdhaikmedicfaaGreatDoor
namespace Hyp
open Go.RowKit
set_option linter.unusedVariables false
set_option linter.unusedSimpArgs false
theorem wrap_btH (s : ByteArray) (i : Nat) : ∀ h, wrap64 (((s[i]'h).toNat : Nat) : Int) = (bt s i : Int) := by
  intro h
  rw [bt_get s i h]
  have := bt_lt s i
  unfold wrap64; omega
theorem hy_congr {B C : List Int} (h : ∀ j, B.getD j 0 = C.getD j 0) : ∀ k, hy B k = hy C k
  | 0 => rfl
  | k + 1 => by rw [hy, hy, h, hy_congr h k]
/-- What HyphensOf tells. -/
def hyO (P : List ByteArray) (x : ByteArray) : List Int := if pf P = 0 ∧ x.size ≤ 65536 ∧ sm x = true then hy (bb (tx x) P P.length) (x.size - 4) else []
theorem hyO_len (P : List ByteArray) (x : ByteArray) : (hyO P x).length ≤ 65536 := by
  unfold hyO
  split
  · rename_i h
    exact Nat.le_trans (hy_len _ _) (by omega)
  · exact Nat.zero_le _
theorem pf_zero {P : List ByteArray} (h : pf P = 0) : P.length ≤ 1000 ∧ gd P P.length = true := by
  unfold pf at h
  split at h
  · cases h
  · split at h
    · exact ⟨by omega, by assumption⟩
    · cases h
theorem gd_right {P : List ByteArray} : ∀ n, gd P n = true → ∀ i, i < n → right (nthS P i) = true
  | 0, _, i, hi => absurd hi (by omega)
  | n + 1, h, i, hi => by
    rw [gd, Bool.and_eq_true, Bool.and_eq_true] at h
    by_cases e : i = n
    · subst e; exact h.2.1
    · exact gd_right n h.1 i (by omega)
theorem rowE (w : World) {l : List Int} (h : l = []) : (w.alloc (.cells #[] 2)).ownsRow w.heap.size 2 1 (.slice (some ⟨w.heap.size, 0, none⟩) 0 0) l.length (l.map (Value.int .i64)) := by
  subst h
  exact World.ownsRow_lit w #[] 0 (Nat.le_refl _) (by unfold maxLen; omega) rfl
theorem rowN (w : World) (B : Nat) {l : List Int} (h : l = []) : w.ownsRow B 2 1 (.slice none 0 0) l.length (l.map (Value.int .i64)) := by
  subst h
  exact ⟨rfl, .inl ⟨rfl, rfl⟩⟩
theorem newRow_on {w w0 w' : World} {e : Ending} {l : List Int} (h : NewRow w0 w' e l) (hb : Below w.heap.size w w0) : NewRow w w' e l := by
  obtain ⟨v, e1, ho, hb2⟩ := h
  exact ⟨v, e1, own_baseH ho hb.size, hb.trans (hb2.mono hb.size)⟩
set_option maxRecDepth 100000 in
set_option maxHeartbeats 2000000 in
theorem tooLongH (x : ByteArray) (w : World) : Calls Tryz.prog 19 #[.string x] w fun e w' => e = .returned (.bool (decide (65536 < x.size))) ∧ w' = w := by
  have e : decide ((65536 : Int) < (x.size : Int)) = decide (65536 < x.size) := decide_eq_decide.2 (by omega)
  go_enter Tryz.func19, Tryz.ntmps19
  go_wp2_with fail
  go_ret
  exact ⟨by first | (show Ending.returned (.bool (decide ((65536 : Int) < (x.size : Int)))) = _; rw [e]) | simp, rfl⟩
set_option maxRecDepth 100000 in
set_option maxHeartbeats 2000000 in
theorem smallS (c : Int) (h0 : 0 ≤ c) (h1 : c < 256) (w : World) : Calls Tryz.prog 24 #[.int .u8 c] w fun e w' => e = .returned (.bool (decide (97 ≤ c) && decide (c ≤ 122))) ∧ w' = w := by
  by_cases a : 97 ≤ c
  · by_cases b : c ≤ 122
    · have e : (decide (97 ≤ c) && decide (c ≤ 122)) = true := by simp [a, b]
      rw [e]
      clear e
      go_enter Tryz.func24, Tryz.ntmps24
      go_wp2
      go_ret
      exact ⟨rfl, rfl⟩
    · have e : (decide (97 ≤ c) && decide (c ≤ 122)) = false := by simp [b]
      rw [e]
      clear e
      go_enter Tryz.func24, Tryz.ntmps24
      go_wp2
      go_ret
      exact ⟨rfl, rfl⟩
  · have e : (decide (97 ≤ c) && decide (c ≤ 122)) = false := by simp [a]
    rw [e]
    clear e
    go_enter Tryz.func24, Tryz.ntmps24
    go_wp2
    go_ret
    exact ⟨rfl, rfl⟩
set_option maxRecDepth 100000 in
set_option maxHeartbeats 4000000 in
theorem specHyph (v : Value) (P : List ByteArray) (x : ByteArray) (w : World) (hv : StrsAt w v P) (hz : ∀ i, i < P.length → (nthS P i).size ≤ 1048576) (hl : P.length ≤ 1048576) (hx : x.size ≤ 1048576) :
    Calls Tryz.prog 7 #[v, .string x] w fun e w' => NewRow w w' e (hyO P x) := by
  by_cases hb : 65536 < x.size
  · have hbI : (65536 : Int) < (x.size : Int) := by omega
    have HR : Hid (hyO P x = []) := hide (if_neg (fun c => by omega))
    go_enter Tryz.func7, Tryz.ntmps7
    go_wp2_with fail
    go_ret
    exact ⟨_, rfl, rowE _ (unhide HR), al1 _ _⟩
  have hbI : ¬ (65536 : Int) < (x.size : Int) := by omega
  have FS := hide (faultS v P w hv hz hl)
  by_cases hp : pf P = 0
  · rw [hp] at FS
    have HV := hide hv
    have CS := hide (fun c h0 h1 W => smallS c h0 h1 W)
    obtain ⟨hP, hg⟩ := pf_zero hp
    have CL := hide (fun W (h : Below w.heap.size w W) => l22H v P x W (hv.below h) hz hP (gd_right _ hg) (by omega))
    have HP := hide hp
    clear hv hz hg hp hl
    go_enter Tryz.func7, Tryz.ntmps7
    go_wp2_with (go_at_call 23; refine (unhide FS).mono ?_; rintro e w1 ⟨rfl, hb1⟩)
    have B1 := hide hb1
    clear hb1 FS
    go_loopw [5] (fun v5 wr => ∃ i : Nat, i ≤ x.size ∧ v5 = .int .i64 (i : Int) ∧ Hid (smP x i) ∧ wr = w1) (fun u _ => x.size - (intOf u).toNat)
    case atStart => exact ⟨0, by omega, rfl, hide (fun i hi => absurd hi (by omega)), rfl⟩
    case round =>
      obtain ⟨i, hi, rfl, HS, hwr⟩ := hrel
      obtain rfl := hwr.symm
      clear hwr
      by_cases hlt : i < x.size
      · have hI : (i : Int) < (x.size : Int) := by omega
        have b0 : (0 : Int) ≤ (bt x i : Int) := by omega
        have b1 : (bt x i : Int) < 256 := by have := bt_lt x i; omega
        have CSi := hide (fun W => (unhide CS) (bt x i : Int) b0 b1 W)
        by_cases hs : 97 ≤ bt x i ∧ bt x i ≤ 122
        · have e : (decide ((97 : Int) ≤ (bt x i : Int)) && decide ((bt x i : Int) ≤ 122)) = true := by simp; omega
          rw [e] at CSi
          have HS2 := hide (smP_next (unhide HS) hs)
          clear e hs
          go_wp2_with (go_at_call 24; rw [bt_get x i hlt]; refine ((unhide CSi) _).mono ?_; rintro e w' ⟨rfl, hw⟩; obtain rfl := hw.symm; clear hw)
          go_roundw
          case rel => exact ⟨i + 1, by omega, by go_num, HS2, trivial⟩
          case measure => simp [intOf]; omega
        · have e : (decide ((97 : Int) ≤ (bt x i : Int)) && decide ((bt x i : Int) ≤ 122)) = false := by simp; omega
          rw [e] at CSi
          have HR : Hid (hyO P x = []) := hide (if_neg (fun c => by rw [sm_no hlt hs] at c; cases c.2.2))
          clear e hs
          go_wp2_with (go_at_call 24; rw [bt_get x i hlt]; refine ((unhide CSi) _).mono ?_; rintro e w' ⟨rfl, hw⟩; obtain rfl := hw.symm; clear hw)
          go_ret
          exact newRow_on ⟨_, rfl, rowE _ (unhide HR), al1 _ _⟩ (unhide B1)
      · obtain rfl : i = x.size := by omega
        have HR : Hid (hyO P x = hy (bb (tx x) P P.length) (x.size - 4)) := hide (if_pos ⟨unhide HP, by omega, sm_yes (unhide HS)⟩)
        rw [← unhide HR] at CL
        go_wp2_with (go_at_call 25; refine ((unhide CL) _ (unhide B1)).mono ?_; rintro e w2 ⟨sv, rfl, ho, hb2⟩)
        go_ret
        exact newRow_on ⟨_, rfl, ho, hb2⟩ (unhide B1)
  · have hp1 : pf P = 1 := by
      unfold pf at hp ⊢
      split
      · rfl
      · rw [if_neg (by assumption)] at hp
        split
        · rw [if_pos (by assumption)] at hp; exact absurd rfl hp
        · rfl
    have HR : Hid (hyO P x = []) := hide (if_neg (fun c => hp c.1))
    rw [hp1] at FS
    clear hv hz hp hp1
    go_enter Tryz.func7, Tryz.ntmps7
    go_wp2_with (go_at_call 23; refine (unhide FS).mono ?_; rintro e w1 ⟨rfl, hb1⟩)
    go_ret
    exact newRow_on ⟨_, rfl, rowE _ (unhide HR), al1 _ _⟩ hb1
set_option maxRecDepth 100000 in
set_option maxHeartbeats 4000000 in
theorem implHyph (v : Value) (P : List ByteArray) (x : ByteArray) (w : World) (hv : StrsAt w v P) (hz : ∀ i, i < P.length → (nthS P i).size ≤ 1048576) (hl : P.length ≤ 1048576) (hx : x.size ≤ 1048576) :
    Calls Tryz.prog 5 #[v, .string x] w fun e w' => NewRow w w' e (hyO P x) := by
  have CT := hide (treeI v P w hv hz hl)
  have TL := hide (fun W => tooLongH x W)
  have CC := hide (fun W => contI x hx W)
  clear hv hz hl
  by_cases hp : pf P = 0
  · have HP := hide hp
    rw [show (pf P == 0) = true by rw [hp]; rfl] at CT
    clear hp
    by_cases hb : 65536 < x.size
    · have HR : Hid (hyO P x = []) := hide (if_neg (fun c => by omega))
      rw [decide_eq_true hb] at TL
      clear hb
      go_enter Tryz.func5, Tryz.ntmps5
      go_wp2_with (first | (go_at_call 18; refine (unhide CT).mono ?_; rintro e w1 ⟨⟨p, rfl, hp⟩, hb1⟩; clear hp) | (go_at_call 19; refine ((unhide TL) _).mono ?_; rintro e w' ⟨rfl, hw⟩; obtain rfl := hw.symm; clear hw))
      go_ret
      exact ⟨_, rfl, rowN _ _ (unhide HR), hb1⟩
    · have hx2 : x.size ≤ 65536 := by omega
      rw [decide_eq_false hb] at TL
      cases hs : sm x
      · have HR : Hid (hyO P x = []) := hide (if_neg (fun c => by rw [hs] at c; cases c.2.2))
        rw [hs] at CC
        clear hs
        go_enter Tryz.func5, Tryz.ntmps5
        go_wp2_with (first | (go_at_call 18; refine (unhide CT).mono ?_; rintro e w1 ⟨⟨p, rfl, hp⟩, hb1⟩; clear hp) | (go_at_call 19; refine ((unhide TL) _).mono ?_; rintro e w' ⟨rfl, hw⟩; obtain rfl := hw.symm; clear hw) | (go_at_call 20; refine ((unhide CC) _).mono ?_; rintro e w2 ⟨rfl, hb2⟩))
        go_ret
        exact ⟨_, rfl, rowN _ _ (unhide HR), hb1.trans (hb2.mono hb1.size)⟩
      · have HR : Hid (hyO P x = hy (bb (tx x) P P.length) (x.size - 4)) := hide (if_pos ⟨unhide HP, hx2, hs⟩)
        have HE : Hid (∀ A : Mp, dgA A = dgs P P.length → hy (aa (dgA A) (tx x) (tx x).size) (x.size - 4) = hyO P x) := hide (fun A h => by
          rw [h, unhide HR]
          exact hy_congr (fun j => aa_bb (tx_letters hs) P P.length j) _)
        have CH := hide (fun (A : Mp) b0 B d0 W hT h0 hB hD => hyphI A b0 B d0 x W hT h0 hB hD hs hx2)
        rw [hs] at CC
        clear hs HR
        go_enter Tryz.func5, Tryz.ntmps5
        go_wp2_with (first | (go_at_call 18; refine (unhide CT).mono ?_; rintro e w1 ⟨⟨p, rfl, hp⟩, hb1⟩; obtain ⟨b0, A, d, rfl, hT, hA, hD⟩ := hp (unhide HP); have HT := hide hT; have HA := hide hA; have HD := hide hD; clear hp hT hA hD) | (go_at_call 19; refine ((unhide TL) _).mono ?_; rintro e w' ⟨rfl, hw⟩; obtain rfl := hw.symm; clear hw) | (go_at_call 20; refine ((unhide CC) _).mono ?_; rintro e w2 ⟨rfl, hb2⟩) | (go_at_call 22; refine ((unhide CH) A b0 w.heap.size d w2 ((unhide HT).below hb2) (unhide HA) (Nat.le_trans hb1.size hb2.size) (by rw [unhide HD]; exact dgs_len P P.length)).mono ?_; rw [(unhide HE) A (unhide HD)]; rintro e w3 ⟨sv, rfl, ho, hb3⟩))
        go_ret
        exact newRow_on ⟨_, rfl, ho, hb3⟩ (hb1.trans (hb2.mono hb1.size))
  · have HR : Hid (hyO P x = []) := hide (if_neg (fun c => hp c.1))
    rw [show (pf P == 0) = false by simpa using hp] at CT
    clear hp
    go_enter Tryz.func5, Tryz.ntmps5
    go_wp2_with (go_at_call 18; refine (unhide CT).mono ?_; rintro e w1 ⟨⟨p, rfl, hp⟩, hb1⟩; clear hp)
    go_ret
    exact ⟨_, rfl, rowN _ _ (unhide HR), hb1⟩
end Hyp
end Go.Proofs.YtcdhaikmedicfaaGreatDoor
