/- Patterns that rise, each of them right: as the specification asks. -/
import Derived.Test.YtgmpkapeemiecaaHypS
import Derived.Test.YtgmpkapeemiecaaStrD
import Derived.Test.YtgmpkapeemiecaaRgnH
import Derived.Test.YtgmpkapeemiecaaHypD
namespace Go.Proofs.Ytgmpkapeemiecaa
namespace Hyp
open Go.RowKit
set_option linter.unusedVariables false
set_option linter.unusedSimpArgs false
/-- The first k patterns are right, and rise. -/
def gd (P : List ByteArray) : Nat → Bool
  | 0 => true
  | k + 1 => gd P k && (right (nthS P k) && (k == 0 || Op.bytesLess (nthS P (k - 1)).toList (nthS P k).toList))
theorem gd_no {P : List ByteArray} {k : Nat} (h : gd P k = false) : ∀ m, gd P (k + m) = false
  | 0 => h
  | m + 1 => by rw [← Nat.add_assoc, gd, gd_no h m]; rfl
theorem gd_bad {P : List ByteArray} {k : Nat} (hk : k < P.length) (h : (right (nthS P k) && (k == 0 || Op.bytesLess (nthS P (k - 1)).toList (nthS P k).toList)) = false) : gd P P.length = false := by
  have : gd P (k + 1) = false := by rw [gd, h, Bool.and_false]
  have := gd_no this (P.length - (k + 1))
  rw [show k + 1 + (P.length - (k + 1)) = P.length by omega] at this
  exact this
theorem gd_next {P : List ByteArray} {k : Nat} (h : gd P k = true) (h2 : (right (nthS P k) && (k == 0 || Op.bytesLess (nthS P (k - 1)).toList (nthS P k).toList)) = true) : gd P (k + 1) = true := by rw [gd, h, h2]; rfl
def pf (P : List ByteArray) : Int := if 1000 < P.length then 1 else if gd P P.length = true then 0 else 1
set_option maxRecDepth 100000 in
set_option maxHeartbeats 4000000 in
theorem faultS_at (b off cap : Nat) (P : List ByteArray) (w : World) (hb : b < w.heap.size) (hc : ∀ i, i < P.length → w.cell? ⟨b, off + i, none⟩ = some (.string (nthS P i))) (hz : ∀ i, i < P.length → (nthS P i).size ≤ 1048576) (hP : P.length ≤ 1000) :
    Calls Try.prog 7 #[.slice (some ⟨b, off, none⟩) P.length cap] w fun e w' => e = .returned (.int .i64 (pf P)) ∧ Below w.heap.size w w' := by
  have hPI : ¬ (1000 : Int) < (P.length : Int) := by omega
  have hmx : Try.prog.follows Departure.mixedOrders = true := by kernel_rfl
  have HC := hide hc
  have CP := hide (fun i (hi : i < P.length) W => patS (nthS P i) (hz i hi) W)
  have HPF : Hid (pf P = if gd P P.length = true then 0 else 1) := hide (by unfold pf; rw [if_neg (by omega)])
  have HBAD := hide (fun k (hk : k < P.length) => gd_bad (P := P) hk)
  clear hc hz
  go_enter Try.func7, Try.ntmps7
  go_wp2_with fail
  go_loopw [3] (fun v3 wr => ∃ i : Nat, i ≤ P.length ∧ v3 = .int .i64 (i : Int) ∧ Hid (gd P i = true) ∧ Hid (Below w.heap.size w wr)) (fun x _ => P.length - (intOf x).toNat)
  case atStart => exact ⟨0, by omega, rfl, hide rfl, hide (Below.refl _ _)⟩
  case round =>
    obtain ⟨i, hi, rfl, HG, HB⟩ := hrel
    by_cases hlt : i < P.length
    · have hI : (i : Int) < (P.length : Int) := by omega
      have c1 := ((unhide HB).cell (p := ⟨b, off + i, none⟩) hb).trans ((unhide HC) i hlt)
      have CPi := hide (fun W => (unhide CP) i hlt W)
      have hbz := (unhide HB).size
      have HNX := hide (fun h => gd_next (P := P) (unhide HG) h)
      have HBD := hide ((unhide HBAD) i hlt)
      generalize hX : nthS P i = X at *
      generalize hr : right X = r at *
      cases r
      · have HR : Hid (pf P = 1) := hide (by rw [unhide HPF, (unhide HBD) rfl]; rfl)
        clear HBD HNX
        go_wp2_with (go_at_call 22; refine ((unhide CPi) _).mono ?_; rintro e w2 ⟨⟨X', v, rfl, _⟩, hb2⟩; have B2 := hide ((unhide HB).trans (hb2.mono (unhide HB).size)); clear hb2)
        refine (wpIn_wide (n := 1)).1 ?_
        refine region_inv hmx (fun lf ac w' => ∃ (b0 b1 b2 b3 b4 b5 b6 b7 b8 b9 b10 b11 b12 b13 b14 b15 b16 b17 : Bool) , lf = #[b0, b1, b2, b3, b4, b5, b6, b7, b8, b9, b10, b11, b12, b13, b14, b15, b16, b17] ∧ ac = { tmps := #[.slice (some ⟨b, off, none⟩) P.length cap, undef, u2, .int .i64 (i : Int), .string X', v, .bool false, .slice (some ⟨b, off, none⟩) P.length cap, .int .i64 (P.length : Int), .bool false, .int .i64 (i : Int), .slice (some ⟨b, off, none⟩) P.length cap, .int .i64 (P.length : Int), .bool true, u14, u15, .tuple #[.string X', v, .bool false], .slice (some ⟨b, off, none⟩) P.length cap, .int .i64 (i : Int), .pointer (some ⟨b, off + i, none⟩), .string X, .tuple #[.string X', v, .bool false], .string X', v, .bool false, (bif b0 then .bool false else u25), (bif b1 then .bool true else u26), (bif b2 then .bool true else u27), (bif b3 then undef else u28), (bif b4 then undef else u29), (bif b5 then undef else u30), (bif b6 then undef else u31), (bif b7 then undef else u32), (bif b8 then undef else u33), (bif b9 then undef else u34), (bif b10 then undef else u35), (bif b11 then undef else u36), (bif b12 then undef else u37), (bif b13 then undef else u38), (bif b14 then undef else u39), (bif b15 then undef else u40), (bif b16 then undef else u41), (bif b17 then .bool true else u42)], defers := [] } ∧ w' = w2.drew) (by kernel_rfl) ?size ?first ?step ?last
        case size =>
          rintro lf ac w' ⟨b0, b1, b2, b3, b4, b5, b6, b7, b8, b9, b10, b11, b12, b13, b14, b15, b16, b17, rfl, _⟩
          rfl
        case first => exact ⟨false, false, false, false, false, false, false, false, false, false, false, false, false, false, false, false, false, false, rfl, rfl, rfl⟩
        case step =>
          rintro ii lf ac w' ⟨b0, b1, b2, b3, b4, b5, b6, b7, b8, b9, b10, b11, b12, b13, b14, b15, b16, b17, rfl, rfl, rfl⟩ hr
          have hr := mem_ready.1 hr
          rcases ii with _ | _ | _ | _ | _ | _ | _ | _ | _ | _ | _ | _ | _ | _ | _ | _ | _ | _ | ii
          · simp [Region.binds] at hr
            repeat (rcases hr with ⟨hq, hr⟩)
            subst_vars
            refine wpOpIn_step rfl (fun K hK => ?_)
            go_simp
            refine hK _ _ ⟨true, _, _, _, _, _, _, _, _, _, _, _, _, _, _, _, _, _, rfl, rfl, rfl⟩
          · simp [Region.binds] at hr
            repeat (rcases hr with ⟨hq, hr⟩)
            subst_vars
            refine wpOpIn_step rfl (fun K hK => ?_)
            go_simp
            refine hK _ _ ⟨_, true, _, _, _, _, _, _, _, _, _, _, _, _, _, _, _, _, rfl, rfl, rfl⟩
          · simp [Region.binds] at hr
            repeat (rcases hr with ⟨hq, hr⟩)
            subst_vars
            refine wpOpIn_step rfl (fun K hK => ?_)
            go_simp
            refine hK _ _ ⟨_, _, true, _, _, _, _, _, _, _, _, _, _, _, _, _, _, _, rfl, rfl, rfl⟩
          · simp [Region.binds] at hr
            repeat (rcases hr with ⟨hq, hr⟩)
            subst_vars
            refine wpOpIn_step rfl (fun K hK => ?_)
            go_simp
            refine hK _ _ ⟨_, _, _, true, _, _, _, _, _, _, _, _, _, _, _, _, _, _, rfl, rfl, rfl⟩
          · simp [Region.binds] at hr
            repeat (rcases hr with ⟨hq, hr⟩)
            subst_vars
            refine wpOpIn_step rfl (fun K hK => ?_)
            go_simp
            refine hK _ _ ⟨_, _, _, _, true, _, _, _, _, _, _, _, _, _, _, _, _, _, rfl, rfl, rfl⟩
          · simp [Region.binds] at hr
            repeat (rcases hr with ⟨hq, hr⟩)
            subst_vars
            refine wpOpIn_step rfl (fun K hK => ?_)
            go_simp
            refine hK _ _ ⟨_, _, _, _, _, true, _, _, _, _, _, _, _, _, _, _, _, _, rfl, rfl, rfl⟩
          · simp [Region.binds] at hr
            repeat (rcases hr with ⟨hq, hr⟩)
            subst_vars
            refine wpOpIn_step rfl (fun K hK => ?_)
            go_simp
            refine hK _ _ ⟨_, _, _, _, _, _, true, _, _, _, _, _, _, _, _, _, _, _, rfl, rfl, rfl⟩
          · simp [Region.binds] at hr
            repeat (rcases hr with ⟨hq, hr⟩)
            subst_vars
            refine wpOpIn_step rfl (fun K hK => ?_)
            go_simp
            refine hK _ _ ⟨_, _, _, _, _, _, _, true, _, _, _, _, _, _, _, _, _, _, rfl, rfl, rfl⟩
          · simp [Region.binds] at hr
            repeat (rcases hr with ⟨hq, hr⟩)
            subst_vars
            refine wpOpIn_step rfl (fun K hK => ?_)
            go_simp
            refine hK _ _ ⟨_, _, _, _, _, _, _, _, true, _, _, _, _, _, _, _, _, _, rfl, rfl, rfl⟩
          · simp [Region.binds] at hr
            repeat (rcases hr with ⟨hq, hr⟩)
            subst_vars
            refine wpOpIn_step rfl (fun K hK => ?_)
            go_simp
            refine hK _ _ ⟨_, _, _, _, _, _, _, _, _, true, _, _, _, _, _, _, _, _, rfl, rfl, rfl⟩
          · simp [Region.binds] at hr
            repeat (rcases hr with ⟨hq, hr⟩)
            subst_vars
            refine wpOpIn_step rfl (fun K hK => ?_)
            go_simp
            refine hK _ _ ⟨_, _, _, _, _, _, _, _, _, _, true, _, _, _, _, _, _, _, rfl, rfl, rfl⟩
          · simp [Region.binds] at hr
            repeat (rcases hr with ⟨hq, hr⟩)
            subst_vars
            refine wpOpIn_step rfl (fun K hK => ?_)
            go_simp
            refine hK _ _ ⟨_, _, _, _, _, _, _, _, _, _, _, true, _, _, _, _, _, _, rfl, rfl, rfl⟩
          · simp [Region.binds] at hr
            repeat (rcases hr with ⟨hq, hr⟩)
            subst_vars
            refine wpOpIn_step rfl (fun K hK => ?_)
            go_simp
            refine hK _ _ ⟨_, _, _, _, _, _, _, _, _, _, _, _, true, _, _, _, _, _, rfl, rfl, rfl⟩
          · simp [Region.binds] at hr
            repeat (rcases hr with ⟨hq, hr⟩)
            subst_vars
            refine wpOpIn_step rfl (fun K hK => ?_)
            go_simp
            refine hK _ _ ⟨_, _, _, _, _, _, _, _, _, _, _, _, _, true, _, _, _, _, rfl, rfl, rfl⟩
          · simp [Region.binds] at hr
            repeat (rcases hr with ⟨hq, hr⟩)
            subst_vars
            refine wpOpIn_step rfl (fun K hK => ?_)
            go_simp
            refine hK _ _ ⟨_, _, _, _, _, _, _, _, _, _, _, _, _, _, true, _, _, _, rfl, rfl, rfl⟩
          · simp [Region.binds] at hr
            repeat (rcases hr with ⟨hq, hr⟩)
            subst_vars
            refine wpOpIn_step rfl (fun K hK => ?_)
            go_simp
            refine hK _ _ ⟨_, _, _, _, _, _, _, _, _, _, _, _, _, _, _, true, _, _, rfl, rfl, rfl⟩
          · simp [Region.binds] at hr
            repeat (rcases hr with ⟨hq, hr⟩)
            subst_vars
            refine wpOpIn_step rfl (fun K hK => ?_)
            go_simp
            refine hK _ _ ⟨_, _, _, _, _, _, _, _, _, _, _, _, _, _, _, _, true, _, rfl, rfl, rfl⟩
          · simp [Region.binds] at hr
            repeat (rcases hr with ⟨hq, hr⟩)
            subst_vars
            refine wpOpIn_step rfl (fun K hK => ?_)
            go_simp
            refine hK _ _ ⟨_, _, _, _, _, _, _, _, _, _, _, _, _, _, _, _, _, true, rfl, rfl, rfl⟩
          · simp at hr
        case last =>
          rintro ac W4 ⟨f0, f1, f2, f3, f4, f5, f6, f7, f8, f9, f10, f11, f12, f13, f14, f15, f16, f17, hlf, rfl, rfl⟩
          have hlf := congrArg Array.toList hlf
          simp at hlf
          repeat (rcases hlf with ⟨hq, hlf⟩)
          subst_vars
          go_wp2_with fail
          go_ret
          exact ⟨by rw [unhide HR]; rfl, bdrew (unhide B2) 1⟩
      · by_cases h0 : i = 0
        · have h0I : ¬ (0 : Int) < (i : Int) := by omega
          have HN := hide ((unhide HNX) (by rw [h0]; rfl))
          have h0d : decide (0 < i) = false := by simp; omega
          clear HBD HNX h0
          go_wp2_with (go_at_call 22; refine ((unhide CPi) _).mono ?_; rintro e w2 ⟨⟨X', v, rfl, _⟩, hb2⟩; have B2 := hide ((unhide HB).trans (hb2.mono (unhide HB).size)); clear hb2)
          refine (wpIn_wide (n := 1)).1 ?_
          refine region_inv hmx (fun lf ac w' => ∃ (b0 b1 b2 b3 b4 b5 b6 b7 b8 b9 b10 b11 b12 b13 b14 b15 b16 b17 : Bool) , lf = #[b0, b1, b2, b3, b4, b5, b6, b7, b8, b9, b10, b11, b12, b13, b14, b15, b16, b17] ∧ ac = { tmps := #[.slice (some ⟨b, off, none⟩) P.length cap, undef, u2, .int .i64 (i : Int), .string X', v, .bool true, .slice (some ⟨b, off, none⟩) P.length cap, .int .i64 (P.length : Int), .bool false, .int .i64 (i : Int), .slice (some ⟨b, off, none⟩) P.length cap, .int .i64 (P.length : Int), .bool true, u14, u15, .tuple #[.string X', v, .bool true], .slice (some ⟨b, off, none⟩) P.length cap, .int .i64 (i : Int), .pointer (some ⟨b, off + i, none⟩), .string X, .tuple #[.string X', v, .bool true], .string X', v, .bool true, (bif b0 then .bool true else u25), (bif b1 then .bool false else u26), (bif b2 then .bool false else u27), (bif b3 then .int .i64 (i : Int) else u28), (bif b4 then .bool false else u29), (bif b5 then .bool false else u30), (bif b6 then undef else u31), (bif b7 then undef else u32), (bif b8 then undef else u33), (bif b9 then undef else u34), (bif b10 then undef else u35), (bif b11 then undef else u36), (bif b12 then undef else u37), (bif b13 then undef else u38), (bif b14 then undef else u39), (bif b15 then undef else u40), (bif b16 then .bool false else u41), (bif b17 then .bool false else u42)], defers := [] } ∧ w' = w2.drew) (by kernel_rfl) ?size ?first ?step ?last
          case size =>
            rintro lf ac w' ⟨b0, b1, b2, b3, b4, b5, b6, b7, b8, b9, b10, b11, b12, b13, b14, b15, b16, b17, rfl, _⟩
            rfl
          case first => exact ⟨false, false, false, false, false, false, false, false, false, false, false, false, false, false, false, false, false, false, rfl, rfl, rfl⟩
          case step =>
            rintro ii lf ac w' ⟨b0, b1, b2, b3, b4, b5, b6, b7, b8, b9, b10, b11, b12, b13, b14, b15, b16, b17, rfl, rfl, rfl⟩ hr
            have hr := mem_ready.1 hr
            rcases ii with _ | _ | _ | _ | _ | _ | _ | _ | _ | _ | _ | _ | _ | _ | _ | _ | _ | _ | ii
            · simp [Region.binds] at hr
              repeat (rcases hr with ⟨hq, hr⟩)
              subst_vars
              refine wpOpIn_step rfl (fun K hK => ?_)
              go_simp
              refine hK _ _ ⟨true, _, _, _, _, _, _, _, _, _, _, _, _, _, _, _, _, _, rfl, rfl, rfl⟩
            · simp [Region.binds] at hr
              repeat (rcases hr with ⟨hq, hr⟩)
              subst_vars
              refine wpOpIn_step rfl (fun K hK => ?_)
              go_simp
              refine hK _ _ ⟨_, true, _, _, _, _, _, _, _, _, _, _, _, _, _, _, _, _, rfl, rfl, rfl⟩
            · simp [Region.binds] at hr
              repeat (rcases hr with ⟨hq, hr⟩)
              subst_vars
              refine wpOpIn_step rfl (fun K hK => ?_)
              go_simp
              refine hK _ _ ⟨_, _, true, _, _, _, _, _, _, _, _, _, _, _, _, _, _, _, rfl, rfl, rfl⟩
            · simp [Region.binds] at hr
              repeat (rcases hr with ⟨hq, hr⟩)
              subst_vars
              refine wpOpIn_step rfl (fun K hK => ?_)
              go_simp
              refine hK _ _ ⟨_, _, _, true, _, _, _, _, _, _, _, _, _, _, _, _, _, _, rfl, rfl, rfl⟩
            · simp [Region.binds] at hr
              repeat (rcases hr with ⟨hq, hr⟩)
              subst_vars
              refine wpOpIn_step rfl (fun K hK => ?_)
              go_simp
              refine hK _ _ ⟨_, _, _, _, true, _, _, _, _, _, _, _, _, _, _, _, _, _, rfl, rfl, rfl⟩
            · simp [Region.binds] at hr
              repeat (rcases hr with ⟨hq, hr⟩)
              subst_vars
              refine wpOpIn_step rfl (fun K hK => ?_)
              go_simp
              refine hK _ _ ⟨_, _, _, _, _, true, _, _, _, _, _, _, _, _, _, _, _, _, rfl, rfl, rfl⟩
            · simp [Region.binds] at hr
              repeat (rcases hr with ⟨hq, hr⟩)
              subst_vars
              refine wpOpIn_step rfl (fun K hK => ?_)
              go_simp
              refine hK _ _ ⟨_, _, _, _, _, _, true, _, _, _, _, _, _, _, _, _, _, _, rfl, rfl, rfl⟩
            · simp [Region.binds] at hr
              repeat (rcases hr with ⟨hq, hr⟩)
              subst_vars
              refine wpOpIn_step rfl (fun K hK => ?_)
              go_simp
              refine hK _ _ ⟨_, _, _, _, _, _, _, true, _, _, _, _, _, _, _, _, _, _, rfl, rfl, rfl⟩
            · simp [Region.binds] at hr
              repeat (rcases hr with ⟨hq, hr⟩)
              subst_vars
              refine wpOpIn_step rfl (fun K hK => ?_)
              go_simp
              refine hK _ _ ⟨_, _, _, _, _, _, _, _, true, _, _, _, _, _, _, _, _, _, rfl, rfl, rfl⟩
            · simp [Region.binds] at hr
              repeat (rcases hr with ⟨hq, hr⟩)
              subst_vars
              refine wpOpIn_step rfl (fun K hK => ?_)
              go_simp
              refine hK _ _ ⟨_, _, _, _, _, _, _, _, _, true, _, _, _, _, _, _, _, _, rfl, rfl, rfl⟩
            · simp [Region.binds] at hr
              repeat (rcases hr with ⟨hq, hr⟩)
              subst_vars
              refine wpOpIn_step rfl (fun K hK => ?_)
              go_simp
              refine hK _ _ ⟨_, _, _, _, _, _, _, _, _, _, true, _, _, _, _, _, _, _, rfl, rfl, rfl⟩
            · simp [Region.binds] at hr
              repeat (rcases hr with ⟨hq, hr⟩)
              subst_vars
              refine wpOpIn_step rfl (fun K hK => ?_)
              go_simp
              refine hK _ _ ⟨_, _, _, _, _, _, _, _, _, _, _, true, _, _, _, _, _, _, rfl, rfl, rfl⟩
            · simp [Region.binds] at hr
              repeat (rcases hr with ⟨hq, hr⟩)
              subst_vars
              refine wpOpIn_step rfl (fun K hK => ?_)
              go_simp
              refine hK _ _ ⟨_, _, _, _, _, _, _, _, _, _, _, _, true, _, _, _, _, _, rfl, rfl, rfl⟩
            · simp [Region.binds] at hr
              repeat (rcases hr with ⟨hq, hr⟩)
              subst_vars
              refine wpOpIn_step rfl (fun K hK => ?_)
              go_simp
              refine hK _ _ ⟨_, _, _, _, _, _, _, _, _, _, _, _, _, true, _, _, _, _, rfl, rfl, rfl⟩
            · simp [Region.binds] at hr
              repeat (rcases hr with ⟨hq, hr⟩)
              subst_vars
              refine wpOpIn_step rfl (fun K hK => ?_)
              go_simp
              refine hK _ _ ⟨_, _, _, _, _, _, _, _, _, _, _, _, _, _, true, _, _, _, rfl, rfl, rfl⟩
            · simp [Region.binds] at hr
              repeat (rcases hr with ⟨hq, hr⟩)
              subst_vars
              refine wpOpIn_step rfl (fun K hK => ?_)
              go_simp
              refine hK _ _ ⟨_, _, _, _, _, _, _, _, _, _, _, _, _, _, _, true, _, _, rfl, rfl, rfl⟩
            · simp [Region.binds] at hr
              repeat (rcases hr with ⟨hq, hr⟩)
              subst_vars
              refine wpOpIn_step rfl (fun K hK => ?_)
              go_simp
              refine hK _ _ ⟨_, _, _, _, _, _, _, _, _, _, _, _, _, _, _, _, true, _, rfl, rfl, rfl⟩
            · simp [Region.binds] at hr
              repeat (rcases hr with ⟨hq, hr⟩)
              subst_vars
              refine wpOpIn_step rfl (fun K hK => ?_)
              go_simp
              refine hK _ _ ⟨_, _, _, _, _, _, _, _, _, _, _, _, _, _, _, _, _, true, rfl, rfl, rfl⟩
            · simp at hr
          case last =>
            rintro ac W4 ⟨f0, f1, f2, f3, f4, f5, f6, f7, f8, f9, f10, f11, f12, f13, f14, f15, f16, f17, hlf, rfl, rfl⟩
            have hlf := congrArg Array.toList hlf
            simp at hlf
            repeat (rcases hlf with ⟨hq, hlf⟩)
            subst_vars
            go_wp2_with fail
            go_round
            case rel => exact ⟨i + 1, by omega, by go_num, HN, hide (bdrew (unhide B2) 1)⟩
            case measure => simp [intOf]; omega
        · have h0I : (0 : Int) < (i : Int) := by omega
          have h0b : (i == 0) = false := by simpa using h0
          have hm1 : (i : Int) - 1 = ((i - 1 : Nat) : Int) := by omega
          have hm2 : ((i - 1 : Nat) : Int) < (P.length : Int) := by omega
          have h0d : decide (0 < i) = true := by simp; omega
          have hwi : IntKind.i64.wrap ((i - 1 : Nat) : Int) = ((i - 1 : Nat) : Int) := by simp [IntKind.wrap, IntKind.bits, IntKind.signed]; omega
          have c0 := ((unhide HB).cell (p := ⟨b, off + (i - 1), none⟩) hb).trans ((unhide HC) (i - 1) (by omega))
          rw [h0b] at HNX HBD
          generalize nthS P (i - 1) = Z at *
          cases hq : Op.bytesLess Z.toList X.toList
          · have HR : Hid (pf P = 1) := hide (by rw [unhide HPF, (unhide HBD) (by rw [hq]; rfl)]; rfl)
            clear HBD HNX
            go_wp2_with (go_at_call 22; refine ((unhide CPi) _).mono ?_; rintro e w2 ⟨⟨X', v, rfl, _⟩, hb2⟩; have B2 := hide ((unhide HB).trans (hb2.mono (unhide HB).size)); have d1 := (hb2.cell (p := ⟨b, off + i, none⟩) (by show b < _; omega)).trans c1; have d0 := (hb2.cell (p := ⟨b, off + (i - 1), none⟩) (by show b < _; omega)).trans c0; clear hb2)
            clear c1 c0
            refine (wpIn_wide (n := 1)).1 ?_
            refine region_inv hmx (fun lf ac w' => ∃ (b0 b1 b2 b3 b4 b5 b6 b7 b8 b9 b10 b11 b12 b13 b14 b15 b16 b17 : Bool) , lf = #[b0, b1, b2, b3, b4, b5, b6, b7, b8, b9, b10, b11, b12, b13, b14, b15, b16, b17] ∧ ac = { tmps := #[.slice (some ⟨b, off, none⟩) P.length cap, undef, u2, .int .i64 (i : Int), .string X', v, .bool true, .slice (some ⟨b, off, none⟩) P.length cap, .int .i64 (P.length : Int), .bool false, .int .i64 (i : Int), .slice (some ⟨b, off, none⟩) P.length cap, .int .i64 (P.length : Int), .bool true, u14, u15, .tuple #[.string X', v, .bool true], .slice (some ⟨b, off, none⟩) P.length cap, .int .i64 (i : Int), .pointer (some ⟨b, off + i, none⟩), .string X, .tuple #[.string X', v, .bool true], .string X', v, .bool true, (bif b0 then .bool true else u25), (bif b1 then .bool false else u26), (bif b2 then .bool false else u27), (bif b3 then .int .i64 (i : Int) else u28), (bif b4 then .bool true else u29), (bif b5 then .bool true else u30), (bif b6 then .slice (some ⟨b, off, none⟩) P.length cap else u31), (bif b7 then .int .i64 (i : Int) else u32), (bif b8 then .int .i64 ((i - 1 : Nat) : Int) else u33), (bif b9 then .pointer (some ⟨b, off + (i - 1), none⟩) else u34), (bif b10 then .string Z else u35), (bif b11 then .slice (some ⟨b, off, none⟩) P.length cap else u36), (bif b12 then .int .i64 (i : Int) else u37), (bif b13 then .pointer (some ⟨b, off + i, none⟩) else u38), (bif b14 then .string X else u39), (bif b15 then .bool true else u40), (bif b16 then .bool true else u41), (bif b17 then .bool true else u42)], defers := [] } ∧ w' = w2.drew) (by kernel_rfl) ?size ?first ?step ?last
            case size =>
              rintro lf ac w' ⟨b0, b1, b2, b3, b4, b5, b6, b7, b8, b9, b10, b11, b12, b13, b14, b15, b16, b17, rfl, _⟩
              rfl
            case first => exact ⟨false, false, false, false, false, false, false, false, false, false, false, false, false, false, false, false, false, false, rfl, rfl, rfl⟩
            case step =>
              rintro ii lf ac w' ⟨b0, b1, b2, b3, b4, b5, b6, b7, b8, b9, b10, b11, b12, b13, b14, b15, b16, b17, rfl, rfl, rfl⟩ hr
              have hr := mem_ready.1 hr
              rcases ii with _ | _ | _ | _ | _ | _ | _ | _ | _ | _ | _ | _ | _ | _ | _ | _ | _ | _ | ii
              · simp [Region.binds] at hr
                repeat (rcases hr with ⟨hq, hr⟩)
                subst_vars
                refine wpOpIn_step rfl (fun K hK => ?_)
                go_simp
                refine hK _ _ ⟨true, _, _, _, _, _, _, _, _, _, _, _, _, _, _, _, _, _, rfl, rfl, rfl⟩
              · simp [Region.binds] at hr
                repeat (rcases hr with ⟨hq, hr⟩)
                subst_vars
                refine wpOpIn_step rfl (fun K hK => ?_)
                go_simp
                refine hK _ _ ⟨_, true, _, _, _, _, _, _, _, _, _, _, _, _, _, _, _, _, rfl, rfl, rfl⟩
              · simp [Region.binds] at hr
                repeat (rcases hr with ⟨hq, hr⟩)
                subst_vars
                refine wpOpIn_step rfl (fun K hK => ?_)
                go_simp
                refine hK _ _ ⟨_, _, true, _, _, _, _, _, _, _, _, _, _, _, _, _, _, _, rfl, rfl, rfl⟩
              · simp [Region.binds] at hr
                repeat (rcases hr with ⟨hq, hr⟩)
                subst_vars
                refine wpOpIn_step rfl (fun K hK => ?_)
                go_simp
                refine hK _ _ ⟨_, _, _, true, _, _, _, _, _, _, _, _, _, _, _, _, _, _, rfl, rfl, rfl⟩
              · simp [Region.binds] at hr
                repeat (rcases hr with ⟨hq, hr⟩)
                subst_vars
                refine wpOpIn_step rfl (fun K hK => ?_)
                go_simp
                refine hK _ _ ⟨_, _, _, _, true, _, _, _, _, _, _, _, _, _, _, _, _, _, rfl, rfl, rfl⟩
              · simp [Region.binds] at hr
                repeat (rcases hr with ⟨hq, hr⟩)
                subst_vars
                refine wpOpIn_step rfl (fun K hK => ?_)
                go_simp
                refine hK _ _ ⟨_, _, _, _, _, true, _, _, _, _, _, _, _, _, _, _, _, _, rfl, rfl, rfl⟩
              · simp [Region.binds] at hr
                repeat (rcases hr with ⟨hq, hr⟩)
                subst_vars
                refine wpOpIn_step rfl (fun K hK => ?_)
                go_simp
                refine hK _ _ ⟨_, _, _, _, _, _, true, _, _, _, _, _, _, _, _, _, _, _, rfl, rfl, rfl⟩
              · simp [Region.binds] at hr
                repeat (rcases hr with ⟨hq, hr⟩)
                subst_vars
                refine wpOpIn_step rfl (fun K hK => ?_)
                go_simp
                refine hK _ _ ⟨_, _, _, _, _, _, _, true, _, _, _, _, _, _, _, _, _, _, rfl, rfl, rfl⟩
              · simp [Region.binds] at hr
                repeat (rcases hr with ⟨hq, hr⟩)
                subst_vars
                refine wpOpIn_step rfl (fun K hK => ?_)
                go_simp
                refine hK _ _ ⟨_, _, _, _, _, _, _, _, true, _, _, _, _, _, _, _, _, _, rfl, rfl, rfl⟩
              · simp [Region.binds] at hr
                repeat (rcases hr with ⟨hq, hr⟩)
                subst_vars
                refine wpOpIn_step rfl (fun K hK => ?_)
                go_simp
                refine hK _ _ ⟨_, _, _, _, _, _, _, _, _, true, _, _, _, _, _, _, _, _, rfl, rfl, rfl⟩
              · simp [Region.binds] at hr
                repeat (rcases hr with ⟨hq, hr⟩)
                subst_vars
                refine wpOpIn_step rfl (fun K hK => ?_)
                go_simp
                refine hK _ _ ⟨_, _, _, _, _, _, _, _, _, _, true, _, _, _, _, _, _, _, rfl, rfl, rfl⟩
              · simp [Region.binds] at hr
                repeat (rcases hr with ⟨hq, hr⟩)
                subst_vars
                refine wpOpIn_step rfl (fun K hK => ?_)
                go_simp
                refine hK _ _ ⟨_, _, _, _, _, _, _, _, _, _, _, true, _, _, _, _, _, _, rfl, rfl, rfl⟩
              · simp [Region.binds] at hr
                repeat (rcases hr with ⟨hq, hr⟩)
                subst_vars
                refine wpOpIn_step rfl (fun K hK => ?_)
                go_simp
                refine hK _ _ ⟨_, _, _, _, _, _, _, _, _, _, _, _, true, _, _, _, _, _, rfl, rfl, rfl⟩
              · simp [Region.binds] at hr
                repeat (rcases hr with ⟨hq, hr⟩)
                subst_vars
                refine wpOpIn_step rfl (fun K hK => ?_)
                go_simp
                refine hK _ _ ⟨_, _, _, _, _, _, _, _, _, _, _, _, _, true, _, _, _, _, rfl, rfl, rfl⟩
              · simp [Region.binds] at hr
                repeat (rcases hr with ⟨hq, hr⟩)
                subst_vars
                refine wpOpIn_step rfl (fun K hK => ?_)
                go_simp
                refine hK _ _ ⟨_, _, _, _, _, _, _, _, _, _, _, _, _, _, true, _, _, _, rfl, rfl, rfl⟩
              · simp [Region.binds] at hr
                repeat (rcases hr with ⟨hq, hr⟩)
                subst_vars
                refine wpOpIn_step rfl (fun K hK => ?_)
                go_simp
                refine hK _ _ ⟨_, _, _, _, _, _, _, _, _, _, _, _, _, _, _, true, _, _, rfl, rfl, rfl⟩
              · simp [Region.binds] at hr
                repeat (rcases hr with ⟨hq, hr⟩)
                subst_vars
                refine wpOpIn_step rfl (fun K hK => ?_)
                go_simp
                refine hK _ _ ⟨_, _, _, _, _, _, _, _, _, _, _, _, _, _, _, _, true, _, rfl, rfl, rfl⟩
              · simp [Region.binds] at hr
                repeat (rcases hr with ⟨hq, hr⟩)
                subst_vars
                refine wpOpIn_step rfl (fun K hK => ?_)
                go_simp
                refine hK _ _ ⟨_, _, _, _, _, _, _, _, _, _, _, _, _, _, _, _, _, true, rfl, rfl, rfl⟩
              · simp at hr
            case last =>
              rintro ac W4 ⟨f0, f1, f2, f3, f4, f5, f6, f7, f8, f9, f10, f11, f12, f13, f14, f15, f16, f17, hlf, rfl, rfl⟩
              have hlf := congrArg Array.toList hlf
              simp at hlf
              repeat (rcases hlf with ⟨hq, hlf⟩)
              subst_vars
              go_wp2_with fail
              go_ret
              exact ⟨by rw [unhide HR]; rfl, bdrew (unhide B2) 1⟩
          · have HN := hide ((unhide HNX) (by rw [hq]; rfl))
            clear HBD HNX
            go_wp2_with (go_at_call 22; refine ((unhide CPi) _).mono ?_; rintro e w2 ⟨⟨X', v, rfl, _⟩, hb2⟩; have B2 := hide ((unhide HB).trans (hb2.mono (unhide HB).size)); have d1 := (hb2.cell (p := ⟨b, off + i, none⟩) (by show b < _; omega)).trans c1; have d0 := (hb2.cell (p := ⟨b, off + (i - 1), none⟩) (by show b < _; omega)).trans c0; clear hb2)
            clear c1 c0
            refine (wpIn_wide (n := 1)).1 ?_
            refine region_inv hmx (fun lf ac w' => ∃ (b0 b1 b2 b3 b4 b5 b6 b7 b8 b9 b10 b11 b12 b13 b14 b15 b16 b17 : Bool) , lf = #[b0, b1, b2, b3, b4, b5, b6, b7, b8, b9, b10, b11, b12, b13, b14, b15, b16, b17] ∧ ac = { tmps := #[.slice (some ⟨b, off, none⟩) P.length cap, undef, u2, .int .i64 (i : Int), .string X', v, .bool true, .slice (some ⟨b, off, none⟩) P.length cap, .int .i64 (P.length : Int), .bool false, .int .i64 (i : Int), .slice (some ⟨b, off, none⟩) P.length cap, .int .i64 (P.length : Int), .bool true, u14, u15, .tuple #[.string X', v, .bool true], .slice (some ⟨b, off, none⟩) P.length cap, .int .i64 (i : Int), .pointer (some ⟨b, off + i, none⟩), .string X, .tuple #[.string X', v, .bool true], .string X', v, .bool true, (bif b0 then .bool true else u25), (bif b1 then .bool false else u26), (bif b2 then .bool false else u27), (bif b3 then .int .i64 (i : Int) else u28), (bif b4 then .bool true else u29), (bif b5 then .bool true else u30), (bif b6 then .slice (some ⟨b, off, none⟩) P.length cap else u31), (bif b7 then .int .i64 (i : Int) else u32), (bif b8 then .int .i64 ((i - 1 : Nat) : Int) else u33), (bif b9 then .pointer (some ⟨b, off + (i - 1), none⟩) else u34), (bif b10 then .string Z else u35), (bif b11 then .slice (some ⟨b, off, none⟩) P.length cap else u36), (bif b12 then .int .i64 (i : Int) else u37), (bif b13 then .pointer (some ⟨b, off + i, none⟩) else u38), (bif b14 then .string X else u39), (bif b15 then .bool false else u40), (bif b16 then .bool false else u41), (bif b17 then .bool false else u42)], defers := [] } ∧ w' = w2.drew) (by kernel_rfl) ?size ?first ?step ?last
            case size =>
              rintro lf ac w' ⟨b0, b1, b2, b3, b4, b5, b6, b7, b8, b9, b10, b11, b12, b13, b14, b15, b16, b17, rfl, _⟩
              rfl
            case first => exact ⟨false, false, false, false, false, false, false, false, false, false, false, false, false, false, false, false, false, false, rfl, rfl, rfl⟩
            case step =>
              rintro ii lf ac w' ⟨b0, b1, b2, b3, b4, b5, b6, b7, b8, b9, b10, b11, b12, b13, b14, b15, b16, b17, rfl, rfl, rfl⟩ hr
              have hr := mem_ready.1 hr
              rcases ii with _ | _ | _ | _ | _ | _ | _ | _ | _ | _ | _ | _ | _ | _ | _ | _ | _ | _ | ii
              · simp [Region.binds] at hr
                repeat (rcases hr with ⟨hq, hr⟩)
                subst_vars
                refine wpOpIn_step rfl (fun K hK => ?_)
                go_simp
                refine hK _ _ ⟨true, _, _, _, _, _, _, _, _, _, _, _, _, _, _, _, _, _, rfl, rfl, rfl⟩
              · simp [Region.binds] at hr
                repeat (rcases hr with ⟨hq, hr⟩)
                subst_vars
                refine wpOpIn_step rfl (fun K hK => ?_)
                go_simp
                refine hK _ _ ⟨_, true, _, _, _, _, _, _, _, _, _, _, _, _, _, _, _, _, rfl, rfl, rfl⟩
              · simp [Region.binds] at hr
                repeat (rcases hr with ⟨hq, hr⟩)
                subst_vars
                refine wpOpIn_step rfl (fun K hK => ?_)
                go_simp
                refine hK _ _ ⟨_, _, true, _, _, _, _, _, _, _, _, _, _, _, _, _, _, _, rfl, rfl, rfl⟩
              · simp [Region.binds] at hr
                repeat (rcases hr with ⟨hq, hr⟩)
                subst_vars
                refine wpOpIn_step rfl (fun K hK => ?_)
                go_simp
                refine hK _ _ ⟨_, _, _, true, _, _, _, _, _, _, _, _, _, _, _, _, _, _, rfl, rfl, rfl⟩
              · simp [Region.binds] at hr
                repeat (rcases hr with ⟨hq, hr⟩)
                subst_vars
                refine wpOpIn_step rfl (fun K hK => ?_)
                go_simp
                refine hK _ _ ⟨_, _, _, _, true, _, _, _, _, _, _, _, _, _, _, _, _, _, rfl, rfl, rfl⟩
              · simp [Region.binds] at hr
                repeat (rcases hr with ⟨hq, hr⟩)
                subst_vars
                refine wpOpIn_step rfl (fun K hK => ?_)
                go_simp
                refine hK _ _ ⟨_, _, _, _, _, true, _, _, _, _, _, _, _, _, _, _, _, _, rfl, rfl, rfl⟩
              · simp [Region.binds] at hr
                repeat (rcases hr with ⟨hq, hr⟩)
                subst_vars
                refine wpOpIn_step rfl (fun K hK => ?_)
                go_simp
                refine hK _ _ ⟨_, _, _, _, _, _, true, _, _, _, _, _, _, _, _, _, _, _, rfl, rfl, rfl⟩
              · simp [Region.binds] at hr
                repeat (rcases hr with ⟨hq, hr⟩)
                subst_vars
                refine wpOpIn_step rfl (fun K hK => ?_)
                go_simp
                refine hK _ _ ⟨_, _, _, _, _, _, _, true, _, _, _, _, _, _, _, _, _, _, rfl, rfl, rfl⟩
              · simp [Region.binds] at hr
                repeat (rcases hr with ⟨hq, hr⟩)
                subst_vars
                refine wpOpIn_step rfl (fun K hK => ?_)
                go_simp
                refine hK _ _ ⟨_, _, _, _, _, _, _, _, true, _, _, _, _, _, _, _, _, _, rfl, rfl, rfl⟩
              · simp [Region.binds] at hr
                repeat (rcases hr with ⟨hq, hr⟩)
                subst_vars
                refine wpOpIn_step rfl (fun K hK => ?_)
                go_simp
                refine hK _ _ ⟨_, _, _, _, _, _, _, _, _, true, _, _, _, _, _, _, _, _, rfl, rfl, rfl⟩
              · simp [Region.binds] at hr
                repeat (rcases hr with ⟨hq, hr⟩)
                subst_vars
                refine wpOpIn_step rfl (fun K hK => ?_)
                go_simp
                refine hK _ _ ⟨_, _, _, _, _, _, _, _, _, _, true, _, _, _, _, _, _, _, rfl, rfl, rfl⟩
              · simp [Region.binds] at hr
                repeat (rcases hr with ⟨hq, hr⟩)
                subst_vars
                refine wpOpIn_step rfl (fun K hK => ?_)
                go_simp
                refine hK _ _ ⟨_, _, _, _, _, _, _, _, _, _, _, true, _, _, _, _, _, _, rfl, rfl, rfl⟩
              · simp [Region.binds] at hr
                repeat (rcases hr with ⟨hq, hr⟩)
                subst_vars
                refine wpOpIn_step rfl (fun K hK => ?_)
                go_simp
                refine hK _ _ ⟨_, _, _, _, _, _, _, _, _, _, _, _, true, _, _, _, _, _, rfl, rfl, rfl⟩
              · simp [Region.binds] at hr
                repeat (rcases hr with ⟨hq, hr⟩)
                subst_vars
                refine wpOpIn_step rfl (fun K hK => ?_)
                go_simp
                refine hK _ _ ⟨_, _, _, _, _, _, _, _, _, _, _, _, _, true, _, _, _, _, rfl, rfl, rfl⟩
              · simp [Region.binds] at hr
                repeat (rcases hr with ⟨hq, hr⟩)
                subst_vars
                refine wpOpIn_step rfl (fun K hK => ?_)
                go_simp
                refine hK _ _ ⟨_, _, _, _, _, _, _, _, _, _, _, _, _, _, true, _, _, _, rfl, rfl, rfl⟩
              · simp [Region.binds] at hr
                repeat (rcases hr with ⟨hq, hr⟩)
                subst_vars
                refine wpOpIn_step rfl (fun K hK => ?_)
                go_simp
                refine hK _ _ ⟨_, _, _, _, _, _, _, _, _, _, _, _, _, _, _, true, _, _, rfl, rfl, rfl⟩
              · simp [Region.binds] at hr
                repeat (rcases hr with ⟨hq, hr⟩)
                subst_vars
                refine wpOpIn_step rfl (fun K hK => ?_)
                go_simp
                refine hK _ _ ⟨_, _, _, _, _, _, _, _, _, _, _, _, _, _, _, _, true, _, rfl, rfl, rfl⟩
              · simp [Region.binds] at hr
                repeat (rcases hr with ⟨hq, hr⟩)
                subst_vars
                refine wpOpIn_step rfl (fun K hK => ?_)
                go_simp
                refine hK _ _ ⟨_, _, _, _, _, _, _, _, _, _, _, _, _, _, _, _, _, true, rfl, rfl, rfl⟩
              · simp at hr
            case last =>
              rintro ac W4 ⟨f0, f1, f2, f3, f4, f5, f6, f7, f8, f9, f10, f11, f12, f13, f14, f15, f16, f17, hlf, rfl, rfl⟩
              have hlf := congrArg Array.toList hlf
              simp at hlf
              repeat (rcases hlf with ⟨hq, hlf⟩)
              subst_vars
              go_wp2_with fail
              go_round
              case rel => exact ⟨i + 1, by omega, by go_num, HN, hide (bdrew (unhide B2) 1)⟩
              case measure => simp [intOf]; omega
    · obtain rfl : i = P.length := by omega
      have HR : Hid (pf P = 0) := hide (by rw [unhide HPF, unhide HG]; rfl)
      go_wp2_with fail
      go_ret
      exact ⟨by rw [unhide HR]; rfl, unhide HB⟩
theorem faultS (v : Value) (P : List ByteArray) (w : World) (hv : StrsAt w v P) (hz : ∀ i, i < P.length → (nthS P i).size ≤ 1048576) (hl : P.length ≤ 1048576) :
    Calls Try.prog 7 #[v] w fun e w' => e = .returned (.int .i64 (pf P)) ∧ Below w.heap.size w w' := by
  by_cases hP : 1000 < P.length
  · have hgt : (1000 : Int) < (P.length : Int) := by omega
    have HR : Hid (pf P = 1) := hide (by unfold pf; rw [if_pos hP])
    obtain ⟨a, cap, rfl, _⟩ := hv
    go_enter Try.func7, Try.ntmps7
    go_wp2
    go_ret
    exact ⟨by rw [unhide HR]; rfl, Below.refl _ _⟩
  · obtain ⟨a, cap, rfl, h | ⟨b, off, rfl, hb, hc⟩⟩ := hv
    · subst h
      have HR : Hid (pf [] = 0) := hide rfl
      go_enter Try.func7, Try.ntmps7
      go_wp2
      refine wp_loop_rounds 1 ?_
      rw [rounds_succ]
      go_wp2
      go_ret
      exact ⟨by rw [unhide HR]; rfl, Below.refl _ _⟩
    · exact faultS_at b off cap P w hb hc hz (by omega)
end Hyp
end Go.Proofs.Ytgmpkapeemiecaa
