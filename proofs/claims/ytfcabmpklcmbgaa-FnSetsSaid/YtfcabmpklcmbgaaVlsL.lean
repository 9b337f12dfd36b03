/- Values of all points by spans, and spans of the value 1: the specification. -/
import Derived.Test.YtfcabmpklcmbgaaSpsL
import Derived.Deep.RegionLaw
namespace Go.Proofs.Ytfcabmpklcmbgaa
open Go.RowKit
/-- The row of 32768 numbers that F tells, at the base. -/
def VRow (w : World) (B : Nat) (F : Nat → Int) : Prop := w.ownsRow B 2 1 (.slice (some ⟨B, 0, none⟩) 32768 32768) 32768 ((tabF 32768 F).map (Value.int .i64))
theorem VRow.ext {w : World} {B : Nat} {F G : Nat → Int} (h : VRow w B F) (e : tabF 32768 F = tabF 32768 G) : VRow w B G := by
  unfold VRow at h ⊢
  rw [← e]
  exact h
theorem VRow.at {w : World} {B : Nat} {F : Nat → Int} (h : VRow w B F) (j : Nat) (hj : j < 32768) : w.cell? ⟨B, j, none⟩ = some (.int .i64 (F j)) ∧ w.frozen? ⟨B, j, none⟩ = false := by
  refine ⟨(World.ownsRow.cellAt h j (by omega)).trans ?_, World.ownsRow.frozenAt h j⟩
  rw [List.getElem?_map]
  have : (tabF 32768 F)[j]? = some (F j) := by
    unfold tabF
    rw [List.getElem?_map, List.getElem?_range hj]
    rfl
  rw [this]
  rfl
theorem VRow.set {w : World} {B : Nat} {F : Nat → Int} (h : VRow w B F) (j : Nat) (hj : j < 32768) (x : Int) : VRow (w.setCell ⟨B, j, none⟩ (.int .i64 x)) B (upd F j x) := by
  have := (World.ownsRow.stored h j (.int .i64 x)).1
  rw [tabF_set 32768 F j x (Value.int .i64) hj] at this
  exact this
theorem VRow.dat {w : World} {B : Nat} {F : Nat → Int} (h : VRow w B F) : DatAt w w.heap.size (.slice (some ⟨B, 0, none⟩) 32768 32768) (tabF 32768 F) := DatAt.owned h
def filling (o : Int) (p : Nat) : Nat → Int := fun q => if q < p then o else 0
theorem filling_zero (o : Int) : tabF 32768 (fun _ => 0) = tabF 32768 (filling o 0) := tabF_ext fun i _ => (if_neg (by omega)).symm
theorem filling_step (o : Int) (p : Nat) : tabF 32768 (upd (filling o p) p o) = tabF 32768 (filling o (p + 1)) := tabF_ext fun i _ => by
  unfold upd filling
  by_cases e : i = p
  · rw [if_pos e, if_pos (by omega)]
  · rw [if_neg e]
    by_cases h : i < p
    · rw [if_pos h, if_pos (by omega)]
    · rw [if_neg h, if_neg (by omega)]
theorem filling_end (L : List Sp) (o : Int) : tabF 32768 (filling o 32768) = tabF 32768 (fun q => pvU L o 0 q) := tabF_ext fun _ hi => if_pos hi
set_option maxHeartbeats 4000000 in
theorem l04Values_any (v : Value) (L : List Sp) (o : Int) (B : Nat) (w : World) (h : SpRow w B v L) (hr : right L = true) :
    Calls Try.prog 31 #[v, .int .i64 o] w fun e w' => e = .returned (.slice (some ⟨w.heap.size, 0, none⟩) 32768 32768) ∧ VRow w' w.heap.size (fun q => pv L o q) ∧ Below w.heap.size w w' := by
  obtain ⟨i0, hi, hz0, hz1, hz2⟩ := info_parts info2
  have HR := hide (right_all hr)
  have hlen := (right_ok hr).1
  clear hr
  obtain ⟨a, c, rfl, hg⟩ := h.form
  have H := hide h
  have G := hide hg
  clear h hg
  go_enter Try.func31, Try.ntmps31
  go_wp2_with (at_make; refine wpList_make_full _ rfl _ _ 50 rfl w.heap.size 2 i0 (.int .i64 0) 1 Try.underlying50 hi hz0 hz1 .i64 .i64 _ _ 32768 rfl rfl rfl rfl ?b2 ?b3 ?b4 ?_)
  case b2 => rw [hz2]; omega
  case b3 => unfold maxLen; omega
  case b4 => omega
  intro w1 hown hgrow
  have H1 : Hid (VRow w1 w.heap.size (filling o 0)) := hide (by
    unfold VRow
    rw [← filling_zero, tabF_replicate, List.map_replicate, ← toList_madeCells_one]
    exact hown)
  have hb1 := hide (made_below hgrow)
  clear hown hgrow
  go_wp2
  go_loopw [6] (fun pv wr => ∃ p : Nat, p ≤ 32768 ∧ pv = .int .i64 p ∧ Hid (VRow wr w.heap.size (filling o p)) ∧ Hid (Below w.heap.size w wr)) (fun p _ => 32768 - (intOf p).toNat)
  case atStart => exact ⟨0, Nat.zero_le _, rfl, H1, hb1⟩
  case round =>
    obtain ⟨p, hp, rfl, HV, HB⟩ := hrel
    clear H1 hb1
    by_cases hlt : p < 32768
    · have hlt' : (p : Int) ≤ 32767 := by omega
      obtain ⟨d0, d1⟩ := (unhide HV).at p hlt
      have HV' := hide (((unhide HV).set p hlt o).ext (filling_step o p))
      have HB' := hide ((unhide HB).setCell (p := ⟨w.heap.size, p, none⟩) (Nat.le_refl _) (.int .i64 o))
      clear HV HB
      go_wp2
      go_roundw
      case rel => exact ⟨p + 1, by omega, by go_num, HV', HB'⟩
      case measure => simp [intOf]; omega
    · obtain rfl : p = 32768 := by omega
      have HV0 : Hid (VRow wr w.heap.size (fun q => pvU L o 0 q)) := hide ((unhide HV).ext (filling_end L o))
      clear HV
      go_wp2
      go_loopw [7] (fun iv wr => ∃ k : Nat, k ≤ L.length ∧ iv = .int .i64 k ∧ Hid (VRow wr w.heap.size (fun q => pvU L o k q)) ∧ Hid (Below w.heap.size w wr)) (fun i _ => L.length - (intOf i).toNat)
      case atStart => exact ⟨0, Nat.zero_le _, rfl, HV0, HB⟩
      case round =>
        obtain ⟨k, hk, rfl, HV, HB2⟩ := hrel
        clear HV0 HB
        by_cases hkl : k < L.length
        · obtain ⟨g1, rfl, _, _⟩ := (unhide G) (by omega)
          obtain ⟨x0, x1, x2⟩ := ((unhide H).below (unhide HB2)).read k hkl
          have hkl' : (k : Int) < (L.length : Int) := by omega
          obtain ⟨r1, r2, r3⟩ := (unhide HR) k hkl
          have HV1 := hide ((unhide HV).ext (laying_start L o k 32768).symm)
          have HSt := hide (laying_step L o k 32768)
          have HEn := hide (laying_end L o k 32768)
          have HRd := hide (fun (w' : World) (hb : Below w.heap.size w w') => ((unhide H).below hb).read k hkl)
          obtain ⟨⟨x, y, z⟩, hrr⟩ : ∃ r, gx L k = r := ⟨_, rfl⟩
          rw [hrr] at x0 x1 x2 r1 r2 r3 HV1 HSt HEn HRd
          simp only at x0 x1 x2 r1 r2 r3 HV1 HSt HEn HRd
          clear hrr HV
          go_wp2
          go_loopw [8] (fun pv wr => ∃ p : Nat, x ≤ (p : Int) ∧ (p : Int) ≤ y + 1 ∧ pv = .int .i64 p ∧ Hid (VRow wr w.heap.size (laying L o k p)) ∧ Hid (Below w.heap.size w wr)) (fun p _ => (y + 1).toNat - (intOf p).toNat)
          case atStart => exact ⟨x.toNat, by omega, by omega, by rw [show ((x.toNat : Nat) : Int) = x by omega], hide (by rw [show ((x.toNat : Nat) : Int) = x by omega]; exact unhide HV1), HB2⟩
          case round =>
            obtain ⟨p, hp1, hp2, rfl, HV3, HB3⟩ := hrel
            clear HV1 x0 x1 x2 HB2
            obtain ⟨x0, x1, x2⟩ := (unhide HRd) _ (unhide HB3)
            by_cases hpy : (p : Int) ≤ y
            · obtain ⟨d0, d1⟩ := (unhide HV3).at p (by omega)
              have HV' := hide (((unhide HV3).set p (by omega) z).ext ((unhide HSt) p hp1))
              have HB' := hide ((unhide HB3).setCell (p := ⟨w.heap.size, p, none⟩) (Nat.le_refl _) (.int .i64 z))
              have hp3 : (p : Int) < 32768 := by omega
              have hp4 : p < 32768 := by omega
              clear HV3 HB3 HSt HEn
              go_wp2
              go_roundw
              case rel => exact ⟨p + 1, by omega, by omega, by go_num, hide (by rw [show ((p + 1 : Nat) : Int) = (p : Int) + 1 by omega]; exact unhide HV'), HB'⟩
              case measure => simp [intOf]; omega
            · have HV' : Hid (VRow wr w.heap.size (fun q => pvU L o (k + 1) q)) := hide ((unhide HV3).ext (by rw [show (p : Int) = y + 1 by omega]; exact unhide HEn))
              clear HV3 HSt HEn
              go_wp2
              go_roundw
              case rel => exact ⟨k + 1, by omega, by go_num, HV', HB3⟩
              case measure => simp [intOf]; omega
        · obtain rfl : k = L.length := by omega
          go_wp2
          go_ret
          exact ⟨rfl, unhide HV, unhide HB2⟩
end Go.Proofs.Ytfcabmpklcmbgaa
