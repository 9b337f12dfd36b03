/- Values of all points by spans: the program's valuesOf. -/
import Derived.Test.YtnfdkcphmolkiaaBldV
namespace Go.Proofs.Ytnfdkcphmolkiaa
open Go.RowKit
theorem VRow.alloc {w : World} {B : Nat} {F : Nat → Int} (h : VRow w B F) (o : Obj) : VRow (w.alloc o) B F := World.ownsRow.alloc h o
set_option maxHeartbeats 4000000 in
theorem valuesOf_any (v : Value) (L : List Sp) (o : Int) (B : Nat) (w : World) (h : SpRow w B v L) (hr : right L = true) :
    Calls Try.prog 54 #[v, .int .i64 o] w fun e w' => e = .returned (.slice (some ⟨w.heap.size + 1, 0, none⟩) 32768 32768) ∧ VRow w' (w.heap.size + 1) (fun q => pv L o q) ∧ Below w.heap.size w w' := by
  have HR := hide (right_all hr)
  have hlen := (right_ok hr).1
  clear hr
  obtain ⟨a, c, rfl, hg⟩ := h.form
  have H := hide h
  have G := hide hg
  clear h hg
  have W0 : Hid (Below w.heap.size w (w.alloc (.cells #[.int .i64 o] 2))) := hide ((Below.refl _ _).alloc (Nat.le_refl _) _)
  have s0 : Hid ((w.alloc (.cells #[.int .i64 o] 2)).heap.size = w.heap.size + 1) := hide (by simp)
  have C0 : Hid ((w.alloc (.cells #[.int .i64 o] 2)).cell? ⟨w.heap.size, 0, none⟩ = some (.int .i64 o)) := hide (by simp)
  go_enter Try.func54, Try.ntmps54
  go_wp2_with fail
  refine (repeat_any w.heap.size o _ (unhide C0)).mono ?_
  rintro e w1 ⟨rfl, hv, hb⟩
  rw [unhide s0] at hv hb ⊢
  have V1 : Hid (VRow w1 (w.heap.size + 1) (fun q => pvU L o 0 q)) := hide hv
  have W1 := hide ((unhide W0).trans (hb.mono (by omega)))
  clear hv hb W0 C0 s0
  go_wp2
  go_loopw [14] (fun iv wr => ∃ k : Nat, k ≤ L.length ∧ iv = .int .i64 k ∧ Hid (VRow wr (w.heap.size + 1) (fun q => pvU L o k q)) ∧ Hid (Below w.heap.size w wr)) (fun i _ => L.length - (intOf i).toNat)
  case atStart => exact ⟨0, Nat.zero_le _, rfl, V1, W1⟩
  case round =>
    obtain ⟨k, hk, rfl, HV, HB2⟩ := hrel
    clear V1 W1
    by_cases hkl : k < L.length
    · obtain ⟨g1, rfl, _, _⟩ := (unhide G) (by omega)
      obtain ⟨x0, x1, x2⟩ := ((unhide H).below (unhide HB2)).read k hkl
      have hkl' : (k : Int) < (L.length : Int) := by omega
      obtain ⟨r1, r2, r3⟩ := (unhide HR) k hkl
      have HV1 := hide ((unhide HV).ext (laying_start L o k 32768).symm)
      have HSt := hide (laying_step L o k 32768)
      have HEn := hide (laying_end L o k 32768)
      obtain ⟨⟨x, y, z⟩, hrr⟩ : ∃ r, gx L k = r := ⟨_, rfl⟩
      rw [hrr] at x0 x1 x2 r1 r2 r3 HV1 HSt HEn
      simp only at x0 x1 x2 r1 r2 r3 HV1 HSt HEn
      clear hrr HV
      have hBs := (unhide HB2).size
      have hVl := (World.ownsRow.lt (unhide HV1) (w.heap.size + 1) rfl).2
      go_upto_region 5 with fail
      have HV2 := hide ((unhide HV1).alloc (.cells #[.int .i64 x, .int .i64 y, .int .i64 z] 59))
      have HB3 := hide ((unhide HB2).alloc hBs (.cells #[.int .i64 x, .int .i64 y, .int .i64 z] 59))
      have q0 : (wr.alloc (.cells #[.int .i64 x, .int .i64 y, .int .i64 z] 59)).cell? ⟨wr.heap.size, 0, none⟩ = some (.int .i64 x) := by simp
      have q1 : (wr.alloc (.cells #[.int .i64 x, .int .i64 y, .int .i64 z] 59)).cell? ⟨wr.heap.size, 1, none⟩ = some (.int .i64 y) := by simp
      have q2 : (wr.alloc (.cells #[.int .i64 x, .int .i64 y, .int .i64 z] 59)).cell? ⟨wr.heap.size, 2, none⟩ = some (.int .i64 z) := by simp
      have Q1 := hide q1
      have Q2 := hide q2
      clear HV1 HB2 x0 x1 x2 q1 q2
      generalize wr.alloc (.cells #[.int .i64 x, .int .i64 y, .int .i64 z] 59) = w2 at *
      generalize wr.heap.size = gs at *
      go_wp2
      go_loopw [8] (fun pv wq => ∃ p : Nat, x ≤ (p : Int) ∧ (p : Int) ≤ y + 1 ∧ pv = .int .i64 p ∧ Hid (VRow wq (w.heap.size + 1) (laying L o k p)) ∧ Hid (Below w.heap.size w wq) ∧ Hid (wq.cell? ⟨gs, 1, none⟩ = some (.int .i64 y)) ∧ Hid (wq.cell? ⟨gs, 2, none⟩ = some (.int .i64 z))) (fun p _ => (y + 1).toNat - (intOf p).toNat)
      case atStart => exact ⟨x.toNat, by omega, by omega, by rw [show ((x.toNat : Nat) : Int) = x by omega], hide (by rw [show ((x.toNat : Nat) : Int) = x by omega]; exact unhide HV2), HB3, Q1, Q2⟩
      case round =>
        obtain ⟨p, hp1, hp2, rfl, HV3, HB4, R1, R2⟩ := hrel
        clear HV2 HB3 Q1 Q2 q0
        have q1 := unhide R1
        have q2 := unhide R2
        by_cases hpy : (p : Int) ≤ y
        · obtain ⟨d0, d1⟩ := (unhide HV3).at p (by omega)
          have HV' := hide (((unhide HV3).set p (by omega) z).ext ((unhide HSt) p hp1))
          have HB' := hide ((unhide HB4).setCell (p := ⟨w.heap.size + 1, p, none⟩) (by show w.heap.size ≤ w.heap.size + 1; omega) (.int .i64 z))
          have hp3 : (p : Int) < 32768 := by omega
          have hp4 : p < 32768 := by omega
          have S1 := hide ((World.cell?_of_block (a := ⟨gs, 1, none⟩) (heap_setCell_other wr ⟨w.heap.size + 1, p, none⟩ gs (.int .i64 z) (by show gs ≠ w.heap.size + 1; omega))).trans q1)
          have S2 := hide ((World.cell?_of_block (a := ⟨gs, 2, none⟩) (heap_setCell_other wr ⟨w.heap.size + 1, p, none⟩ gs (.int .i64 z) (by show gs ≠ w.heap.size + 1; omega))).trans q2)
          clear HV3 HB4 HSt HEn R1 R2
          go_wp2
          go_roundw
          case rel => exact ⟨p + 1, by omega, by omega, by go_num, hide (by rw [show ((p + 1 : Nat) : Int) = (p : Int) + 1 by omega]; exact unhide HV'), HB', S1, S2⟩
          case measure => simp [intOf]; omega
        · have HV' : Hid (VRow wr (w.heap.size + 1) (fun q => pvU L o (k + 1) q)) := hide ((unhide HV3).ext (by rw [show (p : Int) = y + 1 by omega]; exact unhide HEn))
          clear HV3 HSt HEn
          go_wp2
          go_roundw
          case rel => exact ⟨k + 1, by omega, by go_num, HV', HB4⟩
          case measure => simp [intOf]; omega
    · obtain rfl : k = L.length := by omega
      go_wp2
      go_ret
      exact ⟨rfl, unhide HV, unhide HB2⟩
end Go.Proofs.Ytnfdkcphmolkiaa
