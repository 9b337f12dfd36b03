/- The specification's Detect. -/
import Derived.Test.YtiianallpmfcbaaDoorDecS
import Derived.Test.YtiianallpmfcbaaDoorDetM
namespace Go.Proofs.YtiianallpmfcbaaDoor
open Go.RowKit
theorem starts_any (s p : ByteArray) (w : World) :
    Calls Tryd.prog 19 #[.string s, .string p] w fun e w' => e = .returned (.bool (hasP s p)) ∧ w' = w := by
  by_cases h : s.size < p.size
  · have H := hide (hasP_short s p h)
    go_enter Tryd.func19, Tryd.ntmps19
    go_wp2
    go_ret
    exact ⟨by rw [unhide H]; rfl, rfl⟩
  · have h' : p.size ≤ s.size := by omega
    have H := hide (hasP_long s p)
    go_enter Tryd.func19, Tryd.ntmps19
    go_wp2
    go_ret
    exact ⟨by rw [← unhide H]; rfl, rfl⟩
/-- The two counts at block Z. -/
theorem zeros_cells {w : World} {Z : Nat} {a b : Value} (h : w.heap[Z]? = some (.cells #[a, b] 38)) :
    w.cell? ⟨Z, 0, none⟩ = some a ∧ w.cell? ⟨Z, 1, none⟩ = some b ∧ w.frozen? ⟨Z, 0, none⟩ = false ∧ w.frozen? ⟨Z, 1, none⟩ = false := by
  refine ⟨?_, ?_, ?_, ?_⟩ <;> simp [World.cell?, World.frozen?, h]
theorem zc_next (s : ByteArray) (par n : Nat) : zc s par (n + 1) = zc s par n + (if n % 2 = par ∧ bt s n = 0 then 1 else 0) := rfl
theorem field1 (w : World) (x y z : Value) : (Instr.field 40 (.agg #[x, y, z]) 1).run Tryd.prog w = .ok y w := by kernel_rfl
set_option maxHeartbeats 4000000 in
set_option maxRecDepth 100000 in
theorem detectS (s : ByteArray) (w : World) (hs : s.size ≤ 65536) (h1 : hasP s ⟨#[239, 187, 191]⟩ = false) (h2 : hasP s ⟨#[255, 254, 0, 0]⟩ = false) (h3 : hasP s ⟨#[0, 0, 254, 255]⟩ = false) (h4 : hasP s ⟨#[254, 255]⟩ = false) (h5 : hasP s ⟨#[255, 254]⟩ = false) :
    Calls Tryd.prog 8 #[.string s] w fun e w' => e = .returned (.int .i64 (tailV s)) ∧ Below w.heap.size w w' := by
  have Z0 : Hid ((w.alloc (.cells #[.int .i64 0, .int .i64 0] 38)).heap[w.heap.size]? = some (.cells #[.int .i64 (zc s 0 0 : Nat), .int .i64 (zc s 1 0 : Nat)] 38)) := hide (heap_alloc_new _ _)
  have B0 : Hid (Below w.heap.size w (w.alloc (.cells #[.int .i64 0, .int .i64 0] 38))) := hide ((Below.refl _ _).alloc (Nat.le_refl _) _)
  go_enter Tryd.func8, Tryd.ntmps8
  go_wp2_with (go_at_call 19; refine (starts_any _ _ _).mono ?_; rintro e w' ⟨rfl, rfl⟩)
  go_loopw [4] (fun i wr => ∃ k : Nat, k ≤ s.size ∧ i = .int .i64 k ∧ Hid (wr.heap[w'.heap.size]? = some (.cells #[.int .i64 (zc s 0 k : Nat), .int .i64 (zc s 1 k : Nat)] 38)) ∧ Hid (Below w'.heap.size w' wr)) (fun i _ => s.size - (intOf i).toNat)
  case atStart => exact ⟨0, by omega, rfl, Z0, B0⟩
  case round =>
    obtain ⟨k, hk, rfl, HZ, HB⟩ := hrel
    clear Z0 B0
    obtain ⟨z0, z1, y0, y1⟩ := zeros_cells (unhide HZ)
    have l0 := zc_le s 0 k
    have l1 := zc_le s 1 k
    by_cases hlt : k < s.size
    · have f0 : ∀ h, (s[k]'h).toNat = bt s k := fun h => bt_get s k h
      have hlt' : (k : Int) < (s.size : Int) := by omega
      have n0 := zc_next s 0 k
      have n1 := zc_next s 1 k
      cases hz : (((bt s k : Nat) : Int) == 0)
      · have hbz : ¬ bt s k = 0 := by rw [beq_eq_false_iff_ne] at hz; omega
        rw [if_neg (fun h => hbz h.2)] at n0 n1
        have HZ' : Hid (wr.heap[w'.heap.size]? = some (.cells #[.int .i64 (zc s 0 (k + 1) : Nat), .int .i64 (zc s 1 (k + 1) : Nat)] 38)) := hide (by rw [n0, n1]; exact unhide HZ)
        clear n0 n1 hbz
        go_wp2
        go_roundw
        case rel => exact ⟨k + 1, by omega, by go_num, HZ', HB⟩
        case measure => simp [intOf]; omega
      · have hbz : bt s k = 0 := by rw [beq_iff_eq] at hz; omega
        by_cases hpar : k % 2 = 0
        · have hm : ((k : Int)).tmod 2 = 0 := by rw [Int.tmod_eq_emod_of_nonneg (by omega)]; omega
          rw [if_pos ⟨hpar, hbz⟩] at n0
          rw [if_neg (fun h => by omega)] at n1
          have e0 : ((zc s 0 (k + 1) : Nat) : Int) = ((zc s 0 k : Nat) : Int) + 1 := by omega
          have e1 : ((zc s 1 (k + 1) : Nat) : Int) = ((zc s 1 k : Nat) : Int) := by omega
          have HZ' : Hid ((wr.setCell ⟨w'.heap.size, 0, none⟩ (.int .i64 (((zc s 0 k : Nat) : Int) + 1))).heap[w'.heap.size]? = some (.cells #[.int .i64 (zc s 0 (k + 1) : Nat), .int .i64 (zc s 1 (k + 1) : Nat)] 38)) := hide (by rw [e0, e1]; exact heap_setCell_same wr w'.heap.size 0 _ 38 _ (unhide HZ))
          have HB' := hide (below_set (unhide HB) (Nat.le_refl w'.heap.size) (j := 0) (.int .i64 (((zc s 0 k : Nat) : Int) + 1)))
          clear n0 n1 e0 e1 hbz
          go_wp2
          go_roundw
          case rel => exact ⟨k + 1, by omega, by go_num, HZ', HB'⟩
          case measure => simp [intOf]; omega
        · have hm : ((k : Int)).tmod 2 = 1 := by rw [Int.tmod_eq_emod_of_nonneg (by omega)]; omega
          rw [if_neg (fun h => hpar h.1)] at n0
          rw [if_pos ⟨by omega, hbz⟩] at n1
          have e0 : ((zc s 0 (k + 1) : Nat) : Int) = ((zc s 0 k : Nat) : Int) := by omega
          have e1 : ((zc s 1 (k + 1) : Nat) : Int) = ((zc s 1 k : Nat) : Int) + 1 := by omega
          have HZ' : Hid ((wr.setCell ⟨w'.heap.size, 1, none⟩ (.int .i64 (((zc s 1 k : Nat) : Int) + 1))).heap[w'.heap.size]? = some (.cells #[.int .i64 (zc s 0 (k + 1) : Nat), .int .i64 (zc s 1 (k + 1) : Nat)] 38)) := hide (by rw [e0, e1]; exact heap_setCell_same wr w'.heap.size 1 _ 38 _ (unhide HZ))
          have HB' := hide (below_set (unhide HB) (Nat.le_refl w'.heap.size) (j := 1) (.int .i64 (((zc s 1 k : Nat) : Int) + 1)))
          clear n0 n1 e0 e1 hbz
          go_wp2
          go_roundw
          case rel => exact ⟨k + 1, by omega, by go_num, HZ', HB'⟩
          case measure => simp [intOf]; omega
    · obtain rfl : k = s.size := by omega
      by_cases hsum : zc s 0 s.size + zc s 1 s.size = 0
      · have hsum' : (((zc s 0 s.size : Nat) : Int) + ((zc s 1 s.size : Nat) : Int) == 0) = true := by rw [beq_iff_eq]; omega
        have hzl : w'.heap.size < wr.heap.size := (Array.getElem?_eq_some_iff.1 (unhide HZ)).1
        have hfd := field1
        go_wp2_with fail
        refine (decode1 s _ (by omega)).mono ?_
        rintro e w2 ⟨⟨x, a, n, c, z, rfl, hn⟩, hb⟩
        have g0 := (hb.cell (p := ⟨w'.heap.size, 0, none⟩) hzl).trans z0
        have g1 := (hb.cell (p := ⟨w'.heap.size, 1, none⟩) hzl).trans z1
        have HBx := hide ((unhide HB).trans (hb.mono (unhide HB).size))
        have HN := hide hn
        clear hb hn z0 z1 y0 y1
        by_cases hn0 : n = 0
        · have hn0' : ((n : Int) == 0) = true := by rw [beq_iff_eq]; omega
          have HV : Hid (tailV s = 1) := hide (by unfold tailV; rw [if_pos ⟨(unhide HN).1 hn0, hsum⟩])
          go_wp2
          go_ret
          exact ⟨ret_int (unhide HV).symm, unhide HBx⟩
        · have hn0' : ((n : Int) == 0) = false := by rw [beq_eq_false_iff_ne]; omega
          have hv : tailV s = byZ s := by unfold tailV; rw [if_neg (fun h => hn0 ((unhide HN).2 h.1))]
          clear HN
          by_cases ho : s.size % 2 = 1
          · have hm : ((((s.size : Nat) : Int).tmod 2) == 0) = false := by rw [Int.tmod_eq_emod_of_nonneg (by omega), beq_eq_false_iff_ne]; omega
            have hb0 : byZ s = 0 := by unfold byZ; rw [if_pos ho]
            have HV := hide (hv.trans hb0)
            clear hv hb0
            go_wp2
            go_ret
            exact ⟨ret_int (unhide HV).symm, unhide HBx⟩
          · have hm : ((((s.size : Nat) : Int).tmod 2) == 0) = true := by rw [Int.tmod_eq_emod_of_nonneg (by omega), beq_iff_eq]; omega
            have hb0 : byZ s = if zc s 1 s.size < zc s 0 s.size then 2 else if zc s 0 s.size < zc s 1 s.size then 3 else 0 := by unfold byZ; rw [if_neg ho]
            have HV := hide (hv.trans hb0)
            clear hv hb0
            by_cases c1 : zc s 1 s.size < zc s 0 s.size
            · exact absurd c1 (by omega)
            by_cases c2 : zc s 0 s.size < zc s 1 s.size
            · exact absurd c2 (by omega)
            · have c1' : ¬ ((zc s 1 s.size : Nat) : Int) < ((zc s 0 s.size : Nat) : Int) := by omega
              have c2' : ¬ ((zc s 0 s.size : Nat) : Int) < ((zc s 1 s.size : Nat) : Int) := by omega
              go_wp2
              go_ret
              exact ⟨ret_int (by rw [unhide HV, if_neg c1, if_neg c2]), unhide HBx⟩
      · have hsum' : (((zc s 0 s.size : Nat) : Int) + ((zc s 1 s.size : Nat) : Int) == 0) = false := by rw [beq_eq_false_iff_ne]; omega
        have hv : tailV s = byZ s := by unfold tailV; rw [if_neg (fun h => hsum h.2)]
        have HBx := HB
        by_cases ho : s.size % 2 = 1
        · have hm : ((((s.size : Nat) : Int).tmod 2) == 0) = false := by rw [Int.tmod_eq_emod_of_nonneg (by omega), beq_eq_false_iff_ne]; omega
          have hb0 : byZ s = 0 := by unfold byZ; rw [if_pos ho]
          have HV := hide (hv.trans hb0)
          clear hv hb0
          go_wp2
          go_ret
          exact ⟨ret_int (unhide HV).symm, unhide HBx⟩
        · have hm : ((((s.size : Nat) : Int).tmod 2) == 0) = true := by rw [Int.tmod_eq_emod_of_nonneg (by omega), beq_iff_eq]; omega
          have hb0 : byZ s = if zc s 1 s.size < zc s 0 s.size then 2 else if zc s 0 s.size < zc s 1 s.size then 3 else 0 := by unfold byZ; rw [if_neg ho]
          have HV := hide (hv.trans hb0)
          clear hv hb0
          by_cases c1 : zc s 1 s.size < zc s 0 s.size
          · have c1' : ((zc s 1 s.size : Nat) : Int) < ((zc s 0 s.size : Nat) : Int) := by omega
            go_wp2
            go_ret
            exact ⟨ret_int (by rw [unhide HV, if_pos c1]), unhide HBx⟩
          by_cases c2 : zc s 0 s.size < zc s 1 s.size
          · have c2' : ((zc s 0 s.size : Nat) : Int) < ((zc s 1 s.size : Nat) : Int) := by omega
            have c1' : ¬ ((zc s 1 s.size : Nat) : Int) < ((zc s 0 s.size : Nat) : Int) := by omega
            go_wp2
            go_ret
            exact ⟨ret_int (by rw [unhide HV, if_neg c1, if_pos c2]), unhide HBx⟩
          · have c1' : ¬ ((zc s 1 s.size : Nat) : Int) < ((zc s 0 s.size : Nat) : Int) := by omega
            have c2' : ¬ ((zc s 0 s.size : Nat) : Int) < ((zc s 1 s.size : Nat) : Int) := by omega
            go_wp2
            go_ret
            exact ⟨ret_int (by rw [unhide HV, if_neg c1, if_neg c2]), unhide HBx⟩
theorem specDetect (s : ByteArray) (w : World) :
    Calls Tryd.prog 8 #[.string s] w fun e w' => e = .returned (.int .i64 (detV s)) ∧ Below w.heap.size w w' := by
  unfold detV
  by_cases hs : 65536 < s.size
  · rw [if_pos hs]
    go_enter Tryd.func8, Tryd.ntmps8
    go_wp2
    go_ret
    exact ⟨rfl, Below.refl _ _⟩
  rw [if_neg hs]
  have hs' : s.size ≤ 65536 := by omega
  cases h1 : hasP s ⟨#[239, 187, 191]⟩
  · rw [if_neg (by simp)]
    cases h2 : hasP s ⟨#[255, 254, 0, 0]⟩
    · rw [if_neg (by simp)]
      cases h3 : hasP s ⟨#[0, 0, 254, 255]⟩
      · rw [if_neg (by simp)]
        cases h4 : hasP s ⟨#[254, 255]⟩
        · rw [if_neg (by simp)]
          cases h5 : hasP s ⟨#[255, 254]⟩
          · rw [if_neg (by simp)]
            exact detectS s w hs' h1 h2 h3 h4 h5
          · rw [if_pos rfl]
            go_enter Tryd.func8, Tryd.ntmps8
            go_wp2_with (go_at_call 19; refine (starts_any _ _ _).mono ?_; rintro e w' ⟨rfl, rfl⟩)
            go_ret
            exact ⟨rfl, Below.refl _ _⟩
        · rw [if_pos rfl]
          go_enter Tryd.func8, Tryd.ntmps8
          go_wp2_with (go_at_call 19; refine (starts_any _ _ _).mono ?_; rintro e w' ⟨rfl, rfl⟩)
          go_ret
          exact ⟨rfl, Below.refl _ _⟩
      · rw [if_pos rfl]
        go_enter Tryd.func8, Tryd.ntmps8
        go_wp2_with (go_at_call 19; refine (starts_any _ _ _).mono ?_; rintro e w' ⟨rfl, rfl⟩)
        go_ret
        exact ⟨rfl, Below.refl _ _⟩
    · rw [if_pos rfl]
      go_enter Tryd.func8, Tryd.ntmps8
      go_wp2_with (go_at_call 19; refine (starts_any _ _ _).mono ?_; rintro e w' ⟨rfl, rfl⟩)
      go_ret
      exact ⟨rfl, Below.refl _ _⟩
  · rw [if_pos rfl]
    go_enter Tryd.func8, Tryd.ntmps8
    go_wp2_with (go_at_call 19; refine (starts_any _ _ _).mono ?_; rintro e w' ⟨rfl, rfl⟩)
    go_ret
    exact ⟨rfl, Below.refl _ _⟩
theorem lawDetect (s : ByteArray) (w : World) (hT : Lib.Utf8Tabs (Tryd.laysValid_ren.g 3) (Tryd.laysValid_ren.g 4) w) :
    Calls Tryd.prog 4 #[.string s] w fun e w' => e = .returned (.bool true) ∧ Below w.heap.size w w' := by
  have HT := hide hT
  clear hT
  by_cases hl : 1048576 < s.size
  · go_enter Tryd.func4, Tryd.ntmps4
    go_wp2
    go_ret
    exact ⟨rfl, Below.refl _ _⟩
  have hl' : s.size ≤ 1048576 := by omega
  go_enter Tryd.func4, Tryd.ntmps4
  go_wp2_with fail
  refine (specDetect s _).mono ?_
  rintro e w1 ⟨rfl, hb1⟩
  have HT1 := hide (Utf8Tabs_below (unhide HT) hb1)
  have HB1 := hide hb1
  clear hb1 HT
  go_wp2_with fail
  refine (implDetect s _ (unhide HT1)).mono ?_
  rintro e w2 ⟨rfl, hb2⟩
  have HB2 := hide ((unhide HB1).trans (hb2.mono (unhide HB1).size))
  clear hb2 HB1 HT1
  generalize detV s = T at *
  have hne : (T != T) = false := by simp
  go_wp2
  go_ret
  exact ⟨rfl, unhide HB2⟩
end Go.Proofs.YtiianallpmfcbaaDoor
