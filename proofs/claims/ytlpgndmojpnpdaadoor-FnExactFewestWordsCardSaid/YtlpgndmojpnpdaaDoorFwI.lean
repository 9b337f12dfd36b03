/- Binary search among words, what a text begins with, and the ends of the words that begin at a place. -/
import Derived.Test.YtlpgndmojpnpdaaDoorFwQ
namespace Go.Proofs.YtlpgndmojpnpdaaDoor
namespace Fw
open Go.RowKit
open Wd (lsB)
set_option linter.unusedVariables false
theorem bytes_eqF {a b : ByteArray} (h : a.toList = b.toList) : a = b := by
  rw [Go.ByteArray.toList_eq, Go.ByteArray.toList_eq] at h
  exact Go.WideShapes.bytes_inj h
theorem str_beqF (a b : ByteArray) : (a.toList == b.toList) = decide (a = b) := by
  cases e : (a.toList == b.toList) with
  | true => exact (decide_eq_true (bytes_eqF (eq_of_beq e))).symm
  | false => exact (decide_eq_false (fun h => by rw [h] at e; simp at e)).symm
theorem cnan (x : ByteArray) (w : World) : Calls Tryd.prog 45 #[.string x] w fun e w' => e = .returned (.bool false) ∧ w' = w := by
  have h := str_ne x
  go_enter Tryd.func45, Tryd.ntmps45
  go_wp2
  go_ret
  exact ⟨rfl, rfl⟩
theorem snan (x : ByteArray) (w : World) : Calls Tryd.prog 43 #[.string x] w fun e w' => e = .returned (.bool false) ∧ w' = w := by
  have h := str_ne x
  go_enter Tryd.func43, Tryd.ntmps43
  go_wp2
  go_ret
  exact ⟨rfl, rfl⟩
theorem lessS (x y : ByteArray) (w : World) : Calls Tryd.prog 42 #[.string x, .string y] w fun e w' => e = .returned (.bool (lsB x y)) ∧ w' = w := by
  have C := hide (fun W => cnan x W)
  have hL : Op.bytesLess x.toList y.toList = lsB x y := rfl
  generalize lsB x y = D at *
  go_enter Tryd.func42, Tryd.ntmps42
  go_wp2_with (go_at_call 45; refine ((unhide C) _).mono ?_; rintro e w' ⟨rfl, hx⟩; obtain rfl := hx.symm; clear hx)
  go_ret
  exact ⟨rfl, rfl⟩
/-- What begins with what. -/
def hpf (s p : ByteArray) : Bool := decide (p.size ≤ s.size) && ((s.extract 0 p.size).toList == p.toList)
theorem lhpf (s p : ByteArray) (w : World) : Calls Tryd.prog 44 #[.string s, .string p] w fun e w' => e = .returned (.bool (hpf s p)) ∧ w' = w := by
  by_cases h : p.size ≤ s.size
  · have h' : (p.size : Int) ≤ (s.size : Int) := by omega
    have h0 : (0 : Int) ≤ (p.size : Int) := by omega
    have e : hpf s p = ((s.extract 0 p.size).toList == p.toList) := by unfold hpf; rw [decide_eq_true h, Bool.true_and]
    rw [e]
    go_enter Tryd.func44, Tryd.ntmps44
    go_wp2
    go_ret
    exact ⟨rfl, rfl⟩
  · have h' : ¬ (p.size : Int) ≤ (s.size : Int) := by omega
    have e : hpf s p = false := by unfold hpf; rw [decide_eq_false h, Bool.false_and]
    rw [e]
    go_enter Tryd.func44, Tryd.ntmps44
    go_wp2
    go_ret
    exact ⟨rfl, rfl⟩
theorem hpfS (s p : ByteArray) (w : World) : Calls Tryd.prog 39 #[.string s, .string p] w fun e w' => e = .returned (.bool (hpf s p)) ∧ w' = w := by
  have C := hide (fun W => lhpf s p W)
  generalize hpf s p = D at *
  go_enter Tryd.func39, Tryd.ntmps39
  go_wp2_with (go_at_call 44; refine ((unhide C) _).mono ?_; rintro e w' ⟨rfl, hx⟩; obtain rfl := hx.symm; clear hx)
  go_ret
  exact ⟨rfl, rfl⟩
theorem hpf_pre {s p : ByteArray} (h : pre p s) : hpf s p = true := by
  have hl : p.toList.length ≤ s.toList.length := h.length_le
  rw [Go.ByteArray.toList_eq, Go.ByteArray.toList_eq] at hl
  have h1 : p.size ≤ s.size := by rw [Lib.size_eq, Lib.size_eq]; exact hl
  unfold hpf
  rw [decide_eq_true h1, Bool.true_and, beq_iff_eq]
  have h2 := List.prefix_iff_eq_take.1 h
  rw [h2]
  rw [Go.ByteArray.toList_eq, Go.ByteArray.toList_eq, Go.ByteArray.toList_eq]
  have e : (s.extract 0 p.size).data = s.data.extract 0 p.size := by simp [ByteArray.data_extract]
  rw [e, Array.toList_extract, List.extract_eq_take_drop, List.drop_zero, Nat.sub_zero]
  rfl
/-- A cut ahead of another cut, from one place on, begins it. -/
theorem ext_pre {s : ByteArray} {a b c : Nat} (hbc : b ≤ c) : pre (s.extract a b) (s.extract a c) := by
  unfold pre
  rw [Go.ByteArray.toList_eq, Go.ByteArray.toList_eq]
  have e1 : (s.extract a b).data = s.data.extract a b := by simp [ByteArray.data_extract]
  have e2 : (s.extract a c).data = s.data.extract a c := by simp [ByteArray.data_extract]
  rw [e1, e2, Array.toList_extract, Array.toList_extract]
  simp only [List.extract_eq_take_drop]
  exact List.take_prefix_take_left (by omega)
set_option maxRecDepth 100000 in
set_option maxHeartbeats 4000000 in
theorem bsS (v : Value) (W : List ByteArray) (x : ByteArray) (w : World) (hv : StrsAt w v W) (hW : Wr W) :
    Calls Tryd.prog 38 #[v, .string x] w fun e w' => ∃ i : Nat, Lb W x i ∧ e = .returned (.tuple #[.int .i64 (i : Int), .bool (hw W x)]) ∧ w' = w := by
  have HV := hide hv
  have HW := hide hW
  have hfew := hW.few
  have CL := hide (fun y V => lessS y x V)
  have CN := hide (fun y V => snan y V)
  obtain ⟨a, cap, rfl, _⟩ := hv
  clear hW
  go_enter Tryd.func38, Tryd.ntmps38
  go_wp2
  go_loopw [7, 8] (fun x1 x2 wr => ∃ i j : Nat, x1 = .int .i64 (i : Int) ∧ x2 = .int .i64 (j : Int) ∧ i ≤ j ∧ j ≤ W.length ∧ Hid ((∀ k, k < i → lsB (nthS W k) x = true) ∧ ∀ k, j ≤ k → k < W.length → lsB (nthS W k) x = false) ∧ wr = w) (fun x1 x2 _ => (intOf x2).toNat - (intOf x1).toNat)
  case atStart => exact ⟨0, W.length, rfl, rfl, by omega, by omega, hide ⟨fun k hk => absurd hk (by omega), fun k h1 h2 => absurd h2 (by omega)⟩, rfl⟩
  case round =>
    obtain ⟨i, j, rfl, rfl, hij, hj, HH, rfl⟩ := hrel
    by_cases hlt : i < j
    · obtain ⟨b, off, cp, he, hbs, hc⟩ := strs_rd (unhide HV) (by omega)
      cases he
      have hlt' : (i : Int) < (j : Int) := by omega
      obtain ⟨m, hm⟩ : ∃ m, (i + j) / 2 = m := ⟨_, rfl⟩
      have hmj : m < W.length := by omega
      have c1 := hc m hmj
      obtain ⟨y, hy⟩ : ∃ y, nthS W m = y := ⟨_, rfl⟩
      rw [hy] at c1
      have HLO : Hid (lsB y x = true → (∀ k, k < m + 1 → lsB (nthS W k) x = true)) := hide (fun h k hk => ls_mono (unhide HW) (show k ≤ m by omega) hmj (by rw [hy]; exact h))
      have HHI : Hid (lsB y x = false → ∀ k, m ≤ k → k < W.length → lsB (nthS W k) x = false) := hide (fun h k h1 h2 => by
        cases e : lsB (nthS W k) x with
        | false => rfl
        | true => rw [← hy, ls_mono (unhide HW) h1 h2 e] at h; cases h)
      have CL1 := hide (fun V => (unhide CL) y V)
      have hw1 : IntKind.i64.wrap ((i : Int) + (j : Int)) = (i : Int) + (j : Int) := by rw [show (i : Int) + (j : Int) = ((i + j : Nat) : Int) by omega]; exact wrapN (i + j) (by omega)
      have hw2 : IntKind.u64.wrap ((i : Int) + (j : Int)) = (i : Int) + (j : Int) := by simp [IntKind.wrap, IntKind.bits, IntKind.signed]; omega
      have hsh : ((i : Int) + (j : Int)) / 2 = (m : Int) := by omega
      have hw3 : IntKind.i64.wrap (m : Int) = (m : Int) := wrapN m (by omega)
      have hw4 : IntKind.u64.wrap (m : Int) = (m : Int) := by simp [IntKind.wrap, IntKind.bits, IntKind.signed]; omega
      have hm0 : (0 : Int) ≤ (m : Int) := by omega
      have hmj' : (m : Int) < (W.length : Int) := by omega
      clear hc hy
      generalize hD : lsB y x = D at *
      clear hD CL
      cases D
      · have HH2 := hide (And.intro (unhide HH).1 ((unhide HHI) rfl))
        go_wp2_with (go_at_call 42; refine ((unhide CL1) _).mono ?_; rintro e w' ⟨rfl, hx⟩; obtain rfl := hx.symm; clear hx)
        go_roundw
        case rel => exact ⟨i, m, rfl, by first | rfl | go_num, by omega, by omega, HH2, by first | trivial | rfl⟩
        case measure => simp [intOf]; omega
      · have HH2 := hide (And.intro ((unhide HLO) rfl) (unhide HH).2)
        go_wp2_with (go_at_call 42; refine ((unhide CL1) _).mono ?_; rintro e w' ⟨rfl, hx⟩; obtain rfl := hx.symm; clear hx)
        go_roundw
        case rel => exact ⟨m + 1, j, by go_num, rfl, by omega, by omega, HH2, by first | trivial | rfl⟩
        case measure => simp [intOf]; omega
    · obtain rfl : i = j := by omega
      have hge : ¬ (i : Int) < (i : Int) := by omega
      have HL : Hid (Lb W x i) := hide ⟨hj, (unhide HH).1, (unhide HH).2⟩
      have HM := hide (lb_mem (unhide HW) (unhide HL))
      clear CL hlt
      have hU : undef = Value.tuple #[] := rfl
      by_cases hil : i < W.length
      · obtain ⟨b, off, cp, he, hbs, hc⟩ := strs_rd (unhide HV) (by omega)
        cases he
        have c1 := hc i hil
        have hil' : (i : Int) < (W.length : Int) := by omega
        obtain ⟨y, hy⟩ : ∃ y, nthS W i = y := ⟨_, rfl⟩
        rw [hy] at c1 HM
        have HB := hide (str_beqF y x)
        have CN1 := hide (fun V => (unhide CN) y V)
        clear hc hy CN
        by_cases hyx : y = x
        · have hb : (y.toList == x.toList) = true := by rw [unhide HB]; exact decide_eq_true hyx
          have HE : Hid (hw W x = true) := hide (by rw [unhide HM]; exact decide_eq_true ⟨hil, hyx⟩)
          clear hyx HM HB
          go_wp2
          go_ret2
          exact ⟨i, unhide HL, by rw [unhide HE]; rfl, rfl⟩
        · have hb : (y.toList == x.toList) = false := by rw [unhide HB]; exact decide_eq_false hyx
          have HE : Hid (hw W x = false) := hide (by rw [unhide HM]; exact decide_eq_false (fun h => hyx h.2))
          clear hyx HM HB
          go_wp2_with (go_at_call 43; refine ((unhide CN1) _).mono ?_; rintro e w' ⟨rfl, hx⟩; obtain rfl := hx.symm; clear hx)
          go_ret2
          exact ⟨i, unhide HL, by rw [unhide HE]; rfl, rfl⟩
      · have hil' : ¬ (i : Int) < (W.length : Int) := by omega
        have HE : Hid (hw W x = false) := hide (by rw [unhide HM]; exact decide_eq_false (fun h => hil h.1))
        clear HM
        go_wp2
        go_ret2
        exact ⟨i, unhide HL, by rw [unhide HE]; rfl, rfl⟩
set_option maxRecDepth 100000 in
set_option maxHeartbeats 4000000 in
theorem lwS (v : Value) (W : List ByteArray) (x : ByteArray) (w : World) (hv : StrsAt w v W) (hW : Wr W) :
    Calls Tryd.prog 28 #[v, .string x] w fun e w' => e = .returned (.bool (hw W x)) ∧ w' = w := by
  have HV := hide hv
  have HW := hide hW
  have hfew := hW.few
  obtain ⟨a, cap, rfl, _⟩ := hv
  clear hW
  go_enter Tryd.func28, Tryd.ntmps28
  go_wp2
  go_loopw [5, 6] (fun x1 x2 wr => ∃ i j : Nat, x1 = .int .i64 (i : Int) ∧ x2 = .int .i64 (j : Int) ∧ i ≤ j ∧ j ≤ W.length ∧ Hid ((∀ k, k < i → lsB (nthS W k) x = true) ∧ ∀ k, j ≤ k → k < W.length → lsB (nthS W k) x = false) ∧ wr = w) (fun x1 x2 _ => (intOf x2).toNat - (intOf x1).toNat)
  case atStart => exact ⟨0, W.length, rfl, rfl, by omega, by omega, hide ⟨fun k hk => absurd hk (by omega), fun k h1 h2 => absurd h2 (by omega)⟩, rfl⟩
  case round =>
    obtain ⟨i, j, rfl, rfl, hij, hj, HH, rfl⟩ := hrel
    by_cases hlt : i < j
    · obtain ⟨b, off, cp, he, hbs, hc⟩ := strs_rd (unhide HV) (by omega)
      cases he
      have hlt' : (i : Int) < (j : Int) := by omega
      obtain ⟨m, hm⟩ : ∃ m, (i + j) / 2 = m := ⟨_, rfl⟩
      have hmj : m < W.length := by omega
      have c1 := hc m hmj
      obtain ⟨y, hy⟩ : ∃ y, nthS W m = y := ⟨_, rfl⟩
      rw [hy] at c1
      have HLO : Hid (lsB y x = true → (∀ k, k < m + 1 → lsB (nthS W k) x = true)) := hide (fun h k hk => ls_mono (unhide HW) (show k ≤ m by omega) hmj (by rw [hy]; exact h))
      have HHI : Hid (lsB y x = false → ∀ k, m ≤ k → k < W.length → lsB (nthS W k) x = false) := hide (fun h k h1 h2 => by
        cases e : lsB (nthS W k) x with
        | false => rfl
        | true => rw [← hy, ls_mono (unhide HW) h1 h2 e] at h; cases h)
      have hsh : ((i : Int) + (j : Int)).tdiv 2 = (m : Int) := by
        rw [show (i : Int) + (j : Int) = ((i + j : Nat) : Int) by omega]
        rw [Int.tdiv_eq_ediv_of_nonneg (by omega)]
        omega
      have hw1 : IntKind.i64.wrap ((i : Int) + (j : Int)) = (i : Int) + (j : Int) := by rw [show (i : Int) + (j : Int) = ((i + j : Nat) : Int) by omega]; exact wrapN (i + j) (by omega)
      have hw3 : IntKind.i64.wrap (m : Int) = (m : Int) := wrapN m (by omega)
      have hm0 : (0 : Int) ≤ (m : Int) := by omega
      have hmj' : (m : Int) < (W.length : Int) := by omega
      clear hc hy
      have hL : Op.bytesLess y.toList x.toList = lsB y x := rfl
      generalize hD : lsB y x = D at *
      clear hD
      cases D
      · have HH2 := hide (And.intro (unhide HH).1 ((unhide HHI) rfl))
        go_wp2
        go_roundw
        case rel => exact ⟨i, m, rfl, by first | rfl | go_num, by omega, by omega, HH2, by first | trivial | rfl⟩
        case measure => simp [intOf]; omega
      · have HH2 := hide (And.intro ((unhide HLO) rfl) (unhide HH).2)
        go_wp2
        go_roundw
        case rel => exact ⟨m + 1, j, by go_num, rfl, by omega, by omega, HH2, by first | trivial | rfl⟩
        case measure => simp [intOf]; omega
    · obtain rfl : i = j := by omega
      have hge : ¬ (i : Int) < (i : Int) := by omega
      have HL : Hid (Lb W x i) := hide ⟨hj, (unhide HH).1, (unhide HH).2⟩
      have HM := hide (lb_mem (unhide HW) (unhide HL))
      clear hlt
      have hU : undef = Value.tuple #[] := rfl
      by_cases hil : i < W.length
      · obtain ⟨b, off, cp, he, hbs, hc⟩ := strs_rd (unhide HV) (by omega)
        cases he
        have c1 := hc i hil
        have hil' : (i : Int) < (W.length : Int) := by omega
        obtain ⟨y, hy⟩ : ∃ y, nthS W i = y := ⟨_, rfl⟩
        rw [hy] at c1 HM
        have HB : Hid ((y.toList == x.toList) = hw W x) := hide (by rw [str_beqF, unhide HM]; exact decide_eq_decide.2 ⟨fun h => ⟨hil, h⟩, fun h => h.2⟩)
        clear hc hy HM
        go_wp2
        go_ret
        exact ⟨by rw [← unhide HB]; rfl, rfl⟩
      · have hil' : ¬ (i : Int) < (W.length : Int) := by omega
        have HE : Hid (hw W x = false) := hide (by rw [unhide HM]; exact decide_eq_false (fun h => hil h.1))
        clear HM
        go_wp2
        go_ret
        exact ⟨by rw [unhide HE]; rfl, rfl⟩
end Fw
end Go.Proofs.YtlpgndmojpnpdaaDoor
