/- Shift read back: the small functions of the program. -/
import Derived.Test.YtohpifhpfijmcaaDoorHshM
import Derived.BigQuiet
import Derived.Deep.QuietTactic
import Derived.Lib.IndexBytes
namespace Go.Proofs.YtohpifhpfijmcaaDoor
open Go.RowKit
set_option maxHeartbeats 1000000 in
set_option maxRecDepth 100000 in
theorem idxS (s : ByteArray) (c : Int) (w : World) :
    Calls Tryd.prog 58 #[.string s, .int .u8 c] w fun e w' => e = .returned (.int .i64 (Lib.indexByte s.data.toList c.toNat.toUInt8)) ∧ w = w' := by
  go_enter Tryd.func58, Tryd.ntmps58
  go_wp2
  rw [run_callFunc_extern Tryd.func61 (by kernel_rfl) (by kernel_rfl) (by kernel_rfl) (e := Extern.BytealgIndexByte.indexByte) (by kernel_rfl), Lib.run_indexByteString]
  simp only [Result.andThen]
  rw [Oper.upon_value]
  go_wp2
  go_ret
  exact ⟨rfl, rfl⟩
theorem idx_any (s : ByteArray) (c : Int) (w : World) :
    Calls Tryd.prog 49 #[.string s, .int .u8 c] w fun e w' => e = .returned (.int .i64 (Lib.indexByte s.data.toList c.toNat.toUInt8)) ∧ w = w' := by
  go_enter Tryd.func49, Tryd.ntmps49
  go_wp2_with fail
  refine (idxS _ _ _).mono ?_
  rintro e w' ⟨rfl, rfl⟩
  go_wp2
  go_ret
  exact ⟨rfl, rfl⟩
theorem named_all : ((List.range 256).all fun b => decide (Lib.indexByte [65, 66, 67, 68, 87] b.toUInt8 = nameOf (b : Int))) = true := by decide +kernel
theorem named_eq (b : Nat) (h : b < 256) : Lib.indexByte ({ data := #[65, 66, 67, 68, 87] } : ByteArray).data.toList (b : Int).toNat.toUInt8 = nameOf (b : Int) := by
  have := named_all
  rw [List.all_eq_true] at this
  exact of_decide_eq_true (this b (List.mem_range.2 h))
theorem named_any (t : ByteArray) (w : World) :
    Calls Tryd.prog 30 #[.string t] w fun e w' => e = .returned (.int .i64 (if t.size = 0 then -1 else nameOf (bt t 0))) ∧ w = w' := by
  by_cases h : t.size = 0
  · rw [if_pos h]
    have hq : t.toList.isEmpty = true := by rw [List.isEmpty_iff_length_eq_zero, Lib.toList_data]; exact h
    clear h
    go_enter Tryd.func30, Tryd.ntmps30
    go_wp2
    go_ret
    exact ⟨rfl, rfl⟩
  · rw [if_neg h]
    have hq : t.toList.isEmpty = false := by
      cases hh : t.toList.isEmpty
      · rfl
      · rw [List.isEmpty_iff_length_eq_zero, Lib.toList_data] at hh; exact absurd hh h
    have hp : 0 < t.size := by omega
    have f0 : ∀ h, (t[0]'h).toNat = bt t 0 := fun h => bt_get t 0 h
    have HE := hide (named_eq (bt t 0) (bt_lt t 0))
    clear h
    go_enter Tryd.func30, Tryd.ntmps30
    go_wp2_with fail
    refine (idx_any _ _ _).mono ?_
    rintro e w' ⟨rfl, rfl⟩
    go_wp2
    go_ret
    exact ⟨by rw [← unhide HE]; rfl, rfl⟩
def half (b : Nat) : Bool := decide (33 ≤ b ∧ b ≤ 126)
set_option maxRecDepth 100000 in
theorem half_any (b : Nat) (w : World) :
    Calls Tryd.prog 50 #[.int .u8 b] w fun e w' => e = .returned (.bool (half b)) ∧ w' = w := by
  have hc : b < 33 ∨ (33 ≤ b ∧ 126 < b) ∨ (33 ≤ b ∧ b ≤ 126) := by omega
  rcases hc with a | ⟨a, c⟩ | ⟨a, c⟩
  · have a' : (b : Int) < 33 := by omega
    have e : half b = false := decide_eq_false (by omega)
    rw [e]
    go_enter Tryd.func50, Tryd.ntmps50
    go_wp2
    go_ret
    exact ⟨rfl, rfl⟩
  · have a' : (33 : Int) ≤ (b : Int) := by omega
    have c' : (127 : Int) ≤ (b : Int) := by omega
    have e : half b = false := decide_eq_false (by omega)
    rw [e]
    go_enter Tryd.func50, Tryd.ntmps50
    go_wp2
    go_ret
    exact ⟨by show Ending.returned (.bool (decide ((b : Int) < 127))) = _; rw [decide_eq_false (by omega)], rfl⟩
  · have a' : (33 : Int) ≤ (b : Int) := by omega
    have c' : (b : Int) < 127 := by omega
    have e : half b = true := decide_eq_true (by omega)
    rw [e]
    go_enter Tryd.func50, Tryd.ntmps50
    go_wp2
    go_ret
    exact ⟨rfl, rfl⟩
/-- The point of a byte, at least 32, in a state other than 4, or -1. -/
def sing (st : Int) (b : Nat) : Int := if 127 < b ∨ (b = 127 ∧ st = 0) then -1 else if st = 0 then (b : Int) else (st + 1) * 256 + b - 32
set_option maxRecDepth 100000 in
theorem single_any (st : Int) (b : Nat) (h0 : 0 ≤ st) (h4 : st ≤ 3) (hb : b < 256) (w : World) :
    Calls Tryd.prog 29 #[.int .i64 st, .int .u8 b] w fun e w' => e = .returned (.int .i64 (sing st b)) ∧ w' = w := by
  have hc : 127 < b ∨ (b = 127 ∧ st = 0) ∨ (b = 127 ∧ 1 ≤ st) ∨ (b < 127 ∧ st = 0) ∨ (b < 127 ∧ 1 ≤ st) := by omega
  rcases hc with a | ⟨a, c⟩ | ⟨a, c⟩ | ⟨a, c⟩ | ⟨a, c⟩
  · have e : sing st b = -1 := by unfold sing; rw [if_pos (.inl a)]
    rw [e]
    have a' : (127 : Int) < (b : Int) := by omega
    go_enter Tryd.func29, Tryd.ntmps29
    go_wp2
    go_ret
    exact ⟨rfl, rfl⟩
  · subst a c
    have e : sing 0 127 = -1 := by decide
    rw [e]
    go_enter Tryd.func29, Tryd.ntmps29
    go_wp2
    go_ret
    exact ⟨rfl, rfl⟩
  · have e : sing st b = (st + 1) * 256 + b - 32 := by unfold sing; rw [if_neg (by omega), if_neg (by omega)]
    rw [e]
    have q0 : (st == 0) = false := by rw [beq_eq_false_iff_ne]; omega
    have q7 : ((b : Int) == 127) = true := by rw [beq_iff_eq]; omega
    have a' : (b : Int) ≤ 127 := by omega
    have hw : wrap64 (b : Int) = b := by unfold wrap64; omega
    clear a e
    go_enter Tryd.func29, Tryd.ntmps29
    go_wp2
    go_ret
    exact ⟨by go_num, rfl⟩
  · subst c
    have e : sing 0 b = (b : Int) := by unfold sing; rw [if_neg (by omega), if_pos rfl]
    rw [e]
    have q7 : ((b : Int) == 127) = false := by rw [beq_eq_false_iff_ne]; omega
    have a' : (b : Int) ≤ 127 := by omega
    have hw : wrap64 (b : Int) = b := by unfold wrap64; omega
    clear e
    go_enter Tryd.func29, Tryd.ntmps29
    go_wp2
    go_ret
    exact ⟨by first | rfl | go_num, rfl⟩
  · have e : sing st b = (st + 1) * 256 + b - 32 := by unfold sing; rw [if_neg (by omega), if_neg (by omega)]
    rw [e]
    have q0 : (st == 0) = false := by rw [beq_eq_false_iff_ne]; omega
    have q7 : ((b : Int) == 127) = false := by rw [beq_eq_false_iff_ne]; omega
    have a' : (b : Int) ≤ 127 := by omega
    have hw : wrap64 (b : Int) = b := by unfold wrap64; omega
    clear e
    go_enter Tryd.func29, Tryd.ntmps29
    go_wp2
    go_ret
    exact ⟨by go_num, rfl⟩
/-- The point of the first two bytes in state 4, or -1. -/
def pairOf (t : ByteArray) : Int :=
  if 2 ≤ t.size ∧ half (bt t 0) = true ∧ half (bt t 1) = true ∧ ideo (24576 + 94 * ((bt t 0 : Int) - 33) + (bt t 1 : Int) - 33) = true then 24576 + 94 * ((bt t 0 : Int) - 33) + (bt t 1 : Int) - 33 else -1
set_option maxHeartbeats 2000000 in
set_option maxRecDepth 100000 in
theorem pair_any (t : ByteArray) (ht2 : t.size ≤ 65536) (w : World) (ht : TabAt w) :
    Calls Tryd.prog 31 #[.string t] w fun e w' => e = .returned (.int .i64 (pairOf t)) ∧ Below w.heap.size w w' := by
  have H := hide ht
  clear ht
  by_cases h2 : t.size < 2
  · have e : pairOf t = -1 := by unfold pairOf; rw [if_neg (by omega)]
    rw [e]
    clear e
    go_enter Tryd.func31, Tryd.ntmps31
    go_wp2
    go_ret
    exact ⟨rfl, Below.refl _ _⟩
  have f0 : ∀ h, (t[0]'h).toNat = bt t 0 := fun h => bt_get t 0 h
  have f1 : ∀ h, (t[1]'h).toNat = bt t 1 := fun h => bt_get t 1 h
  have g0 := wrap_bt t 0
  have g1 := wrap_bt t 1
  have h0 : 0 < t.size := by omega
  have h1 : 1 < t.size := by omega
  have h2' : (2 : Int) ≤ (t.size : Int) := by omega
  have b0 := bt_lt t 0
  have b1 := bt_lt t 1
  cases ha : half (bt t 0)
  · have e : pairOf t = -1 := by unfold pairOf; rw [if_neg (by rw [ha]; simp)]
    rw [e]
    clear e g0 g1
    go_enter Tryd.func31, Tryd.ntmps31
    go_wp2_with fail
    refine (half_any _ _).mono ?_
    rintro e w' ⟨rfl, rfl⟩
    go_wp2
    go_ret
    exact ⟨rfl, Below.refl _ _⟩
  cases hb : half (bt t 1)
  · have e : pairOf t = -1 := by unfold pairOf; rw [if_neg (by rw [hb]; simp)]
    rw [e]
    clear e g0 g1
    go_enter Tryd.func31, Tryd.ntmps31
    go_wp2_with fail
    refine (half_any _ _).mono ?_
    rintro e w' ⟨rfl, rfl⟩
    go_wp2_with fail
    refine (half_any _ _).mono ?_
    rintro e w' ⟨rfl, rfl⟩
    go_wp2
    go_ret
    exact ⟨rfl, Below.refl _ _⟩
  have h0a : 33 ≤ bt t 0 ∧ bt t 0 ≤ 126 := of_decide_eq_true ha
  have h1a : 33 ≤ bt t 1 ∧ bt t 1 ≤ 126 := of_decide_eq_true hb
  have a0 : (33 : Int) ≤ (bt t 0 : Int) := by omega
  have a1 : (bt t 0 : Int) ≤ 126 := by omega
  have c0 : (33 : Int) ≤ (bt t 1 : Int) := by omega
  have c1 : (bt t 1 : Int) ≤ 126 := by omega
  cases hid : ideo (24576 + 94 * ((bt t 0 : Int) - 33) + (bt t 1 : Int) - 33)
  · have HE : Hid (pairOf t = -1) := hide (by unfold pairOf; rw [if_neg (by rw [hid]; simp)])
    have HI := hide hid
    clear hid h0a h1a
    go_enter Tryd.func31, Tryd.ntmps31
    go_wp2_with fail
    refine (half_any _ _).mono ?_
    rintro e w' ⟨rfl, rfl⟩
    go_wp2_with fail
    refine (half_any _ _).mono ?_
    rintro e w' ⟨rfl, rfl⟩
    go_wp2_with fail
    go_quiet (fail)
    go_wp2_with fail
    refine (isIdeo_any (24576 + 94 * ((bt t 0 : Int) - 33) + (bt t 1 : Int) - 33) _ ((unhide H).below (bdrew (Below.refl _ _) _))).mono ?_
    rintro e w2 ⟨rfl, hb2⟩
    rw [unhide HI]
    go_wp2
    go_ret
    exact ⟨by rw [unhide HE]; rfl, (bdrew (Below.refl _ _) _).trans hb2⟩
  · have HE : Hid (pairOf t = 24576 + 94 * ((bt t 0 : Int) - 33) + (bt t 1 : Int) - 33) := hide (by unfold pairOf; rw [if_pos ⟨by omega, ha, hb, hid⟩])
    have HI := hide hid
    clear hid h0a h1a
    go_enter Tryd.func31, Tryd.ntmps31
    go_wp2_with fail
    refine (half_any _ _).mono ?_
    rintro e w' ⟨rfl, rfl⟩
    go_wp2_with fail
    refine (half_any _ _).mono ?_
    rintro e w' ⟨rfl, rfl⟩
    go_wp2_with fail
    go_quiet (fail)
    go_wp2_with fail
    refine (isIdeo_any (24576 + 94 * ((bt t 0 : Int) - 33) + (bt t 1 : Int) - 33) _ ((unhide H).below (bdrew (Below.refl _ _) _))).mono ?_
    rintro e w2 ⟨rfl, hb2⟩
    rw [unhide HI]
    go_wp2
    go_ret
    exact ⟨by rw [unhide HE]; first | rfl | go_num, (bdrew (Below.refl _ _) _).trans hb2⟩
end Go.Proofs.YtohpifhpfijmcaaDoor
