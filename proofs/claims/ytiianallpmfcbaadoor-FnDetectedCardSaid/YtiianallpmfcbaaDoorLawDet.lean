/- The law FnDetected returns true. -/
import Derived.Test.YtiianallpmfcbaaDoorDet
import Derived.Test.YtiianallpmfcbaaDoorDraw
namespace Go.Proofs.YtiianallpmfcbaaDoor
open Go.RowKit
theorem cat_size (t : ByteArray) : ((⟨#[239, 187, 191]⟩ : ByteArray) ++ t).size = 3 + t.size := by
  rw [ByteArray.size_append]; rfl
theorem cat_bt (t : ByteArray) (i : Nat) (h : i < 3) : bt ((⟨#[239, 187, 191]⟩ : ByteArray) ++ t) i = bt ⟨#[239, 187, 191]⟩ i := by
  have h1 : i < ((⟨#[239, 187, 191]⟩ : ByteArray) ++ t).size := by rw [cat_size]; omega
  have h2 : i < (⟨#[239, 187, 191]⟩ : ByteArray).size := h
  rw [← bt_get _ i h1, ← bt_get _ i h2, ByteArray.getElem_append_left h2]
theorem cat_bt3 (t : ByteArray) (h : 0 < t.size) : bt ((⟨#[239, 187, 191]⟩ : ByteArray) ++ t) 3 = bt t 0 := by
  have h1 : 3 < ((⟨#[239, 187, 191]⟩ : ByteArray) ++ t).size := by rw [cat_size]; omega
  rw [← bt_get _ 3 h1, ← bt_get _ 0 h, ByteArray.getElem_append_right (by show 3 ≤ 3; omega)]
  rfl
theorem detect_law (t : ByteArray) (ht : t.size ≤ 1000) (hz : t.size = 0 ∨ bt t 0 ≠ 0) (f : Int) (hf : 1 ≤ f ∧ f ≤ 5) (w : World) :
    Calls Tryd.prog 6 #[.string (strOfNums (encOut f ((⟨#[239, 187, 191]⟩ : ByteArray) ++ t)))] w fun e w' => e = .returned (.int .i64 f) ∧ w' = w := by
  have hsz := cat_size t
  refine detect_form _ (by omega) (by omega) (cat_bt t 0 (by omega)) (cat_bt t 1 (by omega)) (cat_bt t 2 (by omega)) ?_ f hf w
  rcases hz with h | h
  · exact .inl (by omega)
  · by_cases h0 : t.size = 0
    · exact .inl (by omega)
    · exact .inr (by rw [cat_bt3 t (by omega)]; exact h)
theorem empty_size (t : ByteArray) (h : t.toList.isEmpty = true) : t.size = 0 := by
  rw [ByteArray.toList_eq, List.isEmpty_iff] at h
  have := congrArg List.length h
  simpa using this
theorem nonempty_size (t : ByteArray) (h : t.toList.isEmpty = false) : 0 < t.size := by
  rw [ByteArray.toList_eq] at h
  have : t.data.toList ≠ [] := by intro e; rw [e] at h; cases h
  have := List.length_pos_iff.2 this
  simpa using this
set_option maxHeartbeats 2000000 in
theorem law_loop (t : ByteArray) (ht : t.size ≤ 1000) (hz : t.size = 0 ∨ bt t 0 ≠ 0) (w w1 : World) (hb : Below w.heap.size w w1) (k : Nat) (h1 : 1 ≤ k) (h5 : k ≤ 5) :
    Calls Tryd.prog 7 #[.int .i64 k, .string ((⟨#[239, 187, 191]⟩ : ByteArray) ++ t)] w1 fun e w' => ∃ L, e = .returned (.string L) ∧ Below w.heap.size w w' ∧ ∀ W, Calls Tryd.prog 6 #[.string L] W fun e w' => e = .returned (.int .i64 k) ∧ w' = W := by
  have hsz := cat_size t
  refine (specEncode k _ w1 (by omega)).mono ?_
  rintro e w2 ⟨rfl, hb2⟩
  exact ⟨_, rfl, hb.trans (hb2.mono hb.size), fun W => detect_law t ht hz k (by omega) W⟩
set_option maxHeartbeats 2000000 in
set_option maxRecDepth 100000 in
theorem lawDetected (w : World) (a : Option Addr) (len cap : Nat) (hc : CodeIn w a len) :
    Calls Tryd.prog 3 #[.slice a len cap] w fun e w' => e = .returned (.bool true) ∧ Below w.heap.size w w' := by
  by_cases hl : 1048576 < len
  · go_enter Tryd.func3, Tryd.ntmps3
    go_wp2
    go_ret
    exact ⟨rfl, Below.refl _ _⟩
  have H := hide hc
  clear hc
  have HLl : Hid (len ≤ 1048576) := hide (by omega)
  go_enter Tryd.func3, Tryd.ntmps3
  go_wp2_with fail
  refine (draw_any _ a len cap (unhide HLl) (unhide H)).mono ?_
  rintro e w1 ⟨t, rfl, ht, hb⟩
  have B1 := hide hb
  clear hb H
  by_cases hbig : 1000 < t.size
  · go_wp2
    go_ret
    exact ⟨rfl, unhide B1⟩
  have hsm : t.size ≤ 1000 := by omega
  cases he : t.toList.isEmpty
  · have hpos := nonempty_size t he
    by_cases hz : bt t 0 = 0
    · have hg : ∀ h, (t[0]'h).toNat = 0 := fun h => by rw [bt_get t 0 h]; exact hz
      go_wp2
      go_ret
      exact ⟨rfl, unhide B1⟩
    · have HZ : Hid (t.size = 0 ∨ bt t 0 ≠ 0) := hide (.inr hz)
      have hg : ∀ h, ((((t[0]'h).toNat : Nat) : Int) == 0) = false := fun h => by rw [bt_get t 0 h, beq_eq_false_iff_ne]; omega
      clear hz
      go_wp2
      go_loopw [4] (fun i wr => ∃ k : Nat, 1 ≤ k ∧ k ≤ 6 ∧ i = .int .i64 k ∧ Hid (Below w.heap.size w wr)) (fun i _ => 6 - (intOf i).toNat)
      case atStart => exact ⟨1, by omega, by omega, rfl, B1⟩
      case round =>
        obtain ⟨k, hk1, hk6, rfl, HB⟩ := hrel
        by_cases hk : k ≤ 5
        · have hne : ((k : Int) != (k : Int)) = false := by simp
          go_wp2_with fail
          refine (law_loop t hsm (unhide HZ) w _ (unhide HB) k hk1 hk).mono ?_
          rintro e w2 ⟨L, rfl, hb2, hdet⟩
          have HB2 := hide hb2
          have HD := hide hdet
          clear hb2 hdet
          go_wp2_with fail
          refine ((unhide HD) _).mono ?_
          rintro e w3 ⟨rfl, rfl⟩
          go_wp2
          go_roundw
          case rel => exact ⟨k + 1, by omega, by omega, by go_num, HB2⟩
          case measure => simp [intOf]; omega
        · go_wp2
          go_ret
          exact ⟨rfl, unhide HB⟩
  · have HZ : Hid (t.size = 0 ∨ bt t 0 ≠ 0) := hide (.inl (empty_size t he))
    go_wp2
    go_loopw [4] (fun i wr => ∃ k : Nat, 1 ≤ k ∧ k ≤ 6 ∧ i = .int .i64 k ∧ Hid (Below w.heap.size w wr)) (fun i _ => 6 - (intOf i).toNat)
    case atStart => exact ⟨1, by omega, by omega, rfl, B1⟩
    case round =>
      obtain ⟨k, hk1, hk6, rfl, HB⟩ := hrel
      by_cases hk : k ≤ 5
      · have hne : ((k : Int) != (k : Int)) = false := by simp
        go_wp2_with fail
        refine (law_loop t hsm (unhide HZ) w _ (unhide HB) k hk1 hk).mono ?_
        rintro e w2 ⟨L, rfl, hb2, hdet⟩
        have HB2 := hide hb2
        have HD := hide hdet
        clear hb2 hdet
        go_wp2_with fail
        refine ((unhide HD) _).mono ?_
        rintro e w3 ⟨rfl, rfl⟩
        go_wp2
        go_roundw
        case rel => exact ⟨k + 1, by omega, by omega, by go_num, HB2⟩
        case measure => simp [intOf]; omega
      · go_wp2
        go_ret
        exact ⟨rfl, unhide HB⟩
end Go.Proofs.YtiianallpmfcbaaDoor
