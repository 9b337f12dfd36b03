/- The program's Detect. -/
import Derived.Test.YtiianallpmfcbaaDoorDetI
import Derived.Test.YtiianallpmfcbaaDoorShelf
namespace Go.Proofs.YtiianallpmfcbaaDoor
open Go.RowKit
theorem idx_none (l : List UInt8) : Lib.indexByte l 0 < 0 ↔ ∀ b ∈ l, b ≠ 0 := by
  induction l with
  | nil => simp [Lib.indexByte]
  | cons b t ih =>
    unfold Lib.indexByte
    have hge := Lib.indexByte_ge t 0
    by_cases hb : b = 0
    · subst hb; simp
    · have hb' : (b == 0) = false := by simpa using hb
      simp only [hb', Bool.false_eq_true, if_false]
      constructor
      · intro h c hc
        rw [List.mem_cons] at hc
        rcases hc with rfl | hc
        · exact hb
        · refine ih.1 ?_ c hc
          split at h
          · rename_i e; rw [beq_iff_eq] at e; omega
          · omega
      · intro h
        have := ih.2 (fun c hc => h c (List.mem_cons_of_mem _ hc))
        have e : Lib.indexByte t 0 = -1 := by omega
        rw [e]; decide
theorem bt_data (s : ByteArray) (i : Nat) (h : i < s.size) : bt s i = (s.data.toList[i]'(by simpa using h)).toNat := by
  rw [← bt_get s i h]; rfl
theorem no_zero (s : ByteArray) : (Lib.indexByte s.data.toList 0 < 0) ↔ zc s 0 s.size + zc s 1 s.size = 0 := by
  rw [idx_none, zc_none]
  constructor
  · intro h i hi
    rw [bt_data s i hi]
    have := h _ (List.getElem_mem (by simpa using hi : i < s.data.toList.length))
    intro e
    exact this (UInt8.toNat_inj.1 (by rw [e]; rfl))
  · intro h b hb
    obtain ⟨i, hi, rfl⟩ := List.getElem_of_mem hb
    have hi' : i < s.size := by simpa using hi
    have := h i hi'
    rw [bt_data s i hi'] at this
    intro e
    apply this
    rw [e]; rfl
set_option maxHeartbeats 1000000 in
set_option maxRecDepth 100000 in
theorem idx28 (s : ByteArray) (c : Int) (w : World) :
    Calls Tryd.prog 28 #[.string s, .int .u8 c] w fun e w' => e = .returned (.int .i64 (Lib.indexByte s.data.toList c.toNat.toUInt8)) ∧ w' = w := by
  go_enter Tryd.func28, Tryd.ntmps28
  go_wp2
  rw [run_callFunc_extern Tryd.func37 (by kernel_rfl) (by kernel_rfl) (by kernel_rfl) (e := Extern.BytealgIndexByte.indexByte) (by kernel_rfl), Lib.run_indexByteString]
  simp only [Result.andThen]
  rw [Oper.upon_value]
  go_wp2
  go_ret
  exact ⟨rfl, rfl⟩
theorem idx_any (s : ByteArray) (c : Int) (w : World) :
    Calls Tryd.prog 13 #[.string s, .int .u8 c] w fun e w' => e = .returned (.int .i64 (Lib.indexByte s.data.toList c.toNat.toUInt8)) ∧ w' = w := by
  go_enter Tryd.func13, Tryd.ntmps13
  go_wp2_with (go_at_call 28; refine (idx28 _ _ _).mono ?_; rintro e w' ⟨rfl, rfl⟩)
  go_ret
  exact ⟨rfl, rfl⟩
/-- What is detected where no mark stands ahead. -/
def tailV (s : ByteArray) : Int := if Lib.validD s.data.toList = true ∧ zc s 0 s.size + zc s 1 s.size = 0 then 1 else byZ s
set_option maxHeartbeats 2000000 in
set_option maxRecDepth 100000 in
theorem detectT (s : ByteArray) (w : World) (hs : s.size ≤ 65536) (hT : Lib.Utf8Tabs (Tryd.laysValid_ren.g 3) (Tryd.laysValid_ren.g 4) w) (h1 : hasP s ⟨#[239, 187, 191]⟩ = false) (h2 : hasP s ⟨#[255, 254, 0, 0]⟩ = false) (h3 : hasP s ⟨#[0, 0, 254, 255]⟩ = false) (h4 : hasP s ⟨#[254, 255]⟩ = false) (h5 : hasP s ⟨#[255, 254]⟩ = false) :
    Calls Tryd.prog 6 #[.string s] w fun e w' => e = .returned (.int .i64 (tailV s)) ∧ Below w.heap.size w w' := by
  have cV : Calls Tryd.prog 12 #[.string s] w _ := Any.utf8_ValidString Tryd.laysValid s w (by omega) hT
  have CV := hide cV
  have cI := fun W => idx_any s 0 W
  have e0 : ((0 : Int).toNat.toUInt8) = 0 := rfl
  rw [e0] at cI
  have CI := hide cI
  have CZ := hide (fun W => byZeros_any s W hs)
  have HN := hide (no_zero s)
  clear cV hT cI e0
  have HT : Hid (tailV s = if Lib.validD s.data.toList = true ∧ zc s 0 s.size + zc s 1 s.size = 0 then 1 else byZ s) := hide rfl
  generalize Lib.validD s.data.toList = V at *
  generalize Lib.indexByte s.data.toList 0 = I at *
  generalize tailV s = T at *
  generalize byZ s = Z at *
  cases V
  · go_enter Tryd.func6, Tryd.ntmps6
    go_wp2_with (first | (go_at_call 11; refine (hasPre_any _ _ _).mono ?_; rintro e w' ⟨rfl, rfl⟩) | (go_at_call 12; refine (unhide CV).mono ?_; rintro e w2 ⟨rfl, hb⟩) | (go_at_call 14; refine ((unhide CZ) _).mono ?_; rintro e w3 ⟨rfl, rfl⟩))
    go_ret
    exact ⟨ret_int (by rw [unhide HT, if_neg (by simp)]), hb⟩
  · by_cases hi : I < 0
    · go_enter Tryd.func6, Tryd.ntmps6
      go_wp2_with (first | (go_at_call 11; refine (hasPre_any _ _ _).mono ?_; rintro e w' ⟨rfl, rfl⟩) | (go_at_call 12; refine (unhide CV).mono ?_; rintro e w2 ⟨rfl, hb⟩) | (go_at_call 13; refine ((unhide CI) _).mono ?_; rintro e w4 ⟨rfl, rfl⟩))
      go_ret
      exact ⟨ret_int (by rw [unhide HT, if_pos ⟨trivial, (unhide HN).1 hi⟩]), hb⟩
    · go_enter Tryd.func6, Tryd.ntmps6
      go_wp2_with (first | (go_at_call 11; refine (hasPre_any _ _ _).mono ?_; rintro e w' ⟨rfl, rfl⟩) | (go_at_call 12; refine (unhide CV).mono ?_; rintro e w2 ⟨rfl, hb⟩) | (go_at_call 13; refine ((unhide CI) _).mono ?_; rintro e w4 ⟨rfl, rfl⟩) | (go_at_call 14; refine ((unhide CZ) _).mono ?_; rintro e w3 ⟨rfl, rfl⟩))
      go_ret
      exact ⟨ret_int (by rw [unhide HT, if_neg (fun h => absurd ((unhide HN).2 h.2) (by omega))]), hb⟩
/-- What is detected. -/
def detV (s : ByteArray) : Int :=
  if 65536 < s.size then 0 else if hasP s ⟨#[239, 187, 191]⟩ = true then 1 else if hasP s ⟨#[255, 254, 0, 0]⟩ = true then 5 else if hasP s ⟨#[0, 0, 254, 255]⟩ = true then 4 else if hasP s ⟨#[254, 255]⟩ = true then 2 else if hasP s ⟨#[255, 254]⟩ = true then 3 else tailV s
theorem implDetect (s : ByteArray) (w : World) (hT : Lib.Utf8Tabs (Tryd.laysValid_ren.g 3) (Tryd.laysValid_ren.g 4) w) :
    Calls Tryd.prog 6 #[.string s] w fun e w' => e = .returned (.int .i64 (detV s)) ∧ Below w.heap.size w w' := by
  unfold detV
  by_cases hs : 65536 < s.size
  · rw [if_pos hs]
    go_enter Tryd.func6, Tryd.ntmps6
    go_wp2
    go_ret
    exact ⟨rfl, Below.refl _ _⟩
  rw [if_neg hs]
  have hs' : s.size ≤ 65536 := by omega
  cases h1 : hasP s ⟨#[239, 187, 191]⟩
  · rw [if_neg (by simp)]
    cases h2 : hasP s ⟨#[255, 254, 0, 0]⟩
    · rw [if_neg (by simp)]
      cases h3 : hasP s ⟨#[0, 0, 254, 255]⟩
      · rw [if_neg (by simp)]
        cases h4 : hasP s ⟨#[254, 255]⟩
        · rw [if_neg (by simp)]
          cases h5 : hasP s ⟨#[255, 254]⟩
          · rw [if_neg (by simp)]
            exact detectT s w hs' hT h1 h2 h3 h4 h5
          · rw [if_pos rfl]
            exact (detect3 s w hs' h1 h2 h3 h4 h5).mono fun e w' ⟨he, hw⟩ => ⟨he, hw ▸ Below.refl _ _⟩
        · rw [if_pos rfl]
          exact (detect2 s w hs' h1 h2 h3 h4).mono fun e w' ⟨he, hw⟩ => ⟨he, hw ▸ Below.refl _ _⟩
      · rw [if_pos rfl]
        exact (detect4 s w hs' h1 h2 h3).mono fun e w' ⟨he, hw⟩ => ⟨he, hw ▸ Below.refl _ _⟩
    · rw [if_pos rfl]
      exact (detect5 s w hs' h1 h2).mono fun e w' ⟨he, hw⟩ => ⟨he, hw ▸ Below.refl _ _⟩
  · rw [if_pos rfl]
    exact (detect1 s w hs' h1).mono fun e w' ⟨he, hw⟩ => ⟨he, hw ▸ Below.refl _ _⟩
end Go.Proofs.YtiianallpmfcbaaDoor
