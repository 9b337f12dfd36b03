/- A dot ahead, behind and within, as the program asks of a pattern's letters. -/
import Derived.Test.YtgmpkapeemiecaaHypS
import Derived.Lib.Bytealg
namespace Go.Proofs.Ytgmpkapeemiecaa
namespace Hyp
open Go.RowKit
set_option linter.unusedVariables false
set_option maxRecDepth 100000 in
theorem idxD (t : ByteArray) (w : World) : Calls Try.prog 47 #[.string t, .string ⟨#[46]⟩] w fun e w' => e = .returned (.int .i64 (Lib.indexByte t.data.toList 46)) ∧ w' = w := by
  obtain ⟨j, h⟩ : ∃ j, Lib.indexByte t.data.toList 46 = j := ⟨_, rfl⟩
  have HE := hide h
  rw [h]
  have C3 : Hid (∀ w, Calls Try.prog 51 #[.string t, .int .u8 46] w fun e w' => e = .returned (.int .i64 j) ∧ w' = w) := hide (fun w => by
    go_enter Try.func51, Try.ntmps51
    go_wp2
    rw [run_callFunc_extern Try.func55 (by kernel_rfl) (by kernel_rfl) (by kernel_rfl) (e := Extern.BytealgIndexByte.indexByte) (by kernel_rfl), Lib.run_indexByteString]
    simp only [Result.andThen]
    rw [Oper.upon_value]
    go_wp2
    go_ret
    exact ⟨rfl, rfl⟩)
  have C2 : Hid (∀ w, Calls Try.prog 50 #[.string t, .string ⟨#[46]⟩] w fun e w' => e = .returned (.int .i64 j) ∧ w' = w) := hide (fun w => by
    by_cases hq : ([46] == t.toList) = true
    · have hj : j = 0 := by
        have e := (beq_iff_eq.1 hq).symm
        rw [ByteArray.toList_eq] at e
        rw [e] at h
        rw [← h]
        decide
      subst hj
      clear C3 HE h
      go_enter Try.func50, Try.ntmps50
      go_wp2
      go_ret
      exact ⟨rfl, rfl⟩
    · have hq2 : ([46] == t.toList) = false := by simpa using hq
      clear hq h HE
      go_enter Try.func50, Try.ntmps50
      go_wp2_with (go_at_call 51; refine ((unhide C3) _).mono ?_; rintro e w' ⟨rfl, hw⟩; obtain rfl := hw.symm; clear hw)
      go_ret
      exact ⟨rfl, rfl⟩)
  clear h C3 HE
  go_enter Try.func47, Try.ntmps47
  go_wp2_with (go_at_call 50; refine ((unhide C2) _).mono ?_; rintro e w' ⟨rfl, hw⟩; obtain rfl := hw.symm; clear hw)
  go_ret
  exact ⟨rfl, rfl⟩
/-- Whether a dot stands in a text. -/
def dots (t : ByteArray) : Bool := decide (0 ≤ Lib.indexByte t.data.toList 46)
theorem conD (t : ByteArray) (w : World) : Calls Try.prog 44 #[.string t, .string ⟨#[46]⟩] w fun e w' => e = .returned (.bool (dots t)) ∧ w' = w := by
  have C := hide (fun W => idxD t W)
  unfold dots
  generalize Lib.indexByte t.data.toList 46 = j at *
  go_enter Try.func44, Try.ntmps44
  go_wp2_with (go_at_call 47; refine ((unhide C) _).mono ?_; rintro e w' ⟨rfl, hw⟩; obtain rfl := hw.symm; clear hw)
  go_ret
  exact ⟨rfl, rfl⟩
def hdP (t : ByteArray) : Bool := decide (0 < t.size) && ((t.extract 0 1).toList == [46])
def hdS (t : ByteArray) : Bool := decide (0 < t.size) && ((t.extract (t.size - 1) t.size).toList == [46])
def trP (t : ByteArray) : ByteArray := if hdP t = true then t.extract 1 t.size else t
def trS (t : ByteArray) : ByteArray := if hdS t = true then t.extract 0 (t.size - 1) else t
set_option maxRecDepth 100000 in
theorem hasP (t : ByteArray) (w : World) : Calls Try.prog 49 #[.string t, .string ⟨#[46]⟩] w fun e w' => e = .returned (.bool (hdP t)) ∧ w' = w := by
  have HE : Hid (hdP t = (decide (0 < t.size) && ((t.extract 0 1).toList == [46]))) := hide rfl
  generalize hdP t = x at *
  by_cases h : 0 < t.size
  · have h1 : (1 : Int) ≤ (t.size : Int) := by omega
    rw [decide_eq_true h, Bool.true_and] at HE
    go_enter Try.func49, Try.ntmps49
    go_wp2
    go_ret
    exact ⟨by rw [unhide HE]; rfl, rfl⟩
  · have h1 : ¬ (1 : Int) ≤ (t.size : Int) := by omega
    rw [decide_eq_false h, Bool.false_and] at HE
    go_enter Try.func49, Try.ntmps49
    go_wp2
    go_ret
    exact ⟨by rw [unhide HE]; rfl, rfl⟩
set_option maxRecDepth 100000 in
theorem hasS (t : ByteArray) (w : World) (ht : t.size ≤ 1048576) : Calls Try.prog 48 #[.string t, .string ⟨#[46]⟩] w fun e w' => e = .returned (.bool (hdS t)) ∧ w' = w := by
  have HE : Hid (hdS t = (decide (0 < t.size) && ((t.extract (t.size - 1) t.size).toList == [46]))) := hide rfl
  generalize hdS t = x at *
  by_cases h : 0 < t.size
  · have h1 : (1 : Int) ≤ (t.size : Int) := by omega
    have h2 : (t.size : Int) - 1 = ((t.size - 1 : Nat) : Int) := by omega
    rw [decide_eq_true h, Bool.true_and] at HE
    go_enter Try.func48, Try.ntmps48
    go_wp2
    go_ret
    exact ⟨by rw [unhide HE]; rfl, rfl⟩
  · have h1 : ¬ (1 : Int) ≤ (t.size : Int) := by omega
    rw [decide_eq_false h, Bool.false_and] at HE
    go_enter Try.func48, Try.ntmps48
    go_wp2
    go_ret
    exact ⟨by rw [unhide HE]; rfl, rfl⟩
set_option maxRecDepth 100000 in
theorem trimP (t : ByteArray) (w : World) : Calls Try.prog 43 #[.string t, .string ⟨#[46]⟩] w fun e w' => e = .returned (.string (trP t)) ∧ w' = w := by
  have C2 : Hid (∀ w, Calls Try.prog 46 #[.string t, .string ⟨#[46]⟩] w fun e w' => e = .returned (.string (trP t)) ∧ w' = w) := hide (fun w => by
    have CH := hide (hasP t w)
    have HE : Hid (trP t = if hdP t = true then t.extract 1 t.size else t) := hide rfl
    have h0 : hdP t = true → 1 ≤ t.size := fun h => by unfold hdP at h; simp at h; omega
    generalize trP t = x at *
    generalize hdP t = b at *
    cases b
    · go_enter Try.func46, Try.ntmps46
      go_wp2_with (go_at_call 49; refine (unhide CH).mono ?_; rintro e w' ⟨rfl, hw⟩; obtain rfl := hw.symm; clear hw)
      go_ret
      exact ⟨by rw [unhide HE]; rfl, rfl⟩
    · have h1 := h0 rfl
      have h2 : (1 : Int) ≤ (t.size : Int) := by omega
      go_enter Try.func46, Try.ntmps46
      go_wp2_with (go_at_call 49; refine (unhide CH).mono ?_; rintro e w' ⟨rfl, hw⟩; obtain rfl := hw.symm; clear hw)
      go_ret
      exact ⟨by rw [unhide HE]; rfl, rfl⟩)
  go_enter Try.func43, Try.ntmps43
  go_wp2_with (go_at_call 46; refine ((unhide C2) _).mono ?_; rintro e w' ⟨rfl, hw⟩; obtain rfl := hw.symm; clear hw)
  go_ret
  exact ⟨rfl, rfl⟩
set_option maxRecDepth 100000 in
theorem trimS (t : ByteArray) (ht : t.size ≤ 1048576) (w : World) : Calls Try.prog 42 #[.string t, .string ⟨#[46]⟩] w fun e w' => e = .returned (.string (trS t)) ∧ w' = w := by
  have C2 : Hid (∀ w, Calls Try.prog 45 #[.string t, .string ⟨#[46]⟩] w fun e w' => e = .returned (.string (trS t)) ∧ w' = w) := hide (fun w => by
    have CH := hide (hasS t w ht)
    have HE : Hid (trS t = if hdS t = true then t.extract 0 (t.size - 1) else t) := hide rfl
    have h0 : hdS t = true → 1 ≤ t.size := fun h => by unfold hdS at h; simp at h; omega
    generalize trS t = x at *
    generalize hdS t = b at *
    cases b
    · go_enter Try.func45, Try.ntmps45
      go_wp2_with (go_at_call 48; refine (unhide CH).mono ?_; rintro e w' ⟨rfl, hw⟩; obtain rfl := hw.symm; clear hw)
      go_ret
      exact ⟨by rw [unhide HE]; rfl, rfl⟩
    · have h1 := h0 rfl
      have h2 : (t.size : Int) - 1 = ((t.size - 1 : Nat) : Int) := by omega
      have h3 : ((t.size - 1 : Nat) : Int) ≤ (t.size : Int) := by omega
      go_enter Try.func45, Try.ntmps45
      go_wp2_with (go_at_call 48; refine (unhide CH).mono ?_; rintro e w' ⟨rfl, hw⟩; obtain rfl := hw.symm; clear hw)
      go_ret
      exact ⟨by rw [unhide HE]; rfl, rfl⟩)
  go_enter Try.func42, Try.ntmps42
  go_wp2_with (go_at_call 45; refine ((unhide C2) _).mono ?_; rintro e w' ⟨rfl, hw⟩; obtain rfl := hw.symm; clear hw)
  go_ret
  exact ⟨rfl, rfl⟩
theorem withinH (p a b : Int) (w : World) : Calls Try.prog 35 #[.int .i64 p, .int .i64 a, .int .i64 b] w fun e w' => e = .returned (.bool (decide (a ≤ p) && decide (p ≤ b))) ∧ w' = w := by
  have rb : ∀ {x y : Bool}, x = y → (Ending.returned (.bool x) : Ending) = .returned (.bool y) := fun h => by rw [h]
  by_cases h1 : a ≤ p
  · by_cases h2 : p ≤ b
    · go_enter Try.func35, Try.ntmps35
      go_wp2
      go_ret
      exact ⟨rb (x := true) (by simp [h1, h2]), rfl⟩
    · go_enter Try.func35, Try.ntmps35
      go_wp2
      go_ret
      exact ⟨rb (x := false) (by simp [h2]), rfl⟩
  · go_enter Try.func35, Try.ntmps35
    go_wp2
    go_ret
    exact ⟨rb (x := false) (by simp; omega), rfl⟩
theorem smallH (c : Int) (h0 : 0 ≤ c) (h1 : c < 256) (w : World) : Calls Try.prog 37 #[.int .u8 c] w fun e w' => e = .returned (.bool (decide (97 ≤ c) && decide (c ≤ 122))) ∧ w' = w := by
  have C := hide (fun W => withinH c 97 122 W)
  generalize (decide (97 ≤ c) && decide (c ≤ 122)) = b at *
  go_enter Try.func37, Try.ntmps37
  go_wp2_with (go_at_call 35; refine ((unhide C) _).mono ?_; rintro e w' ⟨rfl, hw⟩; obtain rfl := hw.symm; clear hw)
  go_ret
  exact ⟨rfl, rfl⟩
/-- A pattern's letters are right, as the program asks. -/
def lrt (x : ByteArray) : Bool := (decide (1 ≤ x.size) && decide (x.size ≤ 20)) && !dots (trS (trP x))
theorem trP_le (t : ByteArray) : (trP t).size ≤ t.size := by
  unfold trP
  split
  · rw [ByteArray.size_extract]; omega
  · omega
set_option maxRecDepth 100000 in
theorem rightH (x : ByteArray) (hx : x.size ≤ 1048576) (v : Value) (hv : v.cells = #[v]) (w : World) : Calls Try.prog 38 #[.agg #[.string x, v]] w fun e w' => e = .returned (.bool (lrt x)) ∧ Below w.heap.size w w' := by
  have C1 := hide (fun W => trimP x W)
  have C2 := hide (fun W => trimS (trP x) (by have := trP_le x; omega) W)
  have C3 := hide (fun W => conD (trS (trP x)) W)
  have C4 := hide (fun W => withinH (x.size : Int) 1 20 W)
  have e1 : (decide ((1 : Int) ≤ (x.size : Int)) && decide ((x.size : Int) ≤ 20)) = (decide (1 ≤ x.size) && decide (x.size ≤ 20)) := by
    congr 1 <;> exact decide_eq_decide.2 (by omega)
  rw [e1] at C4
  have HE : Hid (lrt x = ((decide (1 ≤ x.size) && decide (x.size ≤ 20)) && !dots (trS (trP x)))) := hide rfl
  clear e1
  generalize lrt x = r at *
  generalize dots (trS (trP x)) = b2 at *
  generalize (decide (1 ≤ x.size) && decide (x.size ≤ 20)) = b1 at *
  generalize trS (trP x) = y2 at *
  generalize trP x = y1 at *
  cases b1
  · go_enter Try.func38, Try.ntmps38
    go_wp2_with (first
      | (go_at_call 43; refine ((unhide C1) _).mono ?_; rintro e w' ⟨rfl, hw⟩; obtain rfl := hw.symm; clear hw)
      | (go_at_call 42; refine ((unhide C2) _).mono ?_; rintro e w' ⟨rfl, hw⟩; obtain rfl := hw.symm; clear hw)
      | (go_at_call 35; refine ((unhide C4) _).mono ?_; rintro e w' ⟨rfl, hw⟩; obtain rfl := hw.symm; clear hw))
    go_ret
    exact ⟨by rw [unhide HE]; rfl, (Below.refl _ _).alloc (Nat.le_refl _) _⟩
  · cases b2
    all_goals
      go_enter Try.func38, Try.ntmps38
      go_wp2_with (first
        | (go_at_call 43; refine ((unhide C1) _).mono ?_; rintro e w' ⟨rfl, hw⟩; obtain rfl := hw.symm; clear hw)
        | (go_at_call 42; refine ((unhide C2) _).mono ?_; rintro e w' ⟨rfl, hw⟩; obtain rfl := hw.symm; clear hw)
        | (go_at_call 35; refine ((unhide C4) _).mono ?_; rintro e w' ⟨rfl, hw⟩; obtain rfl := hw.symm; clear hw)
        | (go_at_call 44; refine ((unhide C3) _).mono ?_; rintro e w' ⟨rfl, hw⟩; obtain rfl := hw.symm; clear hw))
      go_ret
      exact ⟨by rw [unhide HE]; rfl, (Below.refl _ _).alloc (Nat.le_refl _) _⟩
end Hyp
end Go.Proofs.Ytgmpkapeemiecaa
