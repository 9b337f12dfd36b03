/- Points and how they are written: the program's and the specification's. -/
import Derived.Test.YtigobciichnccaaDoorRows
import Derived.Test.YtigobciichnccaaDoorBase
import Derived.WalkKit
import Derived.WalkLawsBesides
import Derived.WalkSpells
import Derived.Below
import Derived.Lib.RuneBytes
import Derived.Lib.SlBytesRow
namespace Go.Proofs.YtigobciichnccaaDoor
open Go.RowKit
def isPt (p : Int) : Bool := decide (0 ≤ p ∧ p ≤ 1114111 ∧ (p < 55296 ∨ 57343 < p))
theorem isPointS (p : Int) (w : World) :
    Calls Tryd.prog 77 #[.int .i64 p] w fun e w' => e = .returned (.bool (isPt p)) ∧ w' = w := by
  have hp : ¬ 0 ≤ p ∨ (0 ≤ p ∧ ¬ p ≤ 1114111) ∨ (0 ≤ p ∧ p ≤ 1114111 ∧ p < 55296) ∨ (0 ≤ p ∧ p ≤ 1114111 ∧ ¬ p < 55296 ∧ 57343 < p) ∨ (0 ≤ p ∧ p ≤ 1114111 ∧ ¬ p < 55296 ∧ ¬ 57343 < p) := by omega
  rcases hp with h1 | ⟨h1, h2⟩ | ⟨h1, h2, h3⟩ | ⟨h1, h2, h3, h4⟩ | ⟨h1, h2, h3, h4⟩
  all_goals
    go_enter Tryd.func77, Tryd.ntmps77
    go_wp2
    go_ret
    exact ⟨by simp [isPt]; omega, rfl⟩
theorem isPt_iff (p : Int) : isPt p = true ↔ 0 ≤ p ∧ p ≤ 1114111 ∧ (p < 55296 ∨ 57343 < p) := by simp [isPt]
theorem conv_of (w : World) (b cap : Nat) (zs : List Int) (n : Nat) (hn : zs.length = n) (hc : ∀ i, i < n → w.cell? ⟨b, i, none⟩ = some (.int .u8 (zs.getD i 0))) :
    (convert 38 9 (.slice (some ⟨b, 0, none⟩) n cap)).run Tryd.prog w = .ok (.string (strOfNums zs)) w :=
  run_convert_bytes_arg w 38 5 Tryd.underlying38 Tryd.underlying5 b 0 n cap zs hn (fun i hi => by rw [Nat.zero_add]; exact hc i hi) 9 Tryd.underlying9
theorem conv1 (w : World) (a : Int) : (convert 38 9 (.slice (some ⟨w.heap.size, 0, none⟩) 1 1)).run Tryd.prog (w.alloc (.cells #[.int .u8 a] 5)) = .ok (.string (strOfNums [a])) (w.alloc (.cells #[.int .u8 a] 5)) :=
  conv_of _ _ 1 [a] 1 rfl (fun i hi => by match i, hi with | 0, _ => simp)
theorem conv2 (w : World) (a b : Int) : (convert 38 9 (.slice (some ⟨w.heap.size, 0, none⟩) 2 2)).run Tryd.prog (w.alloc (.cells #[.int .u8 a, .int .u8 b] 5)) = .ok (.string (strOfNums [a, b])) (w.alloc (.cells #[.int .u8 a, .int .u8 b] 5)) :=
  conv_of _ _ 2 [a, b] 2 rfl (fun i hi => by match i, hi with | 0, _ => simp | 1, _ => simp)
theorem conv3 (w : World) (a b c : Int) : (convert 38 9 (.slice (some ⟨w.heap.size, 0, none⟩) 3 3)).run Tryd.prog (w.alloc (.cells #[.int .u8 a, .int .u8 b, .int .u8 c] 5)) = .ok (.string (strOfNums [a, b, c])) (w.alloc (.cells #[.int .u8 a, .int .u8 b, .int .u8 c] 5)) :=
  conv_of _ _ 3 [a, b, c] 3 rfl (fun i hi => by match i, hi with | 0, _ => simp | 1, _ => simp | 2, _ => simp)
theorem conv4 (w : World) (a b c d : Int) : (convert 38 9 (.slice (some ⟨w.heap.size, 0, none⟩) 4 4)).run Tryd.prog (w.alloc (.cells #[.int .u8 a, .int .u8 b, .int .u8 c, .int .u8 d] 5)) = .ok (.string (strOfNums [a, b, c, d])) (w.alloc (.cells #[.int .u8 a, .int .u8 b, .int .u8 c, .int .u8 d] 5)) :=
  conv_of _ _ 4 [a, b, c, d] 4 rfl (fun i hi => by match i, hi with | 0, _ => simp | 1, _ => simp | 2, _ => simp | 3, _ => simp)
theorem ret_str {a b : List Int} (h : a = b) : Ending.returned (.string (strOfNums a)) = .returned (.string (strOfNums b)) := by rw [h]
set_option maxHeartbeats 400000 in
theorem write_one (p : Int) (w : World) (h0 : 0 ≤ p) (h1 : p < 128) :
    Calls Tryd.prog 78 #[.int .i64 p] w fun e w' => e = .returned (.string (strOfNums (Lib.encodeRuneZ p))) ∧ Below w.heap.size w w' := by
  have hp : isPt p = true := (isPt_iff p).2 (by omega)
  have hcv := conv1
  go_enter Tryd.func78, Tryd.ntmps78
  go_wp2_with (go_at_call 77; refine (isPointS p _).mono ?_; rintro e w' ⟨rfl, rfl⟩)
  go_ret
  exact ⟨ret_str (Lib.encodeRuneZ_one h0 (by omega)).symm, (Below.refl _ _).alloc (Nat.le_refl _) _⟩
set_option maxHeartbeats 400000 in
theorem write_two (p : Int) (w : World) (h0 : 128 ≤ p) (h1 : p < 2048) :
    Calls Tryd.prog 78 #[.int .i64 p] w fun e w' => e = .returned (.string (strOfNums (Lib.encodeRuneZ p))) ∧ Below w.heap.size w w' := by
  have hp : isPt p = true := (isPt_iff p).2 (by omega)
  have h2 : ¬ p < 128 := by omega
  have hcv := conv2
  go_enter Tryd.func78, Tryd.ntmps78
  go_wp2_with (go_at_call 77; refine (isPointS p _).mono ?_; rintro e w' ⟨rfl, rfl⟩)
  go_ret
  exact ⟨ret_str (Lib.encodeRuneZ_two h0 (by omega)).symm, (Below.refl _ _).alloc (Nat.le_refl _) _⟩
set_option maxHeartbeats 400000 in
theorem write_lo (p : Int) (w : World) (h0 : 2048 ≤ p) (h1 : p < 55296) :
    Calls Tryd.prog 78 #[.int .i64 p] w fun e w' => e = .returned (.string (strOfNums (Lib.encodeRuneZ p))) ∧ Below w.heap.size w w' := by
  have hp : isPt p = true := (isPt_iff p).2 (by omega)
  have h2 : ¬ p < 128 := by omega
  have hcv := conv3
  go_enter Tryd.func78, Tryd.ntmps78
  go_wp2_with (go_at_call 77; refine (isPointS p _).mono ?_; rintro e w' ⟨rfl, rfl⟩)
  go_ret
  exact ⟨ret_str (Lib.encodeRuneZ_three (.inl ⟨h0, h1⟩)).symm, (Below.refl _ _).alloc (Nat.le_refl _) _⟩
set_option maxHeartbeats 400000 in
theorem write_hi (p : Int) (w : World) (h0 : 57343 < p) (h1 : p < 65536) :
    Calls Tryd.prog 78 #[.int .i64 p] w fun e w' => e = .returned (.string (strOfNums (Lib.encodeRuneZ p))) ∧ Below w.heap.size w w' := by
  have hp : isPt p = true := (isPt_iff p).2 (by omega)
  have h2 : ¬ p < 128 := by omega
  have h3 : ¬ p < 2048 := by omega
  have hcv := conv3
  go_enter Tryd.func78, Tryd.ntmps78
  go_wp2_with (go_at_call 77; refine (isPointS p _).mono ?_; rintro e w' ⟨rfl, rfl⟩)
  go_ret
  exact ⟨ret_str (Lib.encodeRuneZ_three (.inr ⟨h0, by omega⟩)).symm, (Below.refl _ _).alloc (Nat.le_refl _) _⟩
set_option maxHeartbeats 400000 in
theorem write_four (p : Int) (w : World) (h0 : 65536 ≤ p) (h1 : p ≤ 1114111) :
    Calls Tryd.prog 78 #[.int .i64 p] w fun e w' => e = .returned (.string (strOfNums (Lib.encodeRuneZ p))) ∧ Below w.heap.size w w' := by
  have hp : isPt p = true := (isPt_iff p).2 (by omega)
  have h2 : ¬ p < 128 := by omega
  have h3 : ¬ p < 2048 := by omega
  have hcv := conv4
  go_enter Tryd.func78, Tryd.ntmps78
  go_wp2_with (go_at_call 77; refine (isPointS p _).mono ?_; rintro e w' ⟨rfl, rfl⟩)
  go_ret
  exact ⟨ret_str (Lib.encodeRuneZ_four h0 h1).symm, (Below.refl _ _).alloc (Nat.le_refl _) _⟩
set_option maxHeartbeats 400000 in
theorem write_bad (p : Int) (w : World) (hb : p < 0 ∨ (55296 ≤ p ∧ p ≤ 57343) ∨ 1114111 < p) :
    Calls Tryd.prog 78 #[.int .i64 p] w fun e w' => e = .returned (.string (strOfNums (Lib.encodeRuneZ p))) ∧ Below w.heap.size w w' := by
  have hp : isPt p = false := by simp [isPt]; omega
  have HB := hide hb
  clear hb
  have hcv := conv3
  go_enter Tryd.func78, Tryd.ntmps78
  go_wp2_with (go_at_call 77; refine (isPointS p _).mono ?_; rintro e w' ⟨rfl, rfl⟩)
  go_ret
  exact ⟨ret_str (by rw [Lib.encodeRuneZ_bad (unhide HB)]), (Below.refl _ _).alloc (Nat.le_refl _) _⟩
theorem write_any (p : Int) (w : World) :
    Calls Tryd.prog 78 #[.int .i64 p] w fun e w' => e = .returned (.string (strOfNums (Lib.encodeRuneZ p))) ∧ Below w.heap.size w w' := by
  by_cases hb : p < 0 ∨ (55296 ≤ p ∧ p ≤ 57343) ∨ 1114111 < p
  · exact write_bad p w hb
  by_cases h1 : p < 128
  · exact write_one p w (by omega) h1
  by_cases h2 : p < 2048
  · exact write_two p w (by omega) h2
  by_cases h3 : p < 55296
  · exact write_lo p w (by omega) h3
  by_cases h4 : p < 65536
  · exact write_hi p w (by omega) h4
  exact write_four p w (by omega) (by omega)
end Go.Proofs.YtigobciichnccaaDoor
