/- Points and how they are written: the program's and the specification's. -/
import Derived.Test.YtgmpkapeemiecaaRows
import Derived.Test.YtgmpkapeemiecaaBase
import Derived.WalkKit
import Derived.WalkLawsBesides
import Derived.WalkSpells
import Derived.Below
import Derived.Lib.RuneBytes
import Derived.Lib.SlBytesRow
namespace Go.Proofs.Ytgmpkapeemiecaa
open Go.RowKit
def isPt (p : Int) : Bool := decide (0 ≤ p ∧ p ≤ 1114111 ∧ (p < 55296 ∨ 57343 < p))
theorem isPt_iff (p : Int) : isPt p = true ↔ 0 ≤ p ∧ p ≤ 1114111 ∧ (p < 55296 ∨ 57343 < p) := by simp [isPt]
theorem conv_of (w : World) (b cap : Nat) (zs : List Int) (n : Nat) (hn : zs.length = n) (hc : ∀ i, i < n → w.cell? ⟨b, i, none⟩ = some (.int .u8 (zs.getD i 0))) :
    (convert 53 9 (.slice (some ⟨b, 0, none⟩) n cap)).run Try.prog w = .ok (.string (strOfNums zs)) w :=
  run_convert_bytes_arg w 53 5 Try.underlying53 Try.underlying5 b 0 n cap zs hn (fun i hi => by rw [Nat.zero_add]; exact hc i hi) 9 Try.underlying9
theorem conv1 (w : World) (a : Int) : (convert 53 9 (.slice (some ⟨w.heap.size, 0, none⟩) 1 1)).run Try.prog (w.alloc (.cells #[.int .u8 a] 5)) = .ok (.string (strOfNums [a])) (w.alloc (.cells #[.int .u8 a] 5)) :=
  conv_of _ _ 1 [a] 1 rfl (fun i hi => by match i, hi with | 0, _ => simp)
theorem conv2 (w : World) (a b : Int) : (convert 53 9 (.slice (some ⟨w.heap.size, 0, none⟩) 2 2)).run Try.prog (w.alloc (.cells #[.int .u8 a, .int .u8 b] 5)) = .ok (.string (strOfNums [a, b])) (w.alloc (.cells #[.int .u8 a, .int .u8 b] 5)) :=
  conv_of _ _ 2 [a, b] 2 rfl (fun i hi => by match i, hi with | 0, _ => simp | 1, _ => simp)
theorem conv3 (w : World) (a b c : Int) : (convert 53 9 (.slice (some ⟨w.heap.size, 0, none⟩) 3 3)).run Try.prog (w.alloc (.cells #[.int .u8 a, .int .u8 b, .int .u8 c] 5)) = .ok (.string (strOfNums [a, b, c])) (w.alloc (.cells #[.int .u8 a, .int .u8 b, .int .u8 c] 5)) :=
  conv_of _ _ 3 [a, b, c] 3 rfl (fun i hi => by match i, hi with | 0, _ => simp | 1, _ => simp | 2, _ => simp)
theorem conv4 (w : World) (a b c d : Int) : (convert 53 9 (.slice (some ⟨w.heap.size, 0, none⟩) 4 4)).run Try.prog (w.alloc (.cells #[.int .u8 a, .int .u8 b, .int .u8 c, .int .u8 d] 5)) = .ok (.string (strOfNums [a, b, c, d])) (w.alloc (.cells #[.int .u8 a, .int .u8 b, .int .u8 c, .int .u8 d] 5)) :=
  conv_of _ _ 4 [a, b, c, d] 4 rfl (fun i hi => by match i, hi with | 0, _ => simp | 1, _ => simp | 2, _ => simp | 3, _ => simp)
theorem ret_str {a b : List Int} (h : a = b) : Ending.returned (.string (strOfNums a)) = .returned (.string (strOfNums b)) := by rw [h]
end Go.Proofs.Ytgmpkapeemiecaa
