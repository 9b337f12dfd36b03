/- A word of the draws. -/
import Derived.Test.YtbaedapnikhdgaaGreatDoorJudB
import Derived.Test.YtbaedapnikhdgaaGreatDoorDR
namespace Go.Proofs.YtbaedapnikhdgaaGreatDoor.Dr
open Go.RowKit
set_option linter.unusedVariables false
set_option linter.unusedSimpArgs false
theorem lit_cells (w : World) (A : Array Value) (n m : Nat) (hA : ∀ i, i < n → ∃ t : ByteArray, A[i]? = some (.string t) ∧ t.size ≤ m) : ∀ i, i < n → ∃ t : ByteArray, (w.alloc (.cells A 9)).cell? ⟨w.heap.size, i, none⟩ = some (.string t) ∧ t.size ≤ m := by
  intro i hi
  obtain ⟨t, h1, h2⟩ := hA i hi
  have hn : (w.alloc (.cells A 9)).heap[w.heap.size]? = some (.cells A 9 (0, 0)) := by unfold World.alloc; exact Array.getElem?_push_size
  exact ⟨t, by simp only [World.cell?, hn]; simp [h1], h2⟩
set_option maxRecDepth 100000 in
set_option maxHeartbeats 4000000 in
theorem word_any (w : World) (src : Nat) (a : Option Addr) (len cap : Nat) (size : Int) (n : Nat) (hn : n ≤ 10) (hl : len ≤ 1048576) (h : SrcAt w src a len cap size) :
    Calls Tryz.prog 28 #[.pointer (some ⟨src, 0, none⟩), .int .i64 (n : Int)] w fun e w' => ∃ t : ByteArray, e = .returned (.string t) ∧ t.size ≤ 30 ∧ SrcAt w' src a len cap size ∧ w.grownBy w' (some src) := by
  have S0 := hide h
  have G0 := hide (grown_refl w (some src))
  clear h
  go_enter Tryz.func28, Tryz.ntmps28
  go_wp2_with fail
  go_loopw [1, 5] (fun nv tv wr => ∃ (k : Nat) (t : ByteArray), nv = .int .i64 (k : Int) ∧ tv = .string t ∧ t.size + 3 * k ≤ 30 ∧ Hid (SrcAt wr src a len cap size) ∧ Hid (w.grownBy wr (some src))) (fun nv _ _ => (intOf nv).toNat)
  case atStart => exact ⟨n, ⟨#[]⟩, rfl, rfl, by show 0 + 3 * n ≤ 30; omega, S0, G0⟩
  case round =>
    obtain ⟨k, t, rfl, rfl, hsz, HS, HG⟩ := hrel
    clear S0 G0
    by_cases hk : 0 < k
    · have hk' : (0 : Int) < (k : Int) := by omega
      have hlt := src_lt (unhide HS)
      have HSA := hide (src_alloc (unhide HS) (.cells #[.string ⟨#[97]⟩, .string ⟨#[98]⟩, .string ⟨#[99]⟩, .string ⟨#[97, 98]⟩, .string ⟨#[97, 98, 99]⟩, .string ⟨#[98, 99]⟩] 9))
      have HGA := hide (grown_trans (unhide HG) (grown_alloc wr (.cells #[.string ⟨#[97]⟩, .string ⟨#[98]⟩, .string ⟨#[99]⟩, .string ⟨#[97, 98]⟩, .string ⟨#[97, 98, 99]⟩, .string ⟨#[98, 99]⟩] 9) (some src)))
      have HLT := hide (lit_cells wr #[.string ⟨#[97]⟩, .string ⟨#[98]⟩, .string ⟨#[99]⟩, .string ⟨#[97, 98]⟩, .string ⟨#[97, 98, 99]⟩, .string ⟨#[98, 99]⟩] 6 3 (fun i hi => by
            have hi' : i = 0 ∨ i = 1 ∨ i = 2 ∨ i = 3 ∨ i = 4 ∨ i = 5 := by omega
            rcases hi' with rfl | rfl | rfl | rfl | rfl | rfl <;> exact ⟨_, rfl, by decide⟩))
      go_wp2_with (go_at_call 29; refine (pickN_any _ src a len cap size wr.heap.size 6 6 3 (by omega) (by omega) hl (unhide HSA) (by simp) (by omega) (unhide HLT)).mono ?_; rintro e w6 ⟨u, rfl, hu, hs, hg⟩; have HAD := fun W => run_string_add_sum (P := Tryz.prog) (w := W) t u (by omega); have S6 := hide hs; have G6 := hide (grown_trans (unhide HGA) hg); clear hs hg)
      have hsz2 : (t ++ u).size + 3 * (k - 1) ≤ 30 := by rw [ByteArray.size_append]; omega
      go_roundw
      case rel => exact ⟨k - 1, t ++ u, by go_num, rfl, hsz2, S6, G6⟩
      case measure => simp [intOf]; omega
    · obtain rfl : k = 0 := by omega
      have hk' : ¬ (0 : Int) < ((0 : Nat) : Int) := by omega
      go_wp2_with fail
      go_ret
      exact ⟨t, rfl, by omega, unhide HS, unhide HG⟩
end Go.Proofs.YtbaedapnikhdgaaGreatDoor.Dr
