/- Where a text is cut, how many lines it has: as the specification asks. -/
import Derived.Test.YtaipnmmlfbfcnaaDoorRopP
import Derived.Test.YtaipnmmlfbfcnaaDoorNNext
namespace Go.Proofs.YtaipnmmlfbfcnaaDoor.Rop
open Go.RowKit
set_option linter.unusedVariables false
def endsK (s : ByteArray) (i : Nat) : Nat := (s.data.toList.take i).countP (fun b => b.toNat == 10)
theorem endsK_all (s : ByteArray) : endsK s s.size = ends s := by
  unfold endsK ends
  have e : s.data.toList.take s.size = s.data.toList := List.take_of_length_le (Nat.le_of_eq Array.length_toList)
  rw [e]
theorem endsK_succ (s : ByteArray) (i : Nat) (h : i < s.size) : endsK s (i + 1) = endsK s i + (if bt s i = 10 then 1 else 0) := by
  unfold endsK
  have hl : i < s.data.toList.length := by rw [Array.length_toList]; exact h
  rw [List.take_add_one, List.getElem?_eq_getElem hl, List.countP_append]
  have e : (s.data.toList[i]'hl).toNat = bt s i := by rw [← bt_get s i h]; rfl
  have e2 : (some (s.data.toList[i]'hl)).toList = [s.data.toList[i]'hl] := rfl
  rw [e2, List.countP_cons, List.countP_nil]
  by_cases c : bt s i = 10
  · rw [if_pos c, if_pos (by rw [e, c]; rfl)]
  · rw [if_neg c, if_neg (by rw [e, beq_iff_eq]; exact c)]
theorem endsK_le (s : ByteArray) (i : Nat) : endsK s i ≤ i := by
  unfold endsK
  exact Nat.le_trans List.countP_le_length (by rw [List.length_take]; omega)
set_option maxRecDepth 100000 in
set_option maxHeartbeats 1000000 in
theorem endsS (s : ByteArray) (w : World) (hs : s.size ≤ 1048576) : Calls Tryd.prog 33 #[.string s] w fun e w' => e = .returned (.int .i64 (ends s : Int)) ∧ w' = w := by
  have HE := hide (endsK_all s)
  have HK := hide (endsK_succ s)
  go_enter Tryd.func33, Tryd.ntmps33
  go_wp2
  go_loopw [3, 4] (fun nv iv wr => ∃ i n : Nat, i ≤ s.size ∧ n ≤ i ∧ nv = .int .i64 (n : Int) ∧ iv = .int .i64 (i : Int) ∧ Hid (endsK s i = n) ∧ wr = w) (fun _ iv _ => (s.size - intOf iv).toNat)
  case atStart => exact ⟨0, 0, by omega, by omega, rfl, rfl, hide rfl, rfl⟩
  case round =>
    obtain ⟨i, n, hi, hn, rfl, rfl, HN, rfl⟩ := hrel
    by_cases h : i < s.size
    · have f0 : ∀ h, (s[i]'h).toNat = bt s i := fun h => bt_get s i h
      have hst := (unhide HK) i h
      by_cases c : bt s i = 10
      · have hc : (bt s i : Int) = 10 := by omega
        rw [if_pos c] at hst
        have HN2 : Hid (endsK s (i + 1) = n + 1) := hide (by rw [hst, unhide HN])
        clear hst c
        go_wp2
        go_roundw
        case rel => exact ⟨i + 1, n + 1, by omega, by omega, by go_num, by go_num, HN2, by first | rfl | trivial⟩
        case measure => simp [intOf]; omega
      · have hc : ¬ (bt s i : Int) = 10 := by omega
        rw [if_neg c] at hst
        have HN2 : Hid (endsK s (i + 1) = n) := hide (by rw [hst, unhide HN]; rfl)
        clear hst c
        go_wp2
        go_roundw
        case rel => exact ⟨i + 1, n, by omega, by omega, by go_num, by go_num, HN2, by first | rfl | trivial⟩
        case measure => simp [intOf]; omega
    · obtain rfl : i = s.size := by omega
      have HN2 : Hid (ends s = n) := hide (by rw [← unhide HE, unhide HN])
      go_wp2
      go_ret
      exact ⟨ret_int (by rw [unhide HN2]), rfl⟩
set_option maxRecDepth 100000 in
set_option maxHeartbeats 1000000 in
theorem cutS (s : ByteArray) (w : World) (h64 : 64 < s.size) (hs : s.size ≤ 65536) : Calls Tryd.prog 39 #[.string s] w fun e w' => e = .returned (.int .i64 (cut s : Int)) ∧ Below w.heap.size w w' := by
  have hq : ((s.size : Int) + 1).tdiv 2 = (((s.size + 1) / 2 : Nat) : Int) := by rw [Int.tdiv_eq_ediv_of_nonneg (by omega)]; omega
  have HC : Hid (∀ j, pos s j ≤ (s.size + 1) / 2 → (s.size + 1) / 2 < pos s (j + 1) → cut s = pos s j) := hide (fun j a b => dn_eq a b)
  have CN := hide (fun p W (hp : p < s.size) => next_any s p W hp (by omega))
  go_enter Tryd.func39, Tryd.ntmps39
  go_wp2
  generalize hmost : (s.size + 1) / 2 = most at *
  go_loopw [4, 5] (fun av iv wr => ∃ k a i : Nat, av = .int .i64 (a : Int) ∧ iv = .int .i64 (i : Int) ∧ i ≤ s.size ∧ a ≤ i ∧ Hid (pos s k = i) ∧ Hid ((k = 0 ∧ a = 0) ∨ (∃ j, k = j + 1 ∧ pos s j = a ∧ a ≤ most)) ∧ Hid (Below w.heap.size w wr)) (fun _ iv _ => (s.size + 1 - intOf iv).toNat)
  case atStart => exact ⟨0, 0, 0, rfl, rfl, by omega, by omega, hide rfl, hide (.inl ⟨rfl, rfl⟩), hide (Below.refl _ _)⟩
  case round =>
    obtain ⟨k, a, i, rfl, rfl, his, hai, HP, HA, HB⟩ := hrel
    have hbs := (unhide HB).size
    by_cases h : i ≤ most
    · have hlt : i < s.size := by omega
      have hbd := dN_bd s i hlt
      have C := hide ((unhide CN) i wr hlt)
      have HP2 : Hid (pos s (k + 1) = i + dN s i) := hide (by show pos s k + dN s (pos s k) = _; rw [unhide HP])
      obtain ⟨d1, d2, d3⟩ := hbd
      unfold Ok3 at C
      generalize dN s i = d at *
      generalize dP s i = p at *
      have hle : (i : Int) ≤ (most : Int) := by omega
      have hlt' : (i : Int) < (s.size : Int) := by omega
      go_wp2_with (go_at_call 56; refine (unhide C).mono ?_; rintro e w2 ⟨⟨ok, rfl⟩, hb2⟩; have B2 := hide hb2; clear hb2)
      go_roundw
      case rel => exact ⟨k + 1, i, i + d, rfl, by go_num, by omega, by omega, HP2, hide (.inr ⟨k, rfl, unhide HP, h⟩), hide ((unhide HB).trans ((unhide B2).mono hbs))⟩
      case measure => simp [intOf]; omega
    · have HE : Hid (cut s = a) := hide (by
        rcases unhide HA with ⟨h1, h2⟩ | ⟨j, h1, h2, h3⟩
        · have := unhide HP
          rw [h1] at this
          have e : pos s 0 = 0 := rfl
          omega
        · rw [← h2]
          have := unhide HP
          rw [h1] at this
          exact (unhide HC) j (by omega) (by omega))
      have hle : ¬ (i : Int) ≤ (most : Int) := by omega
      by_cases hi : i < s.size
      · have hlt' : (i : Int) < (s.size : Int) := by omega
        go_wp2
        go_ret
        exact ⟨ret_int (by rw [unhide HE]), unhide HB⟩
      · have hlt' : ¬ (i : Int) < (s.size : Int) := by omega
        go_wp2
        go_ret
        exact ⟨ret_int (by rw [unhide HE]), unhide HB⟩
end Go.Proofs.YtaipnmmlfbfcnaaDoor.Rop
