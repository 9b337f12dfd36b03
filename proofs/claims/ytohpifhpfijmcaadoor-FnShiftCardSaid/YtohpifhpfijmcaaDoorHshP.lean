/- The specification's piece of Shift. -/
import Derived.Test.YtohpifhpfijmcaaDoorHshM
import Derived.BigQuiet
import Derived.Deep.QuietTactic
namespace Go.Proofs.YtohpifhpfijmcaaDoor
open Go.RowKit
theorem letterQ (k : Int) (h0 : 0 ≤ k) (h4 : k ≤ 4) (w : World) :
    Calls Tryd.prog 28 #[.int .i64 k] w fun e w' => e = .returned (.int .u8 (letter k)) ∧ w' = w := (letterS k h0 h4 w).mono fun _ _ h => ⟨h.1, h.2.symm⟩
def pcV (x : Int × Int × Nat) : Value := .tuple #[.int .i64 x.1, .int .i64 x.2.1, .int .i64 x.2.2]
theorem letter_bd (k : Int) : 0 ≤ letter k ∧ letter k ≤ 255 := by
  unfold letter
  repeat' split
  all_goals omega
set_option maxHeartbeats 2000000 in
set_option maxRecDepth 100000 in
theorem piece27 (s : ByteArray) (i : Nat) (st : Int) (hi : i < s.size) (hs : s.size ≤ 65536) (hb : bt s i = 27) (w : World) :
    Calls Tryd.prog 43 #[.string s, .int .i64 i, .int .i64 st] w fun e w' => e = .returned (pcV (pc s i st)) ∧ Below w.heap.size w w' := by
  have f0 := wrap_bt s i
  have hb' : ((bt s i : Int) == 27) = true := by rw [beq_iff_eq]; omega
  have hbi : (bt s i : Int) = 27 := by omega
  by_cases h1 : i + 1 < s.size
  · have h1' : (i : Int) + 1 < (s.size : Int) := by omega
    obtain ⟨nm, hnm⟩ : ∃ nm, nameOf (bt s (i + 1)) = nm := ⟨_, rfl⟩
    have hnb := nameOf_bd (bt s (i + 1))
    rw [hnm] at hnb
    have HP : Hid (pc s i st = if nm ≠ -1 then (-1, nm, 2) else (0, 0, 0)) := hide (by
      unfold pc; rw [if_pos hb, hnm]
      by_cases hn : nm ≠ -1
      · rw [if_pos ⟨h1, hn⟩, if_pos hn]
      · rw [if_neg (fun c => hn c.2), if_neg hn])
    have HNM := hide hnm
    have f1 : ∀ h, (s[i + 1]'h).toNat = bt s (i + 1) := fun h => bt_get s (i + 1) h
    have hbt := bt_lt s (i + 1)
    clear hb hnm
    go_enter Tryd.func43, Tryd.ntmps43
    go_wp2
    go_loopw [10] (fun q wr => ∃ j : Nat, j ≤ 5 ∧ q = .int .i64 j ∧ (nm = -1 ∨ (j : Int) ≤ nm) ∧ Hid (Below w.heap.size w wr)) (fun q _ => 6 - (intOf q).toNat)
    case atStart => exact ⟨0, by omega, rfl, by omega, hide (Below.refl _ _)⟩
    case round =>
      obtain ⟨j, hj, rfl, hjn, HB⟩ := hrel
      have HJN := hide hjn
      clear hjn
      by_cases hj5 : j = 5
      · have hj5' : (4 : Int) < (j : Int) := by omega
        have hn : nm = -1 := by have := unhide HJN; omega
        have HP2 : Hid (pc s i st = (0, 0, 0)) := hide (by rw [unhide HP, if_neg (by omega)])
        clear hj5 hn
        go_wp2
        go_ret3
        exact ⟨by rw [unhide HP2]; rfl, unhide HB⟩
      · have hj4 : (j : Int) ≤ 4 := by omega
        have hlb := letter_bd (j : Int)
        have hl0 := hlb.1
        have hl1 := hlb.2
        have hiff := name_letter (b := (bt s (i + 1) : Int)) (k := (j : Int)) (by omega) hj4
        rw [unhide HNM] at hiff
        have CL := hide (letterQ (j : Int) (by omega) hj4)
        clear hlb hj5
        by_cases hjx : nm = (j : Int)
        · have hq : ((bt s (i + 1) : Int) == letter (j : Int)) = true := by rw [beq_iff_eq]; exact hiff.2 hjx
          have HP2 : Hid (pc s i st = (-1, (j : Int), 2)) := hide (by rw [unhide HP, if_pos (by omega), hjx])
          clear hiff hjx
          go_wp2
          go_quiet (first | (go_at_call 28; refine Calls.quiet_of_same ((unhide CL) _)))
          go_wp2
          go_ret3
          exact ⟨by rw [unhide HP2]; rfl, bdrew (unhide HB) _⟩
        · have hq : ((bt s (i + 1) : Int) == letter (j : Int)) = false := by rw [beq_eq_false_iff_ne]; exact fun e => hjx (hiff.1 e)
          have HJX := hide hjx
          clear hiff hjx
          go_wp2
          go_quiet (first | (go_at_call 28; refine Calls.quiet_of_same ((unhide CL) _)))
          go_wp2
          go_roundw
          case rel => exact ⟨j + 1, by omega, by go_num, by have := unhide HJN; have := unhide HJX; omega, hide (bdrew (unhide HB) _)⟩
          case measure => simp [intOf] <;> omega
  · have h1' : (s.size : Int) ≤ (i : Int) + 1 := by omega
    have HP2 : Hid (pc s i st = (0, 0, 0)) := hide (by unfold pc; rw [if_pos hb, if_neg (fun c => h1 c.1)])
    clear hb
    go_enter Tryd.func43, Tryd.ntmps43
    go_wp2
    go_loopw [10] (fun q wr => q = .int .i64 0 ∧ wr = w) (fun _ _ => 0)
    case atStart => exact ⟨rfl, rfl⟩
    case round =>
      obtain ⟨rfl, rfl⟩ := hrel
      go_wp2
      go_ret3
      exact ⟨by rw [unhide HP2]; rfl, Below.refl _ _⟩
end Go.Proofs.YtohpifhpfijmcaaDoor
