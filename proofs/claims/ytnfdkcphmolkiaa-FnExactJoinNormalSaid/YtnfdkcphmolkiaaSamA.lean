/- Slices of int64: are two alike? The slot of a block; an index in turn. -/
import Derived.Test.YtnfdkcphmolkiaaIntA
import Derived.Test.YtnfdkcphmolkiaaTriP
namespace Go.Proofs.Ytnfdkcphmolkiaa
open Go.RowKit
theorem drewN_add (w : World) (n m : Nat) : (w.drewN n).drewN m = w.drewN (n + m) := World.drewN_drewN w n m
theorem IntsAt.drewN {w : World} {v : Value} {l : List Int} (h : IntsAt w v l) (n : Nat) : IntsAt (w.drewN n) v l := h
theorem ext_nth {l1 l2 : List Int} (hl : l1.length = l2.length) (h : ∀ j, j < l1.length → nth l1 j = nth l2 j) : l1 = l2 := by
  apply List.ext_getElem hl
  intro i h1 h2
  have := h i h1
  simpa [nth, List.getD, h1, h2] using this
theorem ret_bool {a b : Bool} (h : a = b) : Ending.returned (.bool a) = .returned (.bool b) := by rw [h]
def sameB (l1 l2 : List Int) : Bool := decide (l1 = l2)
theorem sameB_iff (l1 l2 : List Int) : sameB l1 l2 = true ↔ l1 = l2 := by simp [sameB]
theorem sameB_not (l1 l2 : List Int) : sameB l1 l2 = false ↔ l1 ≠ l2 := by simp [sameB]
def turnB (l : List Int) (c : Int) : Bool := decide (turns 0 l = some c)
theorem turnB_iff (l : List Int) (c : Int) : turnB l c = true ↔ turns 0 l = some c := by simp [turnB]
theorem ne_nth {l1 l2 : List Int} {k : Nat} (h : nth l1 k ≠ nth l2 k) : l1 ≠ l2 := fun e => h (by rw [e])
set_option maxHeartbeats 1000000 in
theorem same_any (v1 v2 : Value) (l1 l2 : List Int) (w : World) (h1 : IntsAt w v1 l1) (h2 : IntsAt w v2 l2) (hl1 : l1.length ≤ 1048576) (_ : l2.length ≤ 1048576) :
    Calls Try.prog 51 #[v1, v2] w fun e w' => e = .returned (.bool (sameB l1 l2)) ∧ ∃ n, w' = w.drewN n := by
  obtain ⟨a1, c1, rfl, h1⟩ := h1
  obtain ⟨a2, c2, rfl, h2⟩ := h2
  have H1 := hide h1
  have H2 := hide h2
  clear h1 h2
  by_cases hne : l1.length = l2.length
  · have hne' : ((l1.length : Int) != (l2.length : Int)) = false := by simp; omega
    have HE := hide hne
    have hle : (l1.length : Int) = (l2.length : Int) := by omega
    clear hne
    go_enter Try.func51, Try.ntmps51
    go_wp2
    go_loopw [5] (fun i wr => ∃ k n : Nat, k ≤ l1.length ∧ i = .int .i64 k ∧ wr = w.drewN n ∧ Hid (∀ j, j < k → nth l1 j = nth l2 j)) (fun i _ => l1.length - (intOf i).toNat)
    case atStart => exact ⟨0, 0, Nat.zero_le _, rfl, rfl, hide (fun j hj => by omega)⟩
    case round =>
      obtain ⟨k, n, hk, rfl, rfl, HC⟩ := hrel
      by_cases hlt : k < l1.length
      · have hlt2 : k < l2.length := by have := unhide HE; omega
        rcases unhide H1 with e | ⟨b1, o1, rfl, hb1, hc1⟩
        · rw [e] at hlt; simp at hlt
        rcases unhide H2 with e | ⟨b2, o2, rfl, hb2, hc2⟩
        · rw [e] at hlt2; simp at hlt2
        have d1 := hc1 k hlt
        have d2 := hc2 k hlt2
        have i1 : (k : Int) < (l1.length : Int) := by omega
        have i2 : (k : Int) < (l2.length : Int) := by omega
        clear hc1 hc2
        by_cases he : nth l1 k = nth l2 k
        · have HC' : Hid (∀ j, j < k + 1 → nth l1 j = nth l2 j) := hide (fun j hj => by
            by_cases e : j = k
            · rw [e]; exact he
            · exact unhide HC j (by omega))
          have he' : (nth l1 k != nth l2 k) = false := by simp [he]
          clear he
          generalize nth l1 k = x at *
          generalize nth l2 k = y at *
          go_wp2_with fail
          go_quiet (fail)
          go_wp2
          go_roundw
          case rel => exact ⟨k + 1, _, by omega, by go_num, rfl, HC'⟩
          case measure => simp [intOf]; omega
        · have HN : Hid (sameB l1 l2 = false) := hide (decide_eq_false (ne_nth he))
          have he' : (nth l1 k != nth l2 k) = true := by simp [he]
          clear he
          generalize nth l1 k = x at *
          generalize nth l2 k = y at *
          go_wp2_with fail
          go_quiet (fail)
          go_wp2
          go_ret
          exact ⟨ret_bool (unhide HN).symm, _, drewN_add _ _ _⟩
      · have HN : Hid (sameB l1 l2 = true) := hide (decide_eq_true (ext_nth (unhide HE) (fun j hj => unhide HC j (by omega))))
        go_wp2
        go_ret
        exact ⟨ret_bool (unhide HN).symm, n, rfl⟩
  · have hne' : ((l1.length : Int) != (l2.length : Int)) = true := by simp; omega
    have HN : Hid (sameB l1 l2 = false) := hide (decide_eq_false (fun e => hne (by rw [e])))
    clear hne
    go_enter Try.func51, Try.ntmps51
    go_wp2
    go_ret
    exact ⟨ret_bool (unhide HN).symm, 0, rfl⟩
set_option maxHeartbeats 1000000 in
theorem equal_any (v1 v2 : Value) (l1 l2 : List Int) (w : World) (h1 : IntsAt w v1 l1) (h2 : IntsAt w v2 l2) (hl1 : l1.length ≤ 1048576) (_ : l2.length ≤ 1048576) :
    Calls Try.prog 73 #[v1, v2] w fun e w' => e = .returned (.bool (sameB l1 l2)) ∧ ∃ n, w' = w.drewN n := by
  obtain ⟨a1, c1, rfl, h1⟩ := h1
  obtain ⟨a2, c2, rfl, h2⟩ := h2
  have H1 := hide h1
  have H2 := hide h2
  clear h1 h2
  by_cases hne : l1.length = l2.length
  · have hne' : ((l1.length : Int) != (l2.length : Int)) = false := by simp; omega
    have HE := hide hne
    have hle : (l1.length : Int) = (l2.length : Int) := by omega
    clear hne
    go_enter Try.func73, Try.ntmps73
    go_wp2
    go_loopw [13] (fun i wr => ∃ k n : Nat, k ≤ l1.length ∧ i = .int .i64 k ∧ wr = w.drewN n ∧ Hid (∀ j, j < k → nth l1 j = nth l2 j)) (fun i _ => l1.length - (intOf i).toNat)
    case atStart => exact ⟨0, 0, Nat.zero_le _, rfl, rfl, hide (fun j hj => by omega)⟩
    case round =>
      obtain ⟨k, n, hk, rfl, rfl, HC⟩ := hrel
      by_cases hlt : k < l1.length
      · have hlt2 : k < l2.length := by have := unhide HE; omega
        rcases unhide H1 with e | ⟨b1, o1, rfl, hb1, hc1⟩
        · rw [e] at hlt; simp at hlt
        rcases unhide H2 with e | ⟨b2, o2, rfl, hb2, hc2⟩
        · rw [e] at hlt2; simp at hlt2
        have d1 := hc1 k hlt
        have d2 := hc2 k hlt2
        have i1 : (k : Int) < (l1.length : Int) := by omega
        have i2 : (k : Int) < (l2.length : Int) := by omega
        clear hc1 hc2
        by_cases he : nth l1 k = nth l2 k
        · have HC' : Hid (∀ j, j < k + 1 → nth l1 j = nth l2 j) := hide (fun j hj => by
            by_cases e : j = k
            · rw [e]; exact he
            · exact unhide HC j (by omega))
          have he' : (nth l1 k != nth l2 k) = false := by simp [he]
          clear he
          generalize nth l1 k = x at *
          generalize nth l2 k = y at *
          go_wp2_with fail
          go_quiet (fail)
          go_wp2
          go_roundw
          case rel => exact ⟨k + 1, _, by omega, by go_num, rfl, HC'⟩
          case measure => simp [intOf]; omega
        · have HN : Hid (sameB l1 l2 = false) := hide (decide_eq_false (ne_nth he))
          have he' : (nth l1 k != nth l2 k) = true := by simp [he]
          clear he
          generalize nth l1 k = x at *
          generalize nth l2 k = y at *
          go_wp2_with fail
          go_quiet (fail)
          go_wp2
          go_ret
          exact ⟨ret_bool (unhide HN).symm, _, drewN_add _ _ _⟩
      · have HN : Hid (sameB l1 l2 = true) := hide (decide_eq_true (ext_nth (unhide HE) (fun j hj => unhide HC j (by omega))))
        go_wp2
        go_ret
        exact ⟨ret_bool (unhide HN).symm, n, rfl⟩
  · have hne' : ((l1.length : Int) != (l2.length : Int)) = true := by simp; omega
    have HN : Hid (sameB l1 l2 = false) := hide (decide_eq_false (fun e => hne (by rw [e])))
    clear hne
    go_enter Try.func73, Try.ntmps73
    go_wp2
    go_ret
    exact ⟨ret_bool (unhide HN).symm, 0, rfl⟩
/-- The index from the k-th item on. -/
def turnAt (l : List Int) (k : Nat) (n : Int) : Option Int := turns n (l.drop k)
theorem turnAt_step (l : List Int) (k : Nat) (n : Int) (h : k < l.length) : turnAt l k n = if nth l k < 0 ∨ n < nth l k then none else turnAt l (k + 1) (if nth l k = n then n + 1 else n) := by
  unfold turnAt
  rw [List.drop_eq_getElem_cons h]
  have e : nth l k = l[k] := by simp [nth, List.getD, h]
  rw [e]
  rfl
theorem turnAt_end (l : List Int) (k : Nat) (n : Int) (h : ¬ k < l.length) : turnAt l k n = some n := by
  unfold turnAt
  rw [List.drop_eq_nil_of_le (by omega)]
  rfl
theorem turnAt_zero (l : List Int) : turnAt l 0 0 = turns 0 l := rfl
end Go.Proofs.Ytnfdkcphmolkiaa
