/- Ids that can be, as the program and as the specification tell it. -/
import Derived.Test.YtccnjjkechdknaaIntA
namespace Go.Proofs.Ytccnjjkechdknaa.Frl
open Go.RowKit
set_option linter.unusedVariables false
/-- Ids that can be, at most so many. -/
def okI (L : List Int) (most : Nat) : Bool := decide (L.length ≤ most) && L.all fun x => decide (0 ≤ x) && decide (x ≤ 1000000)
theorem nth_mem {L : List Int} {k : Nat} (h : k < L.length) : nth L k ∈ L := by
  have e : nth L k = L[k] := by simp [nth, List.getD, h]
  rw [e]; exact List.getElem_mem h
theorem okI_bad {L : List Int} {most k : Nat} (h : k < L.length) (hb : nth L k < 0 ∨ 1000000 < nth L k) : okI L most = false := by
  unfold okI
  have : (L.all fun x => decide (0 ≤ x) && decide (x ≤ 1000000)) = false := by
    rw [List.all_eq_false]
    refine ⟨nth L k, nth_mem h, ?_⟩
    simp
    omega
  rw [this, Bool.and_false]
theorem okI_long {L : List Int} {most : Nat} (h : most < L.length) : okI L most = false := by
  unfold okI
  rw [decide_eq_false (by omega), Bool.false_and]
theorem okI_good {L : List Int} {most : Nat} (h : L.length ≤ most) (hg : ∀ j, j < L.length → ¬ (nth L j < 0) ∧ ¬ (1000000 < nth L j)) : okI L most = true := by
  unfold okI
  rw [decide_eq_true h, Bool.true_and, List.all_eq_true]
  intro x hx
  obtain ⟨i, hi, rfl⟩ := List.getElem_of_mem hx
  have e : nth L i = L[i] := by simp [nth, List.getD, hi]
  have := hg i hi
  rw [e] at this
  simp
  omega
theorem ret_bool {x y : Bool} (h : x = y) : (Ending.returned (.bool x) : Ending) = .returned (.bool y) := by rw [h]
set_option maxRecDepth 100000 in
theorem within_any (p a b : Int) (w : World) : Calls Try.prog 27 #[.int .i64 p, .int .i64 a, .int .i64 b] w fun e w' => e = .returned (.bool (decide (a ≤ p) && decide (p ≤ b))) ∧ w' = w := by
  by_cases h1 : a ≤ p
  · by_cases h2 : p ≤ b
    · go_enter Try.func27, Try.ntmps27
      go_wp2
      go_ret
      exact ⟨ret_bool (x := true) (by simp [h1, h2]), rfl⟩
    · go_enter Try.func27, Try.ntmps27
      go_wp2
      go_ret
      exact ⟨ret_bool (x := false) (by simp [h2]), rfl⟩
  · go_enter Try.func27, Try.ntmps27
    go_wp2
    go_ret
    exact ⟨ret_bool (x := false) (by simp; omega), rfl⟩
set_option maxHeartbeats 1000000 in
theorem l10Ids_any (v : Value) (L : List Int) (most : Nat) (w : World) (h : IntsAt w v L) (hl : L.length ≤ 1048576) (hm : most ≤ 100) :
    Calls Try.prog 43 #[v, .int .i64 most] w fun e w' => e = .returned (.bool (okI L most)) ∧ w' = w := by
  obtain ⟨a, cap, rfl, h⟩ := h
  have HC : Hid (∀ k, k < L.length → ∃ b off, a = some ⟨b, off, none⟩ ∧ w.cell? ⟨b, off + k, none⟩ = some (.int .i64 (nth L k))) := hide (fun k hk => by
    rcases h with rfl | ⟨b, off, rfl, hb, hc⟩
    · simp at hk
    · exact ⟨b, off, rfl, hc k hk⟩)
  clear h
  go_enter Try.func43, Try.ntmps43
  go_wp2
  go_loopw [5] (fun i wr => ∃ k : Nat, k ≤ L.length ∧ i = .int .i64 k ∧ Hid (∀ j, j < k → ¬ (nth L j < 0) ∧ ¬ (1000000 < nth L j)) ∧ wr = w) (fun i _ => L.length - (intOf i).toNat)
  case atStart => exact ⟨0, Nat.zero_le _, rfl, hide (fun j hj => by omega), rfl⟩
  case round =>
    obtain ⟨k, hk, rfl, HG, rfl⟩ := hrel
    by_cases hlt : k < L.length
    · obtain ⟨b, off, rfl, c1⟩ := unhide HC k hlt
      have hlt' : (k : Int) < (L.length : Int) := by omega
      by_cases t1 : nth L k < 0
      · have R := hide (okI_bad (most := most) hlt (.inl t1))
        go_wp2
        go_ret
        rw [unhide R]
        exact ⟨rfl, rfl⟩
      · by_cases t2 : 1000000 < nth L k
        · have R := hide (okI_bad (most := most) hlt (.inr t2))
          go_wp2
          go_ret
          rw [unhide R]
          exact ⟨rfl, rfl⟩
        · have HG' : Hid (∀ j, j < k + 1 → ¬ (nth L j < 0) ∧ ¬ (1000000 < nth L j)) := hide (fun j hj => by
            by_cases e : j = k
            · subst e; exact ⟨t1, t2⟩
            · exact unhide HG j (by omega))
          go_wp2
          go_roundw
          case rel => exact ⟨k + 1, by omega, by go_num, HG', trivial⟩
          case measure => simp [intOf]; omega
    · obtain rfl : k = L.length := by omega
      by_cases hs : L.length ≤ most
      · have R := hide (okI_good hs (unhide HG))
        have hs' : (L.length : Int) ≤ (most : Int) := by omega
        go_wp2
        go_ret
        rw [unhide R]
        exact ⟨rfl, rfl⟩
      · have R := hide (okI_long (L := L) (most := most) (by omega))
        have hs' : ¬ (L.length : Int) ≤ (most : Int) := by omega
        go_wp2
        go_ret
        rw [unhide R]
        exact ⟨rfl, rfl⟩
set_option maxHeartbeats 1000000 in
theorem areIds_any (v : Value) (L : List Int) (most : Nat) (w : World) (h : IntsAt w v L) (hl : L.length ≤ 1048576) (hm : most ≤ 100) :
    Calls Try.prog 57 #[v, .int .i64 most] w fun e w' => e = .returned (.bool (okI L most)) ∧ w' = w := by
  obtain ⟨a, cap, rfl, h⟩ := h
  have HC : Hid (∀ k, k < L.length → ∃ b off, a = some ⟨b, off, none⟩ ∧ w.cell? ⟨b, off + k, none⟩ = some (.int .i64 (nth L k))) := hide (fun k hk => by
    rcases h with rfl | ⟨b, off, rfl, hb, hc⟩
    · simp at hk
    · exact ⟨b, off, rfl, hc k hk⟩)
  clear h
  by_cases hs : most < L.length
  · have R := hide (okI_long hs)
    have hs' : (most : Int) < (L.length : Int) := by omega
    go_enter Try.func57, Try.ntmps57
    go_wp2
    go_ret
    rw [unhide R]
    exact ⟨rfl, rfl⟩
  have hs' : ¬ (most : Int) < (L.length : Int) := by omega
  go_enter Try.func57, Try.ntmps57
  go_wp2
  go_loopw [13] (fun i wr => ∃ k : Nat, k ≤ L.length ∧ i = .int .i64 k ∧ Hid (∀ j, j < k → ¬ (nth L j < 0) ∧ ¬ (1000000 < nth L j)) ∧ wr = w) (fun i _ => L.length - (intOf i).toNat)
  case atStart => exact ⟨0, Nat.zero_le _, rfl, hide (fun j hj => by omega), rfl⟩
  case round =>
    obtain ⟨k, hk, rfl, HG, rfl⟩ := hrel
    by_cases hlt : k < L.length
    · obtain ⟨b, off, rfl, c1⟩ := unhide HC k hlt
      have hlt' : (k : Int) < (L.length : Int) := by omega
      have CW := hide (fun W => within_any (nth L k) 0 1000000 W)
      cases y : (decide (0 ≤ nth L k) && decide (nth L k ≤ 1000000))
      · have R := hide (okI_bad (L := L) (most := most) hlt (by simp at y; omega))
        rw [y] at CW
        go_wp2_with (go_at_call 27; refine ((unhide CW) _).mono ?_; rintro e w2 ⟨rfl, e2⟩; have e3 := e2.symm; subst e3)
        go_ret
        rw [unhide R]
        exact ⟨rfl, rfl⟩
      · have yy : 0 ≤ nth L k ∧ nth L k ≤ 1000000 := by simpa using y
        have HG' : Hid (∀ j, j < k + 1 → ¬ (nth L j < 0) ∧ ¬ (1000000 < nth L j)) := hide (fun j hj => by
          by_cases e : j = k
          · subst e; omega
          · exact unhide HG j (by omega))
        rw [y] at CW
        go_wp2_with (go_at_call 27; refine ((unhide CW) _).mono ?_; rintro e w2 ⟨rfl, e2⟩; have e3 := e2.symm; subst e3)
        go_roundw
        case rel => exact ⟨k + 1, by omega, by go_num, hide (fun j hj => by have := unhide HG' j hj; omega), trivial⟩
        case measure => simp [intOf]; omega
    · obtain rfl : k = L.length := by omega
      have R := hide (okI_good (most := most) (by omega) (unhide HG))
      go_wp2
      go_ret
      rw [unhide R]
      exact ⟨rfl, rfl⟩
end Go.Proofs.Ytccnjjkechdknaa.Frl
