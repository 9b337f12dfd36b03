/- The characters of a text: the program and the specification tell the same pieces. The law of Chars. -/
import Derived.Test.YtbaedapnikhdgaaGreatDoorCV
import Derived.Test.YtbaedapnikhdgaaGreatDoorChsI
namespace Go.Proofs.YtbaedapnikhdgaaGreatDoor
namespace Chr
open Go.RowKit
theorem steps_up (s : ByteArray) (n j : Nat) : (steps s n).2 ≤ (steps s (n + j)).2 := by
  induction j with
  | zero => exact Nat.le_refl _
  | succ j ih =>
    refine Nat.le_trans ih ?_
    show _ ≤ (if (steps s (n + j)).2 < s.size then _ else steps s (n + j)).2
    split
    · simp
    · exact Nat.le_refl _
theorem ctk_mem (s : ByteArray) (B : List Bool) (k : Nat) : ∀ x ∈ ctk s B k, ∃ m, m < k ∧ x = ((steps s m).2 : Int) := by
  induction k with
  | zero => intro x hx; cases hx
  | succ k ih =>
    intro x hx
    unfold ctk at hx
    rw [List.mem_append] at hx
    rcases hx with hx | hx
    · obtain ⟨m, hm, e⟩ := ih x hx
      exact ⟨m, by omega, e⟩
    · split at hx
      · exact ⟨k, by omega, by simpa using hx⟩
      · cases hx
theorem ctk_up (s : ByteArray) (B : List Bool) (k : Nat) : (ctk s B k).Pairwise (· ≤ ·) := by
  induction k with
  | zero => exact List.Pairwise.nil
  | succ k ih =>
    unfold ctk
    rw [List.pairwise_append]
    refine ⟨ih, ?_, fun a ha b hb => ?_⟩
    · split
      · simp
      · exact List.Pairwise.nil
    · split at hb
      · obtain ⟨m, hm, rfl⟩ := ctk_mem s B k a ha
        obtain rfl : b = ((steps s k).2 : Int) := by simpa using hb
        have := steps_up s m (k - m)
        rw [show m + (k - m) = k by omega] at this
        omega
      · cases hb
theorem cutsL_mem (s : ByteArray) (B : List Bool) : ∀ x ∈ cutsL s B, ∃ a : Nat, x = (a : Int) ∧ a ≤ s.size := by
  intro x hx
  unfold cutsL at hx
  split at hx
  · cases hx
  · rw [List.mem_append] at hx
    rcases hx with hx | hx
    · obtain ⟨m, _, rfl⟩ := ctk_mem s B _ x hx
      exact ⟨_, rfl, (steps_le s m).1⟩
    · exact ⟨s.size, by simpa using hx, Nat.le_refl _⟩
theorem cutsL_up (s : ByteArray) (B : List Bool) : (cutsL s B).Pairwise (· ≤ ·) := by
  unfold cutsL
  split
  · exact List.Pairwise.nil
  · rw [List.pairwise_append]
    refine ⟨ctk_up s B _, by simp, fun a ha b hb => ?_⟩
    obtain ⟨m, _, rfl⟩ := ctk_mem s B _ a ha
    obtain rfl : b = (s.size : Int) := by simpa using hb
    have := (steps_le s m).1
    omega
theorem cuts_of {s : ByteArray} {C : List Int} (h1 : ∀ x ∈ C, ∃ a : Nat, x = (a : Int) ∧ a ≤ s.size) (h2 : C.Pairwise (· ≤ ·)) : Cuts s C := by
  intro i hi
  have e1 : nth C i = C[i]'(by omega) := by simp [nth, List.getD, show i < C.length by omega]
  have e2 : nth C (i + 1) = C[i + 1] := by simp [nth, List.getD, hi]
  obtain ⟨a, ha, _⟩ := h1 _ (List.getElem_mem (show i < C.length by omega))
  obtain ⟨b, hb, hbs⟩ := h1 _ (List.getElem_mem hi)
  have := List.pairwise_iff_getElem.1 h2 i (i + 1) (by omega) hi (by omega)
  exact ⟨a, b, by rw [e1, ha], by rw [e2, hb], by rw [ha, hb] at this; omega, hbs⟩
theorem cutsOut_ok (s : ByteArray) : Cuts s (cutsOut s) := by
  unfold cutsOut
  split
  · intro i hi; simp at hi
  · exact cuts_of (cutsL_mem s _) (cutsL_up s _)
/-- The characters. -/
def charsOut (s : ByteArray) : List ByteArray := pieces s (cutsOut s)
theorem charsOut_le (s : ByteArray) : (charsOut s).length ≤ 65536 := by
  unfold charsOut
  rw [pieces_len]
  have := cutsOut_le s
  omega
theorem owns_lower {w : World} {B B2 n : Nat} {e : TypeId} {v : Value} {xs : List Value} (h : w.ownsRow B2 e 1 v n xs) (hb : B ≤ B2) : w.ownsRow B e 1 v n xs := by
  refine ⟨h.1, ?_⟩
  rcases h.2 with h' | ⟨g, cap, cur, hv, hg, r⟩
  · exact .inl h'
  · exact .inr ⟨g, cap, cur, hv, Nat.le_trans hb hg, r⟩
theorem nil_piecesS (s : ByteArray) (C : List Int) (v : Value) (w : World) (hv : IntsAt w v C) (h : C = []) (k : FuncId) (hk : k = 31) : Calls Tryz.prog k #[.string s, v] w fun e w' => ∃ v', e = .returned v' ∧ StrsAt w' v' (pieces s C) ∧ Below w.heap.size w w' := by
  subst h hk
  obtain ⟨a, cap, rfl, _⟩ := hv
  go_enter Tryz.func31, Tryz.ntmps31
  go_wp2
  refine wp_loop_rounds 1 ?_
  rw [rounds_succ]
  go_wp2
  go_ret
  exact ⟨_, rfl, ⟨_, _, rfl, .inl rfl⟩, al1 _ _⟩
theorem pieces_s (s : ByteArray) (v : Value) (w : World) (hv : IntsAt w v (cutsOut s)) : Calls Tryz.prog 31 #[.string s, v] w fun e w' => ∃ v', e = .returned v' ∧ StrsAt w' v' (charsOut s) ∧ Below w.heap.size w w' := by
  by_cases hb : 65536 < s.size
  · exact nil_piecesS s _ v w hv (by unfold cutsOut; rw [if_pos hb]) _ rfl
  · exact piecesS s _ v w hv (cutsOut_le s) (cutsOut_ok s)
end Chr
end Go.Proofs.YtbaedapnikhdgaaGreatDoor
