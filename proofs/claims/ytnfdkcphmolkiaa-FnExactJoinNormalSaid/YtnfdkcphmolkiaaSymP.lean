/- Where two stretches in order are parted, so that halves of them can be merged: no Go in sight. -/
import Derived.Test.YtnfdkcphmolkiaaSymB
namespace Go.Proofs.Ytnfdkcphmolkiaa
/-- The test of the search: X and Y in order, M the half of both together, l where the search begins. -/
def symF (X Y : List Int) (M l t : Nat) : Bool := !clsLt (nth Y (M - 1 - l - t)) (nth X (l + t))
theorem symF_up {X Y : List Int} (hX : Srt clsLt X) (hY : Srt clsLt Y) {M l c d : Nat} (hd : d ≤ c) (h1 : l + c < X.length) (h2 : l + c < M) (h3 : M - 1 - l < Y.length) (hf : symF X Y M l c = true) : symF X Y M l d = true := by
  unfold symF at hf ⊢
  simp at hf ⊢
  have a1 := srt_nth hX (i := l + d) (j := l + c) (by omega) h1
  have a2 := srt_nth hY (i := M - 1 - l - c) (j := M - 1 - l - d) (by omega) (by omega)
  exact cls_weak.ntr _ _ _ a1 (cls_weak.ntr _ _ _ hf a2)
theorem symF_down {X Y : List Int} (hX : Srt clsLt X) (hY : Srt clsLt Y) {M l c d : Nat} (hd : c ≤ d) (h1 : l + d < X.length) (h2 : l + d < M) (h3 : M - 1 - l < Y.length) (hf : symF X Y M l c = false) : symF X Y M l d = false := by
  unfold symF at hf ⊢
  simp at hf ⊢
  have a1 := srt_nth hX (i := l + c) (j := l + d) (by omega) h1
  have a2 := srt_nth hY (i := M - 1 - l - d) (j := M - 1 - l - c) (by omega) (by omega)
  exact cls_weak.of_lt (cls_weak.of_le a2 hf) a1
/-- How the halves stand to each other. -/
theorem sym_split {X Y : List Int} (hX : Srt clsLt X) (hY : Srt clsLt Y) {M l L u s e : Nat} (hc : (X.length ≤ M ∧ l = 0 ∧ L = X.length ∧ M ≤ Y.length) ∨ (M < X.length ∧ l + Y.length = M ∧ L = Y.length)) (hs : s = l + u) (he : e + s = M) (h : Sought (symF X Y M l) L u u) :
    (∀ x ∈ X.drop s, ∀ y ∈ Y.take e, clsLt y x = true) ∧ (∀ x ∈ X.take s, ∀ y ∈ Y.drop e, clsLt y x = false) := by
  have hu := h.qn
  constructor
  · intro x hx y hy
    obtain ⟨j, hj1, hj2, ex⟩ := mem_drop_nth hx
    obtain ⟨k, hk1, hk2, ey⟩ := mem_take_nth hy
    have hul : u < L := by omega
    have hF := h.hi u (Nat.le_refl _) hul
    unfold symF at hF
    simp at hF
    have e1 : M - 1 - l - u = e - 1 := by omega
    rw [e1, ← hs] at hF
    have a1 := srt_nth hX (i := s) (j := j) hj1 hj2
    have a2 := srt_nth hY (i := k) (j := e - 1) (by omega) (by omega)
    rw [← ex, ← ey]
    exact cls_weak.of_lt (cls_weak.of_le a2 hF) a1
  · intro x hx y hy
    obtain ⟨j, hj1, hj2, ex⟩ := mem_take_nth hx
    obtain ⟨k, hk1, hk2, ey⟩ := mem_drop_nth hy
    have hu0 : 0 < u := by omega
    have hF := h.lo (u - 1) (by omega)
    unfold symF at hF
    simp at hF
    have e1 : M - 1 - l - (u - 1) = e := by omega
    have e2 : l + (u - 1) = s - 1 := by omega
    rw [e1, e2] at hF
    have a1 := srt_nth hX (i := j) (j := s - 1) (by omega) (by omega)
    have a2 := srt_nth hY (i := e) (j := k) hk1 hk2
    rw [← ex, ← ey]
    exact cls_weak.ntr _ _ _ a1 (cls_weak.ntr _ _ _ hF a2)
theorem nth_left (P X Z : List Int) (c : Nat) (h : c < X.length) : nth (P ++ X ++ Z) (P.length + c) = nth X c := by
  unfold nth List.getD
  rw [List.append_assoc, List.getElem?_append_right (by omega), List.getElem?_append_left (by omega)]
  congr 2
  omega
theorem nth_right (P X Y Q : List Int) (c : Nat) (h : c < Y.length) : nth (P ++ X ++ Y ++ Q) (P.length + X.length + c) = nth Y c := by
  have := nth_left (P ++ X) Y Q c h
  rw [List.length_append] at this
  exact this
end Go.Proofs.Ytnfdkcphmolkiaa
