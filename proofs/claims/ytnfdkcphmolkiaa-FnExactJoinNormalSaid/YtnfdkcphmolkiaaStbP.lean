/- Rows in order, and those that are alike as they stood: no Go in sight. -/
import Derived.WalkKit
namespace Go.Proofs.Ytnfdkcphmolkiaa
/-- 'Below' of a weak order. -/
structure Weak {α : Type} (lt : α → α → Bool) : Prop where
  irr : ∀ x, lt x x = false
  asym : ∀ x y, lt x y = true → lt y x = false
  tr : ∀ x y z, lt x y = true → lt y z = true → lt x z = true
  ntr : ∀ x y z, lt y x = false → lt z y = false → lt z x = false
theorem Weak.of_lt {α : Type} {lt : α → α → Bool} (h : Weak lt) {x y z : α} (h1 : lt x y = true) (h2 : lt z y = false) : lt x z = true := by
  cases e : lt x z with
  | true => rfl
  | false =>
    have := h.ntr z x y
    have h3 := h.ntr y z x h2 e
    rw [h1] at h3
    cases h3
theorem Weak.of_le {α : Type} {lt : α → α → Bool} (h : Weak lt) {x y z : α} (h1 : lt y x = false) (h2 : lt y z = true) : lt x z = true := by
  cases e : lt x z with
  | true => rfl
  | false =>
    have h3 := h.ntr z x y e h1
    rw [h2] at h3
    cases h3
section
variable {α : Type} {lt : α → α → Bool}
def alike (lt : α → α → Bool) (c x : α) : Bool := !lt x c && !lt c x
theorem alike_iff {c x : α} : alike lt c x = true ↔ lt x c = false ∧ lt c x = false := by simp [alike]
def Srt (lt : α → α → Bool) (l : List α) : Prop := l.Pairwise (fun x y => lt y x = false)
def StEq (lt : α → α → Bool) (l l' : List α) : Prop := ∀ c, l.filter (alike lt c) = l'.filter (alike lt c)
theorem StEq.refl (l : List α) : StEq lt l l := fun _ => rfl
theorem StEq.symm {l l' : List α} (h : StEq lt l l') : StEq lt l' l := fun c => (h c).symm
theorem StEq.trans {a b c : List α} (h : StEq lt a b) (g : StEq lt b c) : StEq lt a c := fun d => (h d).trans (g d)
theorem StEq.app {a a' b b' : List α} (h : StEq lt a a') (g : StEq lt b b') : StEq lt (a ++ b) (a' ++ b') := fun c => by rw [List.filter_append, List.filter_append, h c, g c]
theorem StEq.mem (hW : Weak lt) {l l' : List α} (h : StEq lt l l') {x : α} (hx : x ∈ l) : x ∈ l' := by
  have h1 : x ∈ l.filter (alike lt x) := List.mem_filter.2 ⟨hx, alike_iff.2 ⟨hW.irr x, hW.irr x⟩⟩
  rw [h x] at h1
  exact (List.mem_filter.1 h1).1
theorem StEq.swap (hW : Weak lt) {a b : List α} (h : ∀ x ∈ a, ∀ y ∈ b, lt y x = true) : StEq lt (a ++ b) (b ++ a) := fun c => by
  rw [List.filter_append, List.filter_append]
  by_cases e : a.filter (alike lt c) = []
  · rw [e]; simp
  · obtain ⟨x, hx⟩ := List.exists_mem_of_ne_nil _ e
    obtain ⟨hx, hc⟩ := List.mem_filter.1 hx
    have hb : b.filter (alike lt c) = [] := List.filter_eq_nil_iff.2 (fun y hy he => by
      have h1 := h x hx y hy
      have h2 := (alike_iff.1 hc).2
      have h3 := hW.of_lt h1 h2
      rw [(alike_iff.1 he).1] at h3
      cases h3)
    rw [hb]; simp
theorem StEq.length {l l' : List α} (hW : Weak lt) (h : StEq lt l l') : l.length = l'.length := by
  have key : ∀ n, ∀ (l l' : List α), l.length ≤ n → StEq lt l l' → l.length = l'.length := fun n => by
    induction n with
    | zero =>
      intro l l' hl h
      obtain rfl : l = [] := List.length_eq_zero_iff.1 (by omega)
      match l', h with
      | [], _ => rfl
      | y :: t, h =>
        have := StEq.mem hW h.symm (x := y) (by simp)
        simp at this
    | succ n ih =>
      intro l l' hl h
      match l, h with
      | [], h =>
        match l', h with
        | [], _ => rfl
        | y :: t, h =>
          have := StEq.mem hW h.symm (x := y) (by simp)
          simp at this
      | x :: t, h =>
        have hp : ∀ (m : List α), m.length = (m.filter (alike lt x)).length + (m.filter (fun y => !alike lt x y)).length := fun m => by
          induction m with
          | nil => rfl
          | cons y m ihm =>
            cases e : alike lt x y <;> simp [e] <;> omega
        have h1 := hp (x :: t)
        have h2 := hp l'
        have hx : alike lt x x = true := alike_iff.2 ⟨hW.irr x, hW.irr x⟩
        have h3 : StEq lt ((x :: t).filter (fun y => !alike lt x y)) (l'.filter (fun y => !alike lt x y)) := fun c => by
          rw [List.filter_filter, List.filter_filter]
          have e1 : ∀ (m : List α), m.filter (fun y => alike lt c y && !alike lt x y) = (m.filter (alike lt c)).filter (fun y => !alike lt x y) := fun m => by
            rw [List.filter_filter]
            congr 1
            funext y
            rw [Bool.and_comm]
          rw [e1, e1, h c]
        have hlen : ((x :: t).filter (fun y => !alike lt x y)).length ≤ n := by
          have h4 : 1 ≤ ((x :: t).filter (alike lt x)).length := by simp [hx]
          simp only [List.length_cons] at hl
          have h5 := hp (x :: t)
          simp only [List.length_cons] at h5
          omega
        have h6 := ih _ _ hlen h3
        rw [h1, h2, h x, h6]
  exact key _ _ _ (Nat.le_refl _) h
theorem srt_one (hW : Weak lt) : ∀ {l l' : List α}, Srt lt l → Srt lt l' → StEq lt l l' → l = l'
  | [], l', _, _, h => by
    match l', h with
    | [], _ => rfl
    | y :: t, h =>
      have := StEq.mem hW h.symm (x := y) (by simp)
      simp at this
  | x :: t, [], _, _, h => by
    have := StEq.mem hW h (x := x) (by simp)
    simp at this
  | x :: t, y :: t', h1, h2, h => by
    have a1 := List.pairwise_cons.1 h1
    have a2 := List.pairwise_cons.1 h2
    have n1 : lt y x = false := by
      rcases List.mem_cons.1 (StEq.mem hW h.symm (x := y) (by simp)) with e | e
      · rw [e]; exact hW.irr x
      · exact a1.1 y e
    have n2 : lt x y = false := by
      rcases List.mem_cons.1 (StEq.mem hW h (x := x) (by simp)) with e | e
      · rw [e]; exact hW.irr y
      · exact a2.1 x e
    have hx : alike lt x x = true := alike_iff.2 ⟨hW.irr x, hW.irr x⟩
    have hy : alike lt x y = true := alike_iff.2 ⟨n1, n2⟩
    have hh := h x
    rw [List.filter_cons_of_pos hx, List.filter_cons_of_pos hy] at hh
    injection hh with e1 e2
    subst e1
    have ht : StEq lt t t' := fun c => by
      have hc := h c
      cases e : alike lt c x with
      | true =>
        rw [List.filter_cons_of_pos e, List.filter_cons_of_pos e] at hc
        injection hc
      | false =>
        rw [List.filter_cons_of_neg (by simp [e]), List.filter_cons_of_neg (by simp [e])] at hc
        exact hc
    rw [srt_one hW a1.2 a2.2 ht]
theorem srt_app {a b : List α} (ha : Srt lt a) (hb : Srt lt b) (h : ∀ x ∈ a, ∀ y ∈ b, lt y x = false) : Srt lt (a ++ b) := List.pairwise_append.2 ⟨ha, hb, h⟩
theorem srt_parts {a b : List α} (h : Srt lt (a ++ b)) : Srt lt a ∧ Srt lt b ∧ ∀ x ∈ a, ∀ y ∈ b, lt y x = false := List.pairwise_append.1 h
/-- Merging by halves. -/
theorem merge_halves (hW : Weak lt) {X1 X2 Y1 Y2 Z1 Z2 : List α} (hX : Srt lt (X1 ++ X2)) (hY : Srt lt (Y1 ++ Y2)) (h1 : ∀ x ∈ X2, ∀ y ∈ Y1, lt y x = true) (h2 : ∀ x ∈ X1, ∀ y ∈ Y2, lt y x = false)
    (s1 : Srt lt Z1) (e1 : StEq lt Z1 (X1 ++ Y1)) (s2 : Srt lt Z2) (e2 : StEq lt Z2 (X2 ++ Y2)) : Srt lt (Z1 ++ Z2) ∧ StEq lt (Z1 ++ Z2) ((X1 ++ X2) ++ (Y1 ++ Y2)) := by
  obtain ⟨_, _, hx⟩ := srt_parts hX
  obtain ⟨_, _, hy⟩ := srt_parts hY
  constructor
  · refine srt_app s1 s2 (fun u hu v hv => ?_)
    rcases List.mem_append.1 (StEq.mem hW e1 hu) with hu | hu <;> rcases List.mem_append.1 (StEq.mem hW e2 hv) with hv | hv
    · exact hx u hu v hv
    · exact h2 u hu v hv
    · exact hW.asym _ _ (h1 v hv u hu)
    · exact hy u hu v hv
  · have e3 : StEq lt ((X1 ++ Y1) ++ (X2 ++ Y2)) ((X1 ++ X2) ++ (Y1 ++ Y2)) := by
      have : StEq lt (X1 ++ ((Y1 ++ X2) ++ Y2)) (X1 ++ ((X2 ++ Y1) ++ Y2)) := (StEq.refl X1).app ((StEq.swap hW h1).symm.app (StEq.refl Y2))
      simpa [List.append_assoc] using this
    exact (e1.app e2).trans e3
end
end Go.Proofs.Ytnfdkcphmolkiaa
