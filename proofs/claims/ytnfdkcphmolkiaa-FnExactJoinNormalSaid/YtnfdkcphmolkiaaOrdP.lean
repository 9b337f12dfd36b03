/- Marks put in order between the points that are none: no Go in sight. -/
import Derived.Test.YtnfdkcphmolkiaaInsR
namespace Go.Proofs.Ytnfdkcphmolkiaa
open Go.RowKit
/-- A point put behind points in order. -/
def insO (Z : List Int) (x : Int) : List Int := if clsZ x = 0 then Z ++ [x] else (Z.reverse.dropWhile (clsLt x)).reverse ++ x :: (Z.reverse.takeWhile (clsLt x)).reverse
def ordL (L : List Int) : List Int := L.foldl insO []
/-- Nothing passes what stands here. -/
def Stops (Z : List Int) : Prop := Z = [] ∨ ∃ Z' z, Z = Z' ++ [z] ∧ clsZ z = 0
theorem cls_nonneg (p : Int) : 0 ≤ clsZ p := by
  unfold clsZ
  split <;> (try split) <;> (try split) <;> (try split) <;> (try split) <;> (try split) <;> (try split) <;> (try split) <;> omega
theorem not_below_zero {x z : Int} (h : clsZ z = 0) : clsLt x z = false := decide_eq_false (by have := cls_nonneg x; omega)
theorem insO_zero (Z : List Int) {x : Int} (h : clsZ x = 0) : insO Z x = Z ++ [x] := by rw [insO, if_pos h]
theorem insO_at {Z1 Z2 : List Int} {x : Int} (hx : clsZ x ≠ 0) (h2 : ∀ z ∈ Z2, clsLt x z = true) (h1 : Z1 = [] ∨ ∃ Z z, Z1 = Z ++ [z] ∧ clsLt x z = false) : insO (Z1 ++ Z2) x = Z1 ++ x :: Z2 := by
  have h2' : ∀ z ∈ Z2.reverse, clsLt x z = true := fun z hz => h2 z (List.mem_reverse.1 hz)
  have e1 : Z1.reverse.takeWhile (clsLt x) = [] ∧ Z1.reverse.dropWhile (clsLt x) = Z1.reverse := by
    rcases h1 with rfl | ⟨Z, z, rfl, hz⟩
    · simp
    · simp [hz]
  rw [insO, if_neg hx, List.reverse_append, List.takeWhile_append_of_pos h2', List.dropWhile_append_of_pos h2', e1.1, e1.2]
  simp
theorem insO_len (Z : List Int) (x : Int) : (insO Z x).length = Z.length + 1 := by
  unfold insO
  split
  · simp
  · have h := congrArg List.length (List.takeWhile_append_dropWhile (p := clsLt x) (l := Z.reverse))
    simp only [List.length_append, List.length_reverse] at h
    simp only [List.length_append, List.length_reverse, List.length_cons]
    omega
theorem fold_len (L : List Int) : ∀ Z, (L.foldl insO Z).length = Z.length + L.length := by
  induction L with
  | nil => intro Z; simp
  | cons x L ih => intro Z; rw [List.foldl_cons, ih, insO_len]; simp; omega
theorem ordL_len (L : List Int) : (ordL L).length = L.length := by rw [ordL, fold_len]; simp
theorem ordL_snoc (L : List Int) (x : Int) : ordL (L ++ [x]) = insO (ordL L) x := by rw [ordL, List.foldl_append]; rfl
theorem ord_zero (L : List Int) {x : Int} (h : clsZ x = 0) : ordL (L ++ [x]) = ordL L ++ [x] := by rw [ordL_snoc, insO_zero _ h]
theorem snoc_cases (Z : List Int) : Z = [] ∨ ∃ Z' z, Z = Z' ++ [z] := by
  by_cases h : Z = []
  · exact .inl h
  · exact .inr ⟨Z.dropLast, Z.getLast h, (List.dropLast_concat_getLast h).symm⟩
theorem split_last (x : Int) : ∀ (n : Nat) (Z : List Int), Z.length = n → ∃ Z1 Z2, Z = Z1 ++ Z2 ∧ (∀ z ∈ Z2, clsLt x z = true) ∧ (Z1 = [] ∨ ∃ Z z, Z1 = Z ++ [z] ∧ clsLt x z = false)
  | 0, Z, h => by
    obtain rfl := List.length_eq_zero_iff.1 h
    exact ⟨[], [], rfl, by simp, .inl rfl⟩
  | n + 1, Z, h => by
    rcases snoc_cases Z with rfl | ⟨Z', z, rfl⟩
    · simp at h
    · cases hz : clsLt x z with
      | false => exact ⟨Z' ++ [z], [], by simp, by simp, .inr ⟨Z', z, rfl, hz⟩⟩
      | true =>
        obtain ⟨Z1, Z2, e, h2, h1⟩ := split_last x n Z' (by simpa using h)
        refine ⟨Z1, Z2 ++ [z], by rw [e]; simp, fun u hu => ?_, h1⟩
        rcases List.mem_append.1 hu with hu | hu
        · exact h2 u hu
        · rw [List.mem_singleton] at hu
          rw [hu]
          exact hz
theorem srt_last {Z : List Int} {x z : Int} (hs : Srt clsLt (Z ++ [z])) (h : clsLt x z = false) : ∀ u ∈ Z ++ [z], clsLt x u = false := fun u hu => by
  rcases List.mem_append.1 hu with hu | hu
  · exact cls_weak.ntr _ _ _ ((srt_parts hs).2.2 u hu z (by simp)) h
  · rw [List.mem_singleton] at hu
    rw [hu]
    exact h
theorem fold_marks {Zd : List Int} (hd : Stops Zd) : ∀ (n : Nat) (Y : List Int), Y.length = n → (∀ y ∈ Y, clsZ y ≠ 0) → ∃ Z, Y.foldl insO Zd = Zd ++ Z ∧ Srt clsLt Z ∧ StEq clsLt Z Y
  | 0, Y, h, _ => by
    obtain rfl := List.length_eq_zero_iff.1 h
    exact ⟨[], by simp, List.Pairwise.nil, StEq.refl _⟩
  | n + 1, Y, h, hY => by
    rcases snoc_cases Y with rfl | ⟨Y', x, rfl⟩
    · simp at h
    · obtain ⟨Z, e, s1, s2⟩ := fold_marks hd n Y' (by simpa using h) (fun y hy => hY y (by simp [hy]))
      have hx : clsZ x ≠ 0 := hY x (by simp)
      obtain ⟨Z1, Z2, rfl, h2, h1⟩ := split_last x _ Z rfl
      have h1' : ∀ z ∈ Z1, clsLt x z = false := by
        rcases h1 with rfl | ⟨Z', z, rfl, hz⟩
        · simp
        · exact srt_last (srt_parts s1).1 hz
      obtain ⟨t1, t2⟩ := ins_done s1 h2 h1'
      refine ⟨Z1 ++ x :: Z2, ?_, t1, t2.trans (s2.app (StEq.refl [x]))⟩
      rw [List.foldl_append, e, List.foldl_cons, List.foldl_nil, ← List.append_assoc, insO_at hx h2 ?_, List.append_assoc]
      rcases h1 with rfl | ⟨Z', z, rfl, hz⟩
      · rcases hd with rfl | ⟨Z', z, rfl, hz⟩
        · exact .inl rfl
        · exact .inr ⟨Z', z, by simp, not_below_zero hz⟩
      · exact .inr ⟨Zd ++ Z', z, by simp, hz⟩
theorem ord_done {D Y Z : List Int} (hd : Stops (ordL D)) (hY : ∀ y ∈ Y, clsZ y ≠ 0) (hs : Srt clsLt Z) (he : StEq clsLt Z Y) : ordL (D ++ Y) = ordL D ++ Z := by
  obtain ⟨Z', e, s1, s2⟩ := fold_marks hd _ Y rfl hY
  rw [srt_one cls_weak hs s1 (he.trans s2.symm), ← e, ordL, List.foldl_append]
  rfl
/-- The first f points are done, marks up to i. -/
def OSt (w0 w : World) (g : Nat) (A B : List Value) (L : List Int) (f i : Nat) : Prop := ∃ D Y R, L = D ++ Y ++ R ∧ D.length = f ∧ (D ++ Y).length = i ∧ Stops (ordL D) ∧ (∀ y ∈ Y, clsZ y ≠ 0) ∧ Seg w0 w g A (ordL D ++ Y ++ R) B
theorem OSt.start {w0 w : World} {g : Nat} {A B : List Value} {L : List Int} (S : Seg w0 w g A L B) : OSt w0 w g A B L 0 0 := ⟨[], [], L, rfl, rfl, rfl, .inl rfl, by simp, S⟩
theorem OSt.cell {w0 w : World} {g : Nat} {A B : List Value} {L : List Int} {f i : Nat} (h : OSt w0 w g A B L f i) (hi : i < L.length) : w.cell? ⟨g, A.length + i, none⟩ = some (.int .i64 (nth L i)) := by
  obtain ⟨D, Y, R, e, l1, l2, _, _, s⟩ := h
  match R, e, s with
  | [], e, _ => rw [e, List.append_nil, l2] at hi; omega
  | x :: R, e, s =>
    have hl := ordL_len D
    rw [List.length_append] at l2
    have c := s.cell i (by simp; omega)
    rw [nth_at _ _ _ _ (by rw [List.length_append]; omega)] at c
    rw [e, nth_at _ _ _ _ (by rw [List.length_append]; omega)]
    exact c
theorem OSt.mark {w0 w : World} {g : Nat} {A B : List Value} {L : List Int} {f i : Nat} (h : OSt w0 w g A B L f i) (hi : i < L.length) (hz : clsZ (nth L i) ≠ 0) : OSt w0 w g A B L f (i + 1) := by
  obtain ⟨D, Y, R, e, l1, l2, hs, hY, s⟩ := h
  match R, e, s with
  | [], e, _ => rw [e, List.append_nil, l2] at hi; omega
  | x :: R, e, s =>
    rw [e, nth_at _ _ _ _ l2.symm] at hz
    refine ⟨D, Y ++ [x], R, by rw [e]; simp, l1, by rw [← List.append_assoc, List.length_append, l2]; rfl, hs, fun y hy => ?_, by simpa [List.append_assoc] using s⟩
    rcases List.mem_append.1 hy with hy | hy
    · exact hY y hy
    · rw [List.mem_singleton] at hy
      rw [hy]
      exact hz
theorem Seg.within {w0 w : World} {g : Nat} {A B : List Value} {P X Q : List Int} (h : Seg w0 w g A (P ++ X ++ Q) B) : Seg w0 w g (A ++ P.map (Value.int .i64)) X (Q.map (Value.int .i64) ++ B) := ⟨by rw [h.fu]; simp [List.append_assoc], h.gr⟩
theorem Seg.whole {w0 w : World} {g : Nat} {A B : List Value} {P X Q : List Int} (h : Seg w0 w g (A ++ P.map (Value.int .i64)) X (Q.map (Value.int .i64) ++ B)) : Seg w0 w g A (P ++ X ++ Q) B := ⟨by rw [h.fu]; simp [List.append_assoc], h.gr⟩
theorem OSt.fin {w0 w : World} {g : Nat} {A B : List Value} {L : List Int} {f i : Nat} (h : OSt w0 w g A B L f i) (hi : i = L.length) (hf : f = i) : Seg w0 w g A (ordL L) B := by
  obtain ⟨D, Y, R, e, l1, l2, hs, hY, s⟩ := h
  rw [List.length_append] at l2
  rw [e] at hi
  simp only [List.length_append] at hi
  obtain rfl : Y = [] := List.length_eq_zero_iff.1 (by omega)
  obtain rfl : R = [] := List.length_eq_zero_iff.1 (by omega)
  rw [e]
  simpa using s
end Go.Proofs.Ytnfdkcphmolkiaa
