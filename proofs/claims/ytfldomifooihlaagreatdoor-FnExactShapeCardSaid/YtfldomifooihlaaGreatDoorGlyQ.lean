/- Clusters and cuts, a row shifted by one: without memory. -/
import Derived.Test.YtfldomifooihlaaGreatDoorGlyD
import Derived.Test.YtfldomifooihlaaGreatDoorHC3
namespace Go.Proofs.YtfldomifooihlaaGreatDoor.Gly
open Go.RowKit Chr
set_option linter.unusedVariables false
/-- The cuts from the point i on, k points being left. -/
def sfx (s : ByteArray) (B : List Bool) : Nat → Nat → List Int
  | i, 0 => [(s.size : Int)]
  | i, k + 1 => if B.getD i false = true then ((steps s i).2 : Int) :: sfx s B (i + 1) k else sfx s B (i + 1) k
theorem sfx_ctk (s : ByteArray) (B : List Bool) (k i : Nat) : ctk s B i ++ sfx s B i k = ctk s B (i + k) ++ [(s.size : Int)] := by
  induction k generalizing i with
  | zero => rfl
  | succ k ih =>
    have := ih (i + 1)
    rw [show i + 1 + k = i + (k + 1) by omega] at this
    rw [← this, sfx, ctk]
    cases B.getD i false <;> simp
theorem sfx_all (s : ByteArray) (B : List Bool) (h : 0 < B.length) : cutsL s B = sfx s B 0 B.length := by
  unfold cutsL
  rw [if_neg (by omega)]
  have := sfx_ctk s B B.length 0
  rw [Nat.zero_add] at this
  rw [← this]
  rfl
/-- Places rise. -/
def Rise (s : ByteArray) (n : Nat) : Prop := (∀ i, i < n → (steps s i).2 < s.size) ∧ ∀ i j, i < j → j < n → (steps s i).2 < (steps s j).2
theorem rise_of (s : ByteArray) : Rise s (pts s).length := by
  have h1 : ∀ i, i < (pts s).length → (steps s i).2 < s.size := fun i hi => by
    by_cases h : (steps s i).2 < s.size
    · exact h
    · exfalso
      have e := steps_pts s i (by omega)
      have hle : ∀ n, (steps s n).1.length ≤ n := fun n => by
        induction n with
        | zero => exact Nat.le_refl _
        | succ n ih =>
          by_cases h : (steps s n).2 < s.size
          · rw [steps_next s n h]; simp; omega
          · have := steps_stop s n 1 (by omega); rw [this]; omega
      have := hle i
      rw [e] at this
      omega
  refine ⟨h1, fun i j hij hj => ?_⟩
  have step : ∀ i, i < (pts s).length → (steps s i).2 < (steps s (i + 1)).2 := fun i hi => by
    have h := h1 i hi
    rw [steps_next s i h]
    have := (dN_bd s _ h).1
    show (steps s i).2 < (steps s i).2 + dN s (steps s i).2
    omega
  obtain ⟨d, rfl⟩ : ∃ d, j = i + 1 + d := ⟨j - (i + 1), by omega⟩
  induction d with
  | zero => exact step i (by omega)
  | succ d ih =>
    have a := ih (by omega) (by omega)
    have b := step (i + 1 + d) (by omega)
    rw [show i + 1 + (d + 1) = i + 1 + d + 1 by omega]
    omega
/-- What is left of the cuts lies behind the points gone by. -/
theorem sfx_gt (s : ByteArray) (B : List Bool) (n : Nat) (h : Rise s n) (k i j : Nat) (hik : i + k = n) (hj : j < i) : ∃ x t, sfx s B i k = x :: t ∧ ((steps s j).2 : Int) < x := by
  induction k generalizing i with
  | zero => exact ⟨_, _, rfl, by have := h.1 j (by omega); omega⟩
  | succ k ih =>
    rw [sfx]
    split
    · exact ⟨_, _, rfl, by have := h.2 j i hj (by omega); omega⟩
    · exact ih (i + 1) (by omega) (by omega)
theorem sfx_len (s : ByteArray) (B : List Bool) (k i : Nat) : 0 < (sfx s B i k).length ∧ (sfx s B i k).length ≤ k + 1 := by
  induction k generalizing i with
  | zero => simp [sfx]
  | succ k ih =>
    rw [sfx]
    have := ih (i + 1)
    split
    · simp; omega
    · omega
/-- A row whose last places have moved one on: those above p. -/
def shf (O : List (Int × Int × Int)) (g : Int × Int × Int) (p : Nat) : List (Int × Int × Int) := (List.range (O.length + 1)).map fun q => if p < q then gat O (q - 1) else if q = O.length then g else gat O q
theorem shf_len (O : List (Int × Int × Int)) (g : Int × Int × Int) (p : Nat) : (shf O g p).length = O.length + 1 := by simp [shf]
theorem shf_at (O : List (Int × Int × Int)) (g : Int × Int × Int) (p q : Nat) (h : q < O.length + 1) : gat (shf O g p) q = if p < q then gat O (q - 1) else if q = O.length then g else gat O q := by simp [shf, gat, List.getD, h]
theorem gext {G H : List (Int × Int × Int)} (hl : G.length = H.length) (h : ∀ k, k < G.length → gat G k = gat H k) : G = H := by
  refine List.ext_getElem hl (fun k h1 h2 => ?_)
  have := h k h1
  simpa [gat, List.getD, h1, h2] using this
theorem gat_set (G : List (Int × Int × Int)) (i k : Nat) (x : Int × Int × Int) (hi : i < G.length) : gat (G.set i x) k = if k = i then x else gat G k := by
  unfold gat List.getD
  by_cases e : k = i
  · subst e; simp [hi]
  · rw [if_neg e, List.getElem?_set_ne (by omega)]
theorem shf_zero (O : List (Int × Int × Int)) (g : Int × Int × Int) : shf O g O.length = O ++ [g] := by
  refine gext (by simp [shf]) (fun k hk => ?_)
  rw [shf_len] at hk
  rw [shf_at _ _ _ _ hk, if_neg (by omega)]
  by_cases e : k = O.length
  · rw [if_pos e, e]; simp [gat, List.getD]
  · rw [if_neg e]; simp [gat, List.getD, List.getElem?_append_left, show k < O.length by omega]
theorem shf_step (O : List (Int × Int × Int)) (g : Int × Int × Int) (p : Nat) (h : p < O.length) : (shf O g (p + 1)).set (p + 1) (gat (shf O g (p + 1)) p) = shf O g p := by
  refine gext (by simp [shf]) (fun k hk => ?_)
  simp [shf_len] at hk
  rw [gat_set _ _ _ _ (by rw [shf_len]; omega), shf_at _ _ _ _ (by omega), shf_at _ _ _ _ (by omega), shf_at _ _ _ _ (by omega)]
  by_cases e : k = p + 1
  · subst e
    rw [if_pos rfl, if_neg (by omega), if_neg (by omega), if_pos (by omega)]
    rfl
  · rw [if_neg e]
    by_cases e2 : p < k
    · rw [if_pos (by omega), if_pos e2]
    · rw [if_neg (by omega), if_neg e2]
theorem shf_done (O : List (Int × Int × Int)) (g : Int × Int × Int) (p : Nat) (h : p ≤ O.length) : (shf O g p).set p g = O.take p ++ g :: O.drop p := by
  refine gext (by simp [shf]; omega) (fun k hk => ?_)
  simp [shf_len] at hk
  rw [gat_set _ _ _ _ (by rw [shf_len]; omega), shf_at _ _ _ _ (by omega)]
  unfold gat List.getD
  by_cases e : k = p
  · subst e
    rw [if_pos rfl, List.getElem?_append_right (by simp; omega)]
    simp [Nat.min_eq_left h]
  · rw [if_neg e]
    by_cases e2 : p < k
    · rw [if_pos e2, List.getElem?_append_right (by simp; omega)]
      have : k - (List.take p O).length = (k - p - 1) + 1 := by simp [Nat.min_eq_left h]; omega
      rw [this, List.getElem?_cons_succ, List.getElem?_drop, show p + (k - p - 1) = k - 1 by omega]
    · rw [if_neg e2, if_neg (by omega), List.getElem?_append_left (by simp; omega), List.getElem?_take_of_lt (by omega)]
end Go.Proofs.YtfldomifooihlaaGreatDoor.Gly
