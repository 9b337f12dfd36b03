/- What charsAlong hands on, one behind the other: the pieces between the cuts (pure). -/
import Derived.Test.YtbaedapnikhdgaaGreatDoorChrC
namespace Go.Proofs.YtbaedapnikhdgaaGreatDoor
namespace Chr
open Go.RowKit
set_option linter.unusedVariables false
def pcsA (s : ByteArray) (C : List Int) (k : Nat) : List ByteArray := (List.range k).map (fun i => s.extract (nth C i).toNat (nth C (i + 1)).toNat)
theorem pcsA_succ (s : ByteArray) (C : List Int) (k : Nat) : pcsA s C (k + 1) = pcsA s C k ++ [s.extract (nth C k).toNat (nth C (k + 1)).toNat] := by simp [pcsA, List.range_succ]
def piecesA (s : ByteArray) (C : List Int) : List ByteArray := pcsA s C (C.length - 1)
/-- The places among the first k points with which a piece starts, told by the places of points. -/
def ctP (pl : Nat → Nat) (B : List Bool) : Nat → List Int
  | 0 => []
  | k + 1 => ctP pl B k ++ (if B.getD k false then [(pl k : Int)] else [])
/-- Where the piece under way begins, and what has been handed on, behind k points. -/
def fsI (pl : Nat → Nat) (B : List Bool) : Nat → Nat
  | 0 => 0
  | k + 1 => if k ≠ 0 ∧ B.getD k false = true then pl k else fsI pl B k
def hnd (s : ByteArray) (pl : Nat → Nat) (B : List Bool) : Nat → List ByteArray
  | 0 => []
  | k + 1 => if k ≠ 0 ∧ B.getD k false = true then hnd s pl B k ++ [s.extract (fsI pl B k) (pl k)] else hnd s pl B k
theorem nth_snocL (L : List Int) (x : Int) (i : Nat) (h : i < L.length) : nth (L ++ [x]) i = nth L i := by
  simp [nth, List.getD_eq_getElem?_getD, List.getElem?_append_left h]
theorem nth_snocE (L : List Int) (x : Int) : nth (L ++ [x]) L.length = x := by
  simp [nth, List.getD_eq_getElem?_getD]
theorem pcsA_snoc (s : ByteArray) (L : List Int) (x : Int) (k : Nat) (h : k < L.length) : pcsA s (L ++ [x]) k = pcsA s L k := by
  unfold pcsA
  refine List.map_congr_left fun i hi => ?_
  have := List.mem_range.1 hi
  rw [nth_snocL _ _ _ (by omega), nth_snocL _ _ _ (by omega)]
theorem along_step (s : ByteArray) (pl : Nat → Nat) (B : List Bool) (h0 : B.getD 0 false = true) (hp : pl 0 = 0) (k : Nat) :
    ∃ m, (ctP pl B (k + 1)).length = m + 1 ∧ nth (ctP pl B (k + 1)) m = (fsI pl B (k + 1) : Int) ∧ hnd s pl B (k + 1) = pcsA s (ctP pl B (k + 1)) m := by
  induction k with
  | zero =>
    have e : ctP pl B (0 + 1) = [0] := by
      show [] ++ (if B.getD 0 false = true then [(pl 0 : Int)] else []) = [0]
      rw [if_pos h0, hp]
      rfl
    exact ⟨0, by rw [e]; rfl, by rw [e]; rfl, by rw [e]; rfl⟩
  | succ k ih =>
    obtain ⟨m, h1, h2, h3⟩ := ih
    by_cases hb : B.getD (k + 1) false = true
    · have e1 : ctP pl B (k + 1 + 1) = ctP pl B (k + 1) ++ [(pl (k + 1) : Int)] := by rw [ctP]; simp only [hb, if_true]
      have e2 : fsI pl B (k + 1 + 1) = pl (k + 1) := by rw [fsI]; exact if_pos ⟨by omega, hb⟩
      have e3 : hnd s pl B (k + 1 + 1) = hnd s pl B (k + 1) ++ [s.extract (fsI pl B (k + 1)) (pl (k + 1))] := by rw [hnd]; exact if_pos ⟨by omega, hb⟩
      refine ⟨m + 1, by rw [e1]; simp [h1], by rw [e1, e2, ← h1, nth_snocE], ?_⟩
      rw [e3, e1, pcsA_succ, pcsA_snoc _ _ _ _ (by omega), h3, nth_snocL _ _ _ (by omega), h2, ← h1, nth_snocE]
      simp
    · have e1 : ctP pl B (k + 1 + 1) = ctP pl B (k + 1) := by rw [ctP, if_neg hb, List.append_nil]
      have e2 : fsI pl B (k + 1 + 1) = fsI pl B (k + 1) := by rw [fsI]; exact if_neg (fun h => hb h.2)
      have e3 : hnd s pl B (k + 1 + 1) = hnd s pl B (k + 1) := by rw [hnd]; exact if_neg (fun h => hb h.2)
      exact ⟨m, by rw [e1, h1], by rw [e1, e2, h2], by rw [e3, e1, h3]⟩
/-- What is handed on and what is left are the pieces between the cuts. -/
theorem along_all (s : ByteArray) (pl : Nat → Nat) (B : List Bool) (h0 : B.getD 0 false = true) (hp : pl 0 = 0) (k : Nat) :
    hnd s pl B (k + 1) ++ [s.extract (fsI pl B (k + 1)) s.size] = piecesA s (ctP pl B (k + 1) ++ [(s.size : Int)]) := by
  obtain ⟨m, h1, h2, h3⟩ := along_step s pl B h0 hp k
  have hl : (ctP pl B (k + 1) ++ [(s.size : Int)]).length - 1 = m + 1 := by simp [h1]
  unfold piecesA
  rw [hl, pcsA_succ, pcsA_snoc _ _ _ _ (by omega), h3, nth_snocL _ _ _ (by omega), h2, ← h1, nth_snocE]
  simp
theorem hnd_len (s : ByteArray) (pl : Nat → Nat) (B : List Bool) (k : Nat) : (hnd s pl B k).length ≤ k := by
  induction k with
  | zero => exact Nat.le_refl _
  | succ k ih =>
    rw [hnd]
    split
    · simp; exact ih
    · omega
theorem ctP_ctk (s : ByteArray) (B : List Bool) (k : Nat) : ctP (fun k => (steps s k).2) B k = ctk s B k := by
  induction k with
  | zero => rfl
  | succ k ih => rw [ctP, ctk, ih]
end Chr
end Go.Proofs.YtbaedapnikhdgaaGreatDoor
