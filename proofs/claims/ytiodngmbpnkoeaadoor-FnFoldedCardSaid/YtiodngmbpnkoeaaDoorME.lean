/- Several texts in one. -/
import Derived.Test.YtiodngmbpnkoeaaDoorCasP
import Derived.Test.YtiodngmbpnkoeaaDoorChrP
/- Folding and upper case of a point, in plain numbers: the program's way and the specification's. No Go in sight. -/
namespace Go.Proofs.YtiodngmbpnkoeaaDoor
namespace Cas
/-- What the specification folds a point to. -/
def fo1 (p : Int) : List Int := if 0 < bl p ∧ p = bl p + 96 then [bl p + 50, bl p + 50] else if 0 < bl p ∧ p % 256 = 97 then [bl p + 50] else [lowS p]
/-- What the program folds it to. -/
def fi1 (p : Int) : List Int := if tw p = 608 then [562 + p - tw p, 562 + p - tw p] else if tw p = 609 then [562 + p - tw p] else [lowS p]
def uo1 (p : Int) : List Int := if 0 < bl p ∧ p = bl p + 96 then [bl p + 18, bl p + 18] else [upS p]
def ui1 (p : Int) : List Int := if tw p = 608 then [530 + p - tw p, 530 + p - tw p] else [upS p]
theorem tw_bl (p : Int) : (512 ≤ p ∧ p < 1280 ∧ tw p = 512 + p % 256 ∧ bl p = p - p % 256) ∨ ((p < 512 ∨ 1280 ≤ p) ∧ tw p = p ∧ bl p = 0) := by
  unfold tw bl
  by_cases h1 : 512 ≤ p ∧ p < 1280
  · left
    refine ⟨h1.1, h1.2, ?_, ?_⟩
    · split <;> omega
    · rw [if_neg (by omega)]; omega
  · right
    refine ⟨by omega, by rw [if_neg (by omega)], by rw [if_pos (by omega)]⟩
theorem fo_eq (p : Int) : fi1 p = fo1 p := by
  unfold fi1 fo1
  rcases tw_bl p with ⟨h1, h2, e1, e2⟩ | ⟨h1, e1, e2⟩
  · rw [e1, e2]
    by_cases c1 : p % 256 = 96
    · rw [if_pos (by omega), if_pos (by omega), show 562 + p - (512 + p % 256) = p - p % 256 + 50 by omega]
    · by_cases c2 : p % 256 = 97
      · rw [if_neg (by omega), if_pos (by omega), if_neg (by omega), if_pos (by omega), show 562 + p - (512 + p % 256) = p - p % 256 + 50 by omega]
      · rw [if_neg (by omega), if_neg (by omega), if_neg (by omega), if_neg (by omega)]
  · rw [e1, e2, if_neg (by omega), if_neg (by omega), if_neg (by omega), if_neg (by omega)]
theorem uo_eq (p : Int) : ui1 p = uo1 p := by
  unfold ui1 uo1
  rcases tw_bl p with ⟨h1, h2, e1, e2⟩ | ⟨h1, e1, e2⟩
  · rw [e1, e2]
    by_cases c1 : p % 256 = 96
    · rw [if_pos (by omega), if_pos (by omega), show 530 + p - (512 + p % 256) = p - p % 256 + 18 by omega]
    · rw [if_neg (by omega), if_neg (by omega)]
  · rw [e1, e2, if_neg (by omega), if_neg (by omega)]
theorem flat_eq {f g : Int → List Int} (L : List Int) (h : ∀ p ∈ L, f p = g p) : L.flatMap f = L.flatMap g := by
  induction L with
  | nil => rfl
  | cons a t ih => rw [List.flatMap_cons, List.flatMap_cons, h a (by simp), ih (fun p hp => h p (by simp [hp]))]
theorem flat_take {f : Int → List Int} (L : List Int) (k : Nat) (h : k < L.length) : (L.take (k + 1)).flatMap f = (L.take k).flatMap f ++ f (L.getD k 0) := by
  rw [List.take_add_one, List.flatMap_append]
  simp [List.getD_eq_getElem?_getD, h]
theorem flat_len {f : Int → List Int} (L : List Int) (hf : ∀ p, (f p).length ≤ 2) : (L.flatMap f).length ≤ 2 * L.length := by
  induction L with
  | nil => simp
  | cons a t ih => have := hf a; rw [List.flatMap_cons, List.length_append, List.length_cons]; omega
theorem flat_take_len {f : Int → List Int} (L : List Int) (k : Nat) (hf : ∀ p, (f p).length ≤ 2) : ((L.take k).flatMap f).length ≤ 2 * L.length := by
  have h1 := flat_len (L.take k) hf
  have h2 : (L.take k).length ≤ L.length := by simp; omega
  omega
theorem fi_len (p : Int) : (fi1 p).length ≤ 2 := by unfold fi1; (repeat' split) <;> simp
theorem fo_len (p : Int) : (fo1 p).length ≤ 2 := by unfold fo1; (repeat' split) <;> simp
theorem ui_len (p : Int) : (ui1 p).length ≤ 2 := by unfold ui1; split <;> simp
theorem uo_len (p : Int) : (uo1 p).length ≤ 2 := by unfold uo1; split <;> simp
end Cas
end Go.Proofs.YtiodngmbpnkoeaaDoor
/- Lower case of a place in a row of points, in plain numbers. No Go in sight. -/
namespace Go.Proofs.YtiodngmbpnkoeaaDoor
namespace Cas
def cas (p : Int) : Bool := Chr.cat p == 4 || Chr.cat p == 5 || Chr.cat p == 6
def mk3 (p : Int) : Bool := Chr.cat p == 3
/-- Of the first k points that are no marks the last one has case. -/
def ahC (L : List Int) : Nat → Bool
  | 0 => false
  | k + 1 => if mk3 (L.getD k 0) then ahC L k else cas (L.getD k 0)
/-- Of the points from k on that are no marks the first one, if there is one, has no case (n: how many are looked at). -/
def bhC (L : List Int) : Nat → Nat → Bool
  | 0, _ => true
  | n + 1, k => if mk3 (L.getD k 0) then bhC L n (k + 1) else !cas (L.getD k 0)
/-- The point at a place ends a word. -/
def endW (L : List Int) (k : Nat) : Bool := ahC L k && bhC L (L.length - (k + 1)) (k + 1)
/-- What Lower makes of the point at a place: the specification's way. -/
def loS (L : List Int) (k : Nat) : Int := if (0 < bl (L.getD k 0) ∧ L.getD k 0 = bl (L.getD k 0) + 18) ∧ endW L k = true then bl (L.getD k 0) + 97 else lowS (L.getD k 0)
/-- The program's way. -/
def loI (L : List Int) (k : Nat) : Int := if tw (L.getD k 0) = 530 ∧ endW L k = true then 609 + L.getD k 0 - tw (L.getD k 0) else lowS (L.getD k 0)
theorem lo_eq (L : List Int) (k : Nat) : loI L k = loS L k := by
  unfold loI loS
  generalize L.getD k 0 = p
  generalize endW L k = e
  rcases tw_bl p with ⟨h1, h2, e1, e2⟩ | ⟨h1, e1, e2⟩
  · rw [e1, e2]
    by_cases c : p % 256 = 18
    · cases e
      · rw [if_neg (by simp), if_neg (by simp)]
      · rw [if_pos ⟨by omega, rfl⟩, if_pos ⟨by omega, rfl⟩]; omega
    · rw [if_neg (fun h => by omega), if_neg (fun h => by omega)]
  · rw [e1, e2, if_neg (fun h => by omega), if_neg (fun h => by omega)]
theorem ah_on {L : List Int} {k : Nat} (h : mk3 (L.getD k 0) = true) : ahC L (k + 1) = ahC L k := by
  show (if mk3 (L.getD k 0) then _ else _) = _
  rw [h]; rfl
theorem ah_end {L : List Int} {k : Nat} (h : mk3 (L.getD k 0) = false) : ahC L (k + 1) = cas (L.getD k 0) := by
  show (if mk3 (L.getD k 0) then _ else _) = _
  rw [h]; rfl
theorem bh_on {L : List Int} {n k : Nat} (h : mk3 (L.getD k 0) = true) : bhC L (n + 1) k = bhC L n (k + 1) := by
  show (if mk3 (L.getD k 0) then _ else _) = _
  rw [h]; rfl
theorem bh_end {L : List Int} {n k : Nat} (h : mk3 (L.getD k 0) = false) : bhC L (n + 1) k = !cas (L.getD k 0) := by
  show (if mk3 (L.getD k 0) then _ else _) = _
  rw [h]; rfl
end Cas
end Go.Proofs.YtiodngmbpnkoeaaDoor
