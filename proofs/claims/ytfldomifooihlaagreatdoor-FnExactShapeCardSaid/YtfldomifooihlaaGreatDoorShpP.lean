/- Forms of points, told without memory: joints of the points so far, and the forms that they come to. -/
import Derived.Test.YtfldomifooihlaaGreatDoorShpJ
import Derived.Test.YtfldomifooihlaaGreatDoorHN
namespace Go.Proofs.YtfldomifooihlaaGreatDoor.Shp
open Go.RowKit Chr
set_option linter.unusedVariables false
theorem nth_map (f : Nat → Int) (n k : Nat) (h : k < n) : nth ((List.range n).map f) k = f k := by simp [nth, List.getD, h]
theorem nth_set (l : List Int) (i k : Nat) (x : Int) (hi : i < l.length) : nth (l.set i x) k = if k = i then x else nth l k := by
  unfold nth List.getD
  by_cases e : k = i
  · subst e; simp [hi]
  · rw [if_neg e, List.getElem?_set_ne (by omega)]
theorem ext_nth {l m : List Int} (hl : l.length = m.length) (h : ∀ k, k < l.length → nth l k = nth m k) : l = m := by
  refine List.ext_getElem hl (fun k h1 h2 => ?_)
  have := h k h1
  simpa [nth, List.getD, h1, h2] using this
/-- The form of a letter that is joined so. -/
def frm (a b : Bool) : Int := if a = true then (if b = true then 2 else 3) else if b = true then 1 else 0
/-- Whether two points side by side are joined. -/
def jnd (x y : Int) : Bool := jns x == 3 && decide (2 ≤ jns y)
/-- The last point that is not looked past, and the joints, two a point (ahead, behind), of the first k points. -/
def jst (L : List Int) : Nat → Option Nat × List Bool
  | 0 => (none, List.replicate (L.length * 2) false)
  | k + 1 => if jns (nth L k) < 0 then jst L k else
      (some k, match (jst L k).1 with
        | none => (jst L k).2
        | some l => if jnd (nth L l) (nth L k) = true then ((jst L k).2.set (l * 2 + 1) true).set (k * 2) true else (jst L k).2)
theorem jst_pass {L : List Int} {k : Nat} (h : jns (nth L k) < 0) : jst L (k + 1) = jst L k := by rw [jst, if_pos h]
theorem jst_first {L : List Int} {k : Nat} (h : ¬ jns (nth L k) < 0) (e : (jst L k).1 = none) : jst L (k + 1) = (some k, (jst L k).2) := by rw [jst, if_neg h, e]
theorem jst_loose {L : List Int} {k l : Nat} (h : ¬ jns (nth L k) < 0) (e : (jst L k).1 = some l) (hj : jnd (nth L l) (nth L k) = false) : jst L (k + 1) = (some k, (jst L k).2) := by
  rw [jst, if_neg h, e]; simp [hj]
theorem jst_join {L : List Int} {k l : Nat} (h : ¬ jns (nth L k) < 0) (e : (jst L k).1 = some l) (hj : jnd (nth L l) (nth L k) = true) : jst L (k + 1) = (some k, ((jst L k).2.set (l * 2 + 1) true).set (k * 2) true) := by
  rw [jst, if_neg h, e]; simp [hj]
/-- What stands in the row of joints, and what cannot yet. -/
structure Jok (L : List Int) (k : Nat) (s : Option Nat × List Bool) : Prop where
  len : s.2.length = L.length * 2
  lt : ∀ l, s.1 = some l → l < k ∧ ¬ jns (nth L l) < 0
  new : ∀ i, k * 2 ≤ i → s.2.getD i false = false
theorem jok (L : List Int) (k : Nat) (hk : k ≤ L.length) : Jok L k (jst L k) := by
  induction k with
  | zero => exact ⟨by simp [jst], fun l h => by simp [jst] at h, fun i _ => by simp [jst, List.getD, List.getElem?_replicate]; split <;> rfl⟩
  | succ k ih =>
    have I := ih (by omega)
    by_cases h : jns (nth L k) < 0
    · rw [jst_pass h]
      exact ⟨I.len, fun l e => ⟨by have := (I.lt l e).1; omega, (I.lt l e).2⟩, fun i hi => I.new i (by omega)⟩
    · cases e : (jst L k).1 with
      | none =>
        rw [jst_first h e]
        exact ⟨I.len, fun l e => by cases e; exact ⟨by omega, h⟩, fun i hi => I.new i (by omega)⟩
      | some l =>
        have hl := (I.lt l e).1
        cases hj : jnd (nth L l) (nth L k)
        · rw [jst_loose h e hj]
          exact ⟨I.len, fun l e => by cases e; exact ⟨by omega, h⟩, fun i hi => I.new i (by omega)⟩
        · rw [jst_join h e hj]
          refine ⟨by simp [I.len], fun l e => by cases e; exact ⟨by omega, h⟩, fun i hi => ?_⟩
          have := I.new i (by omega)
          simp only [List.getD] at this ⊢
          rw [List.getElem?_set_ne (by omega), List.getElem?_set_ne (by omega)]
          exact this
/-- The forms of points whose joints are J. -/
def fms (L : List Int) (J : List Bool) : List Int := (List.range L.length).map fun i => if jlt (nth L i) = true then frm (J.getD (i * 2) false) (J.getD (i * 2 + 1) false) else 0
theorem fms_len (L : List Int) (J : List Bool) : (fms L J).length = L.length := by simp [fms]
theorem fms_at (L : List Int) (J : List Bool) (i : Nat) (h : i < L.length) : nth (fms L J) i = if jlt (nth L i) = true then frm (J.getD (i * 2) false) (J.getD (i * 2 + 1) false) else 0 := nth_map _ _ _ h
theorem fms_zero (L : List Int) : fms L (jst L 0).2 = List.replicate L.length 0 := by
  refine ext_nth (by simp [fms]) (fun i hi => ?_)
  rw [fms_len] at hi
  have z := (jok L 0 (Nat.zero_le _)).new
  rw [fms_at _ _ _ hi, z _ (by omega), z _ (by omega)]
  simp [nth, List.getD, hi, frm]
theorem getD_set (J : List Bool) (i j : Nat) (x : Bool) (h : i < J.length) : (J.set i x).getD j false = if j = i then x else J.getD j false := by
  by_cases e : j = i
  · subst e; simp [List.getD, h]
  · rw [if_neg e]; simp only [List.getD]; rw [List.getElem?_set_ne (by omega)]
/-- A letter's form once it is joined to the one behind it. -/
def nxf (x : Int) : Int := if x = 0 ∨ x = 1 then 1 else 2
theorem frm_in (a b : Bool) : frm a b = 0 ∨ frm a b = 1 ∨ frm a b = 2 ∨ frm a b = 3 := by cases a <;> cases b <;> simp [frm]
theorem fms_in (L : List Int) (J : List Bool) (i : Nat) (h : i < L.length) : nth (fms L J) i = 0 ∨ nth (fms L J) i = 1 ∨ nth (fms L J) i = 2 ∨ nth (fms L J) i = 3 := by
  rw [fms_at _ _ _ h]
  split
  · exact frm_in _ _
  · exact .inl rfl
theorem nxf_frm (a b : Bool) : nxf (frm a b) = frm a true := by cases a <;> cases b <;> simp [frm, nxf]
/-- The forms, once the last point and this one are joined. -/
def fset (L : List Int) (F : List Int) (l k : Nat) : List Int :=
  let G := if jlt (nth L l) = true then F.set l (nxf (nth F l)) else F
  if jlt (nth L k) = true then G.set k 3 else G
theorem fset_eq (L : List Int) (J : List Bool) (l k : Nat) (hl : l < k) (hk : k < L.length) (hJ : J.length = L.length * 2) (hn : ∀ i, k * 2 ≤ i → J.getD i false = false) :
    fset L (fms L J) l k = fms L ((J.set (l * 2 + 1) true).set (k * 2) true) := by
  have g : ∀ j, (((J.set (l * 2 + 1) true).set (k * 2) true)).getD j false = if j = k * 2 then true else if j = l * 2 + 1 then true else J.getD j false := fun j => by
    rw [getD_set _ _ _ _ (by simp; omega), getD_set _ _ _ _ (by omega)]
  refine ext_nth (by unfold fset; dsimp only; split <;> split <;> simp [fms_len]) (fun i hi => ?_)
  have hi' : i < L.length := by
    have : (fset L (fms L J) l k).length = L.length := by unfold fset; dsimp only; split <;> split <;> simp [fms_len]
    omega
  rw [fms_at _ _ _ hi']
  unfold fset
  dsimp only
  have hlG : ((if jlt (nth L l) = true then (fms L J).set l (nxf (nth (fms L J) l)) else fms L J)).length = L.length := by split <;> simp [fms_len]
  by_cases ek : i = k
  · subst ek
    rw [show ((J.set (l * 2 + 1) true).set (i * 2) true).getD (i * 2) false = true from (g _).trans (if_pos rfl), show ((J.set (l * 2 + 1) true).set (i * 2) true).getD (i * 2 + 1) false = false by rw [g, if_neg (by omega), if_neg (by omega)]; exact hn _ (by omega)]
    by_cases q : jlt (nth L i) = true
    · rw [if_pos q, if_pos q, nth_set _ _ _ _ (by rw [hlG]; exact hk), if_pos rfl]; rfl
    · rw [if_neg q, if_neg q]
      split
      · rw [nth_set _ _ _ _ (by rw [fms_len]; omega), if_neg (by omega), fms_at _ _ _ hi', if_neg q]
      · rw [fms_at _ _ _ hi', if_neg q]
  · have gA : ((J.set (l * 2 + 1) true).set (k * 2) true).getD (i * 2) false = J.getD (i * 2) false := by rw [g, if_neg (by omega), if_neg (by omega)]
    have gB : ((J.set (l * 2 + 1) true).set (k * 2) true).getD (i * 2 + 1) false = if i = l then true else J.getD (i * 2 + 1) false := by
      rw [g, if_neg (by omega)]
      by_cases e : i = l
      · rw [if_pos e, if_pos (by omega)]
      · rw [if_neg e, if_neg (by omega)]
    rw [gA, gB]
    have e1 : nth (if jlt (nth L k) = true then (if jlt (nth L l) = true then (fms L J).set l (nxf (nth (fms L J) l)) else fms L J).set k 3 else (if jlt (nth L l) = true then (fms L J).set l (nxf (nth (fms L J) l)) else fms L J)) i = nth (if jlt (nth L l) = true then (fms L J).set l (nxf (nth (fms L J) l)) else fms L J) i := by
      split
      · rw [nth_set _ _ _ _ (by rw [hlG]; exact hk), if_neg ek]
      · rfl
    rw [e1]
    by_cases el : i = l
    · subst el
      rw [if_pos rfl]
      by_cases q : jlt (nth L i) = true
      · rw [if_pos q, if_pos q, nth_set _ _ _ _ (by rw [fms_len]; omega), if_pos rfl, fms_at _ _ _ hi', if_pos q, nxf_frm]
      · rw [if_neg q, if_neg q, fms_at _ _ _ hi', if_neg q]
    · rw [if_neg el]
      split
      · rw [nth_set _ _ _ _ (by rw [fms_len]; omega), if_neg el, fms_at _ _ _ hi']
      · rw [fms_at _ _ _ hi']
/-- The forms of points. -/
def frs (L : List Int) : List Int := fms L (jst L L.length).2
theorem frs_len (L : List Int) : (frs L).length = L.length := fms_len _ _
end Go.Proofs.YtfldomifooihlaaGreatDoor.Shp
