/- Vowels that stand ahead of their consonants, told without memory: what is held back, and what is found by going back, are one. -/
import Derived.Test.YthmbnlgcfibjeaaDoorInts
namespace Go.Proofs.YthmbnlgcfibjeaaDoor.Gly
open Go.RowKit
set_option linter.unusedVariables false
def vwa (p : Int) : Bool := (decide (1568 ≤ p) && decide (p ≤ 1579)) && decide (p.tmod 2 = 0)
def con (p : Int) : Bool := decide (1536 ≤ p) && decide (p ≤ 1567)
def bin (p : Int) : Bool := p == 1584 || p == 1585
/-- Going back: over strokes and dots to a consonant (false), over dots to a stroke (true). -/
def fS : List Int → Bool → Nat → Nat
  | [], _, s => s
  | x :: t, false, s => if bin x = true then fS t false s else if con x = true then fS t true t.length else s
  | x :: t, true, s => if (x == 1585) = true then fS t true s else if (x == 1584) = true then fS t false s else s
def fA (r : List Int) (s : Nat) : Nat := fS r false s
def fB (r : List Int) (s : Nat) : Nat := fS r true s
theorem fA_nil (s : Nat) : fA [] s = s := rfl
theorem fB_nil (s : Nat) : fB [] s = s := rfl
theorem fA_cons (x : Int) (t : List Int) (s : Nat) : fA (x :: t) s = if bin x = true then fA t s else if con x = true then fB t t.length else s := rfl
theorem fB_cons (x : Int) (t : List Int) (s : Nat) : fB (x :: t) s = if (x == 1585) = true then fB t s else if (x == 1584) = true then fA t s else s := rfl
theorem con_bin {p : Int} (h : con p = true) : bin p = false := by
  unfold con at h; unfold bin
  simp at h ⊢
  omega
theorem vwa_con {p : Int} (h : vwa p = true) : con p = false ∧ bin p = false := by
  unfold vwa at h; unfold con bin
  simp at h ⊢
  omega
/-- Nothing ahead binds. -/
def Stp (r : List Int) : Prop := ∀ s, fB r s = s
theorem stp_of (r : List Int) (h : ∀ s, fA r s = s) : Stp r := by
  induction r with
  | nil => exact fun s => fB_nil s
  | cons x t ih =>
    intro s
    rw [fB_cons]
    by_cases h1 : (x == 1585) = true
    · rw [if_pos h1]
      exact ih (fun s => by
        have := h s
        rw [fA_cons, if_pos (by unfold bin; rw [h1]; simp)] at this
        exact this) s
    · rw [if_neg h1]
      by_cases h2 : (x == 1584) = true
      · rw [if_pos h2]
        have := h s
        rw [fA_cons, if_pos (by unfold bin; rw [h2]; simp)] at this
        exact this
      · rw [if_neg h2]
theorem stp_x {x : Int} {t : List Int} (h : bin x = false) : Stp (x :: t) := by
  intro s
  unfold bin at h
  simp at h
  rw [fB_cons, if_neg (by simpa using h.2), if_neg (by simpa using h.1)]
/-- What is laid, what is held back, and whether it binds. -/
structure St where
  laid : List (Int × Int × Int)
  held : List (Int × Int × Int)
  bd : Bool
def ids (G : List (Int × Int × Int)) : List Int := G.map (·.1)
def settle (s : St) : St := ⟨s.laid ++ s.held, [], false⟩
def lay (s : St) (g : Int × Int × Int) : St :=
  if vwa g.1 = true then ⟨s.laid ++ [g], s.held, s.bd⟩
  else if con g.1 = true then (if s.bd = true then ⟨s.laid, s.held ++ [g], false⟩ else ⟨s.laid ++ s.held, [g], false⟩)
  else if bin g.1 = true ∧ s.held ≠ [] then ⟨s.laid, s.held ++ [g], s.bd || (g.1 == 1584)⟩
  else ⟨s.laid ++ s.held ++ [g], [], false⟩
/-- Where a glyph goes, as the specification tells it. -/
def ins (O : List (Int × Int × Int)) (g : Int × Int × Int) : List (Int × Int × Int) :=
  if vwa g.1 = true then O.take (fA (ids O).reverse O.length) ++ g :: O.drop (fA (ids O).reverse O.length) else O ++ [g]
structure Inv (s : St) : Prop where
  none : s.held = [] → s.bd = false ∧ ∀ n, fA (ids s.laid).reverse n = n
  stp : s.held ≠ [] → Stp (ids s.laid).reverse
  grp : s.held ≠ [] → ∀ z, Stp z → (∀ n, fA ((ids s.held).reverse ++ z) n = z.length) ∧ (s.bd = true → ∀ n, fB ((ids s.held).reverse ++ z) n = z.length) ∧ (s.bd = false → ∀ n, fB ((ids s.held).reverse ++ z) n = n)
theorem ids_snoc (G : List (Int × Int × Int)) (g : Int × Int × Int) : (ids (G ++ [g])).reverse = g.1 :: (ids G).reverse := by simp [ids]
theorem ids_app (G H : List (Int × Int × Int)) : (ids (G ++ H)).reverse = (ids H).reverse ++ (ids G).reverse := by simp [ids]
theorem inv_zero : Inv ⟨[], [], false⟩ := ⟨fun _ => ⟨rfl, fun n => fA_nil n⟩, fun h => absurd rfl h, fun h => absurd rfl h⟩
theorem inv_lay (s : St) (g : Int × Int × Int) (I : Inv s) : Inv (lay s g) := by
  unfold lay
  by_cases hv : vwa g.1 = true
  · rw [if_pos hv]
    obtain ⟨hc, hb⟩ := vwa_con hv
    refine ⟨fun h => ⟨(I.none h).1, fun n => ?_⟩, fun h => ?_, I.grp⟩
    · dsimp only
      rw [ids_snoc, fA_cons, if_neg (by simp [hb]), if_neg (by simp [hc])]
    · dsimp only
      rw [ids_snoc]
      exact stp_x hb
  · rw [if_neg hv]
    by_cases hc : con g.1 = true
    · rw [if_pos hc]
      have hb := con_bin hc
      have one : ∀ z, Stp z → (∀ n, fA (g.1 :: z) n = z.length) ∧ ∀ n, fB (g.1 :: z) n = n := fun z hz =>
        ⟨fun n => by rw [fA_cons, if_neg (by simp [hb]), if_pos hc]; exact hz _, fun n => stp_x hb n⟩
      by_cases hd : s.bd = true
      · rw [if_pos hd]
        have hh : s.held ≠ [] := fun h => by rw [(I.none h).1] at hd; cases hd
        refine ⟨fun h => by simp at h, fun _ => I.stp hh, fun _ z hz => ⟨fun n => ?_, (fun h => by cases h), fun _ n => ?_⟩⟩
        · dsimp only
          rw [ids_snoc, List.cons_append, fA_cons, if_neg (by simp [hb]), if_pos hc]
          exact (I.grp hh z hz).2.1 hd _
        · dsimp only
          rw [ids_snoc, List.cons_append]
          exact stp_x hb n
      · rw [if_neg hd]
        have hd' : s.bd = false := by simpa using hd
        refine ⟨fun h => by simp at h, fun _ => ?_, fun _ z hz => ⟨fun n => ?_, (fun h => by cases h), fun _ n => ?_⟩⟩
        · dsimp only
          rw [ids_app]
          by_cases hh : s.held = []
          · rw [hh]
            exact stp_of _ (I.none hh).2
          · exact fun n => (I.grp hh _ (I.stp hh)).2.2 hd' n
        · exact (one z hz).1 n
        · exact (one z hz).2 n
    · rw [if_neg hc]
      by_cases hb : bin g.1 = true ∧ s.held ≠ []
      · rw [if_pos hb]
        obtain ⟨hb, hh⟩ := hb
        refine ⟨fun h => by simp at h, fun _ => I.stp hh, fun _ z hz => ⟨fun n => ?_, fun h n => ?_, fun h n => ?_⟩⟩
        · dsimp only
          rw [ids_snoc, List.cons_append, fA_cons, if_pos hb]
          exact (I.grp hh z hz).1 n
        · dsimp only at h ⊢
          rw [ids_snoc, List.cons_append, fB_cons]
          by_cases h1 : (g.1 == 1585) = true
          · rw [if_pos h1]
            have h2 : (g.1 == 1584) = false := by simp at h1 ⊢; omega
            rw [h2, Bool.or_false] at h
            exact (I.grp hh z hz).2.1 h n
          · rw [if_neg h1]
            have h2 : (g.1 == 1584) = true := by unfold bin at hb; simpa [h1] using hb
            rw [if_pos h2]
            exact (I.grp hh z hz).1 n
        · dsimp only at h ⊢
          rw [ids_snoc, List.cons_append, fB_cons]
          have h' : s.bd = false ∧ (g.1 == 1584) = false := by simpa using h
          have h1 : (g.1 == 1585) = true := by unfold bin at hb; simpa [h'.2] using hb
          rw [if_pos h1]
          exact (I.grp hh z hz).2.2 h'.1 n
      · rw [if_neg hb]
        refine ⟨fun _ => ⟨rfl, fun n => ?_⟩, fun h => absurd rfl h, fun h => absurd rfl h⟩
        dsimp only
        rw [ids_snoc, fA_cons]
        by_cases h1 : bin g.1 = true
        · have hh : s.held = [] := by
            by_cases e : s.held = []
            · exact e
            · exact absurd ⟨h1, e⟩ hb
          rw [if_pos h1, hh, List.append_nil]
          exact (I.none hh).2 n
        · rw [if_neg h1, if_neg hc]
theorem lay_eq (s : St) (g : Int × Int × Int) (I : Inv s) : (lay s g).laid ++ (lay s g).held = ins (s.laid ++ s.held) g := by
  unfold lay ins
  by_cases hv : vwa g.1 = true
  · rw [if_pos hv, if_pos hv]
    have e : fA (ids (s.laid ++ s.held)).reverse (s.laid ++ s.held).length = s.laid.length := by
      by_cases hh : s.held = []
      · rw [hh, List.append_nil]
        exact (I.none hh).2 _
      · rw [ids_app, ((I.grp hh _ (I.stp hh)).1)]
        simp [ids]
    rw [e]
    simp
  · rw [if_neg hv, if_neg hv]
    by_cases hc : con g.1 = true
    · rw [if_pos hc]
      by_cases hd : s.bd = true
      · rw [if_pos hd]; simp
      · rw [if_neg hd]
    · rw [if_neg hc]
      by_cases hb : bin g.1 = true ∧ s.held ≠ []
      · rw [if_pos hb]; simp
      · rw [if_neg hb]; simp
/-- The state behind the first k glyphs of a row; the row as the specification lays it. -/
def stK (G : List (Int × Int × Int)) : Nat → St
  | 0 => ⟨[], [], false⟩
  | k + 1 => match G[k]? with
    | some g => lay (stK G k) g
    | none => stK G k
def inK (G : List (Int × Int × Int)) : Nat → List (Int × Int × Int)
  | 0 => []
  | k + 1 => match G[k]? with
    | some g => ins (inK G k) g
    | none => inK G k
theorem stK_inv (G : List (Int × Int × Int)) (k : Nat) : Inv (stK G k) := by
  induction k with
  | zero => exact inv_zero
  | succ k ih =>
    rw [stK]
    cases e : G[k]? with
    | none => exact ih
    | some g => exact inv_lay _ g ih
theorem stK_in (G : List (Int × Int × Int)) (k : Nat) : (stK G k).laid ++ (stK G k).held = inK G k := by
  induction k with
  | zero => rfl
  | succ k ih =>
    rw [stK, inK]
    cases e : G[k]? with
    | none => exact ih
    | some g => dsimp only; rw [lay_eq _ g (stK_inv G k), ih]
theorem ins_len (O : List (Int × Int × Int)) (g : Int × Int × Int) (h : fA (ids O).reverse O.length ≤ O.length) : (ins O g).length = O.length + 1 := by
  unfold ins
  split
  · simp; omega
  · simp
end Go.Proofs.YthmbnlgcfibjeaaDoor.Gly
