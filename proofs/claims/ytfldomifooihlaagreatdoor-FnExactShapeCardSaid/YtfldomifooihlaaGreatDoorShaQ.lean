/- Glyphs placed one behind the other (pure). -/
import Derived.Test.YtfldomifooihlaaGreatDoorHS1
import Derived.Test.YtfldomifooihlaaGreatDoorHR1
import Derived.Test.YtfldomifooihlaaGreatDoorMG
namespace Go.Proofs.YtfldomifooihlaaGreatDoor
namespace Sha
open Go.RowKit Fnt Rul
set_option linter.unusedVariables false
/-- What a font tells: its width, the spans of widths, the kerns, the anchors. -/
structure Ft where
  wd : Int
  lw : List Sp
  lk : List Sp
  la : List Sp
/-- How far the glyphs reach, and the last one that is no mark: its number and where it begins. -/
abbrev At := Int × Option (Int × Int)
def pa (o : Option (Int × Int)) (z : Int) : Int := match o with
  | none => z
  | some b => wrap64 (b.2 + z)
def px (f : Ft) (s : At) (id : Int) : Int := match s.2 with
  | none => s.1
  | some b => wrap64 (s.1 + kerS f.lk b.1 id)
def one (f : Ft) (s : At) (g : Gl) : Gl × At :=
  if Chr.cat g.1 = 3 then ((g.1, g.2.1, g.2.2.1, pa s.2 (valS f.la g.1 0), g.2.2.2.2), s)
  else ((g.1, g.2.1, g.2.2.1, px f s g.1, valS f.lw g.1 f.wd), (wrap64 (px f s g.1 + valS f.lw g.1 f.wd), some (g.1, px f s g.1)))
def run (f : Ft) (G : List Gl) : Nat → List Gl × At
  | 0 => ([], (0, none))
  | k + 1 => ((run f G k).1 ++ [(one f (run f G k).2 (gat G k)).1], (one f (run f G k).2 (gat G k)).2)
theorem run_len (f : Ft) (G : List Gl) (k : Nat) : (run f G k).1.length = k := by
  induction k with
  | zero => rfl
  | succ k ih => simp [run, ih]
/-- The row while the first k are placed. -/
def mid (f : Ft) (G : List Gl) (k : Nat) : List Gl := (run f G k).1 ++ G.drop k
theorem mid_len (f : Ft) (G : List Gl) (k : Nat) (h : k ≤ G.length) : (mid f G k).length = G.length := by
  unfold mid
  rw [List.length_append, run_len, List.length_drop]
  omega
theorem drop_gat (G : List Gl) (k : Nat) (h : k < G.length) : G.drop k = gat G k :: G.drop (k + 1) := by
  rw [List.drop_eq_getElem_cons h]
  simp [gat, List.getD, h]
theorem mid_at (f : Ft) (G : List Gl) (k : Nat) (h : k < G.length) : mid f G k = (run f G k).1 ++ gat G k :: G.drop (k + 1) := by
  unfold mid
  rw [drop_gat G k h]
theorem mid_succ (f : Ft) (G : List Gl) (k : Nat) : mid f G (k + 1) = (run f G k).1 ++ (one f (run f G k).2 (gat G k)).1 :: G.drop (k + 1) := by
  unfold mid
  show ((run f G k).1 ++ [(one f (run f G k).2 (gat G k)).1]) ++ G.drop (k + 1) = _
  simp
theorem mid_all (f : Ft) (G : List Gl) : mid f G G.length = (run f G G.length).1 := by
  unfold mid
  simp
theorem mid_zero (f : Ft) (G : List Gl) : mid f G 0 = G := by simp [mid, run]
theorem flt_cons (g : Gl) (T : List Gl) : flt (g :: T) = [g.1, g.2.1, g.2.2.1, g.2.2.2.1, g.2.2.2.2] ++ flt T := by simp [flt, cel]
theorem flt_setX (A T : List Gl) (g : Gl) (x : Int) : (flt (A ++ g :: T)).set (A.length * 5 + 3) x = flt (A ++ (g.1, g.2.1, g.2.2.1, x, g.2.2.2.2) :: T) := by
  rw [flt_app, flt_app, flt_cons, flt_cons, ← flt_len A, List.set_append_right _ _ (by omega), Nat.add_sub_cancel_left]
  rfl
theorem flt_setW (A T : List Gl) (g : Gl) (x : Int) : (flt (A ++ g :: T)).set (A.length * 5 + 4) x = flt (A ++ (g.1, g.2.1, g.2.2.1, g.2.2.2.1, x) :: T) := by
  rw [flt_app, flt_app, flt_cons, flt_cons, ← flt_len A, List.set_append_right _ _ (by omega), Nat.add_sub_cancel_left]
  rfl
theorem nth_fltA (A T : List Gl) (i j : Nat) (hi : i < A.length) (hj : j < 5) : nth (flt (A ++ T)) (i * 5 + j) = nth (cel (gat A i)) j := by
  rw [nth_flt (A ++ T) i j (by rw [List.length_append]; omega) hj]
  congr 2
  simp [gat, List.getD_eq_getElem?_getD, List.getElem?_append_left hi]
/-- Where the last one that is no mark stands. -/
def Bs (f : Ft) (G : List Gl) (k : Nat) (bi : Nat) : Prop := bi < k ∧ ∃ b, (run f G k).2.2 = some b ∧ (gat (run f G k).1 bi).1 = b.1 ∧ (gat (run f G k).1 bi).2.2.2.1 = b.2
theorem gat_snoc (A : List Gl) (g : Gl) (i : Nat) (h : i < A.length) : gat (A ++ [g]) i = gat A i := by
  simp [gat, List.getD_eq_getElem?_getD, List.getElem?_append_left h]
theorem gat_last (A : List Gl) (g : Gl) : gat (A ++ [g]) A.length = g := by
  simp [gat, List.getD_eq_getElem?_getD]
theorem Bs.mark {f : Ft} {G : List Gl} {k bi : Nat} (h : Bs f G k bi) (hm : Chr.cat (gat G k).1 = 3) : Bs f G (k + 1) bi := by
  obtain ⟨h1, b, h2, h3, h4⟩ := h
  have e : (run f G (k + 1)).2 = (run f G k).2 := by
    show (one f (run f G k).2 (gat G k)).2 = _
    unfold one
    rw [if_pos hm]
  refine ⟨by omega, b, by rw [e]; exact h2, ?_, ?_⟩
  · show (gat ((run f G k).1 ++ [_]) bi).1 = _
    rw [gat_snoc _ _ _ (by rw [run_len]; exact h1)]
    exact h3
  · show (gat ((run f G k).1 ++ [_]) bi).2.2.2.1 = _
    rw [gat_snoc _ _ _ (by rw [run_len]; exact h1)]
    exact h4
theorem none_mark {f : Ft} {G : List Gl} {k : Nat} (h : (run f G k).2.2 = none) (hm : Chr.cat (gat G k).1 = 3) : (run f G (k + 1)).2.2 = none := by
  show (one f (run f G k).2 (gat G k)).2.2 = _
  unfold one
  rw [if_pos hm]
  exact h
theorem Bs.new {f : Ft} {G : List Gl} {k : Nat} (hm : ¬ Chr.cat (gat G k).1 = 3) : Bs f G (k + 1) k := by
  have e : one f (run f G k).2 (gat G k) = (((gat G k).1, (gat G k).2.1, (gat G k).2.2.1, px f (run f G k).2 (gat G k).1, valS f.lw (gat G k).1 f.wd), (wrap64 (px f (run f G k).2 (gat G k).1 + valS f.lw (gat G k).1 f.wd), some ((gat G k).1, px f (run f G k).2 (gat G k).1))) := by
    unfold one
    rw [if_neg hm]
  refine ⟨by omega, ((gat G k).1, px f (run f G k).2 (gat G k).1), ?_, ?_, ?_⟩
  · show (one f (run f G k).2 (gat G k)).2.2 = _
    rw [e]
  · show (gat ((run f G k).1 ++ [_]) k).1 = _
    have := gat_last (run f G k).1 (one f (run f G k).2 (gat G k)).1
    rw [run_len] at this
    rw [this, e]
  · show (gat ((run f G k).1 ++ [_]) k).2.2.2.1 = _
    have := gat_last (run f G k).1 (one f (run f G k).2 (gat G k)).1
    rw [run_len] at this
    rw [this, e]
end Sha
end Go.Proofs.YtfldomifooihlaaGreatDoor
