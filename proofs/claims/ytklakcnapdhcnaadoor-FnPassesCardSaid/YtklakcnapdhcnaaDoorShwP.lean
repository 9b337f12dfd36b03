/- Texts of passes, in plain numbers. -/
import Derived.Test.YtklakcnapdhcnaaDoorPasP
namespace Go.Proofs.YtklakcnapdhcnaaDoor.Pas
open Go.RowKit
set_option linter.unusedVariables false
def sgnB (b : Nat) : Bool := b == 91 || (b == 93 || (b == 62 || (b == 124 || (b == 58 || (b == 32 || b == 92)))))
/-- How a byte stands in a text of a rule. -/
def esc (b : Nat) : List Int := if b = 10 then [92, 110] else if sgnB b = true then [92, (b : Int)] else [(b : Int)]
theorem esc_nl {b : Nat} (h : b = 10) : esc b = [92, 110] := if_pos h
theorem esc_sg {b : Nat} (h : ¬ b = 10) (h2 : sgnB b = true) : esc b = [92, (b : Int)] := by unfold esc; rw [if_neg h, if_pos h2]
theorem esc_no {b : Nat} (h : ¬ b = 10) (h2 : sgnB b = false) : esc b = [(b : Int)] := by unfold esc; rw [if_neg h, if_neg (by rw [h2]; simp)]
theorem esc_len (b : Nat) : (esc b).length ≤ 2 := by
  unfold esc
  split
  · simp
  · split <;> simp
def shk (t : ByteArray) : Nat → List Int
  | 0 => []
  | k + 1 => shk t k ++ esc (bt t k)
def shw (t : ByteArray) : List Int := shk t t.size
theorem shk_len (t : ByteArray) (k : Nat) : (shk t k).length ≤ 2 * k := by
  induction k with
  | zero => simp [shk]
  | succ k ih =>
    have := esc_len (bt t k)
    have e : shk t (k + 1) = shk t k ++ esc (bt t k) := rfl
    rw [e, List.length_append]
    omega
def bars (g : Int) : List Int := if 0 < g then 32 :: List.replicate g.toNat 124 else []
def line (r : Ru) : List Int := shw r.1 ++ [91] ++ shw r.2.1 ++ [93] ++ shw r.2.2.1 ++ [32, 62, 32] ++ shw r.2.2.2.1 ++ bars r.2.2.2.2 ++ [10]
def nam (n : Int) : List Int := if n = 0 then [110, 111, 110, 101] else if n = 1 then [68] else if n = 2 then [67] else if n = 3 then [75, 68] else [75, 67]
def lns (L : List Ru) : Nat → List Int
  | 0 => []
  | k + 1 => lns L k ++ line (gr L k)
def txt (P : List Pa) : Nat → List Int
  | 0 => []
  | k + 1 => txt P k ++ ([58] ++ nam (gp P k).2 ++ [10] ++ lns (gp P k).1 (gp P k).1.length)
theorem sg_small (b : Nat) (h : 128 ≤ b) : esc b = [(b : Int)] := by
  refine esc_no (by omega) ?_
  unfold sgnB
  simp
  omega
theorem nam_len (n : Int) : (nam n).length ≤ 4 := by unfold nam; split <;> (try split) <;> (try split) <;> (try split) <;> simp
theorem bars_len (g : Int) (h : g ≤ 20) : (bars g).length ≤ 21 := by
  unfold bars
  split
  · simp; omega
  · simp
end Go.Proofs.YtklakcnapdhcnaaDoor.Pas
