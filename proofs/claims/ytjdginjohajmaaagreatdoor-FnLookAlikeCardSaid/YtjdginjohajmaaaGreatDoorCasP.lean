/- Case in plain numbers: the blocks of the program and the rules of the specification tell of every point the same. No Go in sight. -/
namespace Go.Proofs.YtjdginjohajmaaaGreatDoor
namespace Cas
abbrev B4 := Int × Int × Int × Int
def pt (p : Int) : Prop := 0 ≤ p ∧ p ≤ 1114111 ∧ (p < 55296 ∨ 57343 < p)
def tw (p : Int) : Int := if 768 ≤ p ∧ p < 1280 then 512 + p % 256 else p
def blkRow (b : B4) (q : Int) : Option (Int × Int × Int) :=
  if b.1 ≤ q ∧ q ≤ b.1 + b.2.1 - 1 then some (q, q + b.2.2.1, q + b.2.2.2)
  else if b.1 ≤ q - b.2.2.1 ∧ q - b.2.2.1 ≤ b.1 + b.2.1 - 1 then some (q - b.2.2.1, q - b.2.2.1 + b.2.2.1, q - b.2.2.1 + b.2.2.2)
  else if b.1 ≤ q - b.2.2.2 ∧ q - b.2.2.2 ≤ b.1 + b.2.1 - 1 then some (q - b.2.2.2, q - b.2.2.2 + b.2.2.1, q - b.2.2.2 + b.2.2.2)
  else none
def blks : List B4 := [(65, 26, 0, 32), (512, 32, 0, 32), (576, 4, 4, 8), (8192, 208, 0, 208), (8704, 208, 0, 208), (9216, 208, 0, 208)]
def lone (q : Int) : Option (Int × Int × Int) :=
  if q = 609 then some (530, 530, q) else if 9728 ≤ q ∧ q ≤ 9753 then some (q, q, q - 9728 + 97) else none
def mv (p q : Int) (r : Int × Int × Int) : Int × Int × Int := (r.1 + p - q, r.2.1 + p - q, r.2.2 + p - q)
def rowFrom (l : List B4) (p q : Int) : Int × Int × Int :=
  match l with
  | [] => (match lone q with | some r => mv p q r | none => (p, p, p))
  | b :: t => (match blkRow b q with | some r => mv p q r | none => rowFrom t p q)
def row (p : Int) : Int × Int × Int := rowFrom blks p (tw p)
/-- The specification's three letters of a point. -/
def three (p : Int) : Option (Int × Int × Int) :=
  if 65 ≤ p ∧ p ≤ 90 then some (p, p, p + 32)
  else if 97 ≤ p ∧ p ≤ 122 then some (p - 32, p - 32, p)
  else if 8192 ≤ p ∧ p < 9728 ∧ p % 512 < 416 then (if 208 ≤ p % 512 then some (p - 208, p - 208, p) else some (p, p, p + 208))
  else if p < 512 ∨ 1280 ≤ p then none
  else if p % 256 < 64 then some (p - p % 256 + p % 256 % 32, p - p % 256 + p % 256 % 32, p - p % 256 + p % 256 % 32 + 32)
  else if p % 256 < 76 then some (p - p % 256 + 64 + p % 256 % 4, p - p % 256 + 64 + p % 256 % 4 + 4, p - p % 256 + 64 + p % 256 % 4 + 8)
  else none
def lowS (p : Int) : Int := if 9728 ≤ p ∧ p ≤ 9753 then p - 9728 + 97 else (match three p with | some r => r.2.2 | none => p)
def bl (p : Int) : Int := if p < 512 ∨ 1280 ≤ p then 0 else p / 256 * 256
def upS (p : Int) : Int := if 0 < bl p ∧ p = bl p + 97 then bl p + 18 else (match three p with | some r => r.1 | none => p)
def titS (p : Int) : Int := if 0 < bl p ∧ p = bl p + 97 then bl p + 18 else (match three p with | some r => r.2.1 | none => p)
theorem small : ((List.range 9754).all fun n => decide (row (n : Int) = (upS n, titS n, lowS n))) = true := by decide +kernel
theorem row_is (p : Int) (hp : 0 ≤ p) : row p = (upS p, titS p, lowS p) := by
  by_cases h : p < 9754
  · have := List.all_eq_true.1 small p.toNat (by simp; omega)
    simp only [decide_eq_true_eq] at this
    rwa [Int.toNat_of_nonneg hp] at this
  · have ht : tw p = p := by unfold tw; rw [if_neg (by omega)]
    have e1 : three p = none := by
      unfold three; rw [if_neg (by omega), if_neg (by omega), if_neg (by omega), if_pos (by omega)]
    have e2 : bl p = 0 := by unfold bl; rw [if_pos (by omega)]
    have e3 : ∀ b : B4, b ∈ blks → blkRow b p = none := by
      intro b hb
      simp only [blks, List.mem_cons, List.not_mem_nil, or_false] at hb
      unfold blkRow
      rcases hb with rfl | rfl | rfl | rfl | rfl | rfl <;> (simp only []; rw [if_neg (by omega), if_neg (by omega), if_neg (by omega)])
    have e4 : lone p = none := by unfold lone; rw [if_neg (by omega), if_neg (by omega)]
    have e5 : ∀ l : List B4, (∀ b, b ∈ l → blkRow b p = none) → rowFrom l p p = (p, p, p) := by
      intro l
      induction l with
      | nil => intro _; simp only [rowFrom, e4]
      | cons b t ih => intro hb; simp only [rowFrom, hb b (by simp)]; exact ih fun c hc => hb c (by simp [hc])
    unfold row
    rw [ht, e5 _ e3]
    unfold upS titS lowS
    rw [e1, e2, if_neg (by omega), if_neg (by omega)]
end Cas
end Go.Proofs.YtjdginjohajmaaaGreatDoor
