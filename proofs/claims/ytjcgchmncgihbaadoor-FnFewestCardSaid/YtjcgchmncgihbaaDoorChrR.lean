/- The rules of characters, each by itself, as the program tells them. -/
import Derived.Test.YtjcgchmncgihbaaDoorChrJ
namespace Go.Proofs.YtjcgchmncgihbaaDoor
namespace Chr
open Go.RowKit
def rl (k : Nat) (x : Pl) : Bool :=
  match k with
  | 0 => x.l == 13 && x.r == 10
  | 1 => ctl x.l || ctl x.r
  | 2 => sylI x.l x.r
  | 3 => mrk x.r
  | 4 => x.d && (decide (1536 ≤ x.r) && decide (x.r ≤ 1567))
  | 5 => pic x.b && x.l == 7936 && pic x.r
  | _ => x.f % 2 == 1 && flg x.r
def Silent (k : Nat) (x : Pl) : Prop := ∀ j, j < k → rl j x = false
theorem Silent.succ {k : Nat} {x : Pl} (h : Silent k x) (hk : rl k x = false) : Silent (k + 1) x := by
  intro j hj
  by_cases e : j = k
  · rw [e]; exact hk
  · exact h j (by omega)
theorem dec_rl (x : Pl) : decI x = if rl 0 x then false else if rl 1 x then true else if rl 2 x then false else if rl 3 x then false else if rl 4 x then false else if rl 5 x then false else if rl 6 x then false else true := rfl
theorem dec_hit {k : Nat} {x : Pl} (hk : k < 7) (h : Silent k x) (hr : rl k x = true) : decI x = (k == 1) := by
  rw [dec_rl]
  have e : k = 0 ∨ k = 1 ∨ k = 2 ∨ k = 3 ∨ k = 4 ∨ k = 5 ∨ k = 6 := by omega
  rcases e with rfl | rfl | rfl | rfl | rfl | rfl | rfl
  · simp [hr]
  · simp [hr, h 0 (by decide)]
  · simp [hr, h 0 (by decide), h 1 (by decide)]
  · simp [hr, h 0 (by decide), h 1 (by decide), h 2 (by decide)]
  · simp [hr, h 0 (by decide), h 1 (by decide), h 2 (by decide), h 3 (by decide)]
  · simp [hr, h 0 (by decide), h 1 (by decide), h 2 (by decide), h 3 (by decide), h 4 (by decide)]
  · simp [hr, h 0 (by decide), h 1 (by decide), h 2 (by decide), h 3 (by decide), h 4 (by decide), h 5 (by decide)]
theorem dec_none {x : Pl} (h : Silent 7 x) : decI x = true := by
  rw [dec_rl]
  simp [h 0 (by decide), h 1 (by decide), h 2 (by decide), h 3 (by decide), h 4 (by decide), h 5 (by decide), h 6 (by decide)]
theorem bel1 (w : World) (a : Obj) : Below w.heap.size w (w.alloc a) := (Below.refl _ _).alloc (Nat.le_refl _) _
theorem bel2 (w : World) (a b : Obj) : Below w.heap.size w ((w.alloc a).alloc b) := (bel1 w a).alloc (by simp) _
end Chr
end Go.Proofs.YtjcgchmncgihbaaDoor
