/- The specification's normal form of points. -/
import Derived.Test.YtecbbifepbgmlaaDoorCmaS
import Derived.Test.YtecbbifepbgmlaaDoorDecL
import Derived.Deep.CutRange
import Derived.Test.YtecbbifepbgmlaaDoorStpC
import Derived.Test.YtecbbifepbgmlaaDoorAppG
namespace Go.Proofs.YtecbbifepbgmlaaDoor
open Go.RowKit
def nrmA (k : Bool) (l : List Int) : List Int := l.flatMap (allF k 2)
def isC (f : Int) : Bool := decide (f = 2 ∨ f = 4)
/-- Points in a form. -/
def nrmL (f : Int) (l : List Int) : List Int := if isC f = true then (cmpQ (ordL (nrmA (isK f) l))).1 else ordL (nrmA (isK f) l)
theorem nrmA_len (k : Bool) : ∀ (l : List Int), (nrmA k l).length ≤ 4 * l.length
  | [] => by simp [nrmA]
  | x :: l => by
    have h1 := nrmA_len k l
    have h2 := (allF_len k 2 x).2
    have h3 : nrmA k (x :: l) = allF k 2 x ++ nrmA k l := by simp [nrmA]
    rw [h3, List.length_append, List.length_cons]
    omega
theorem nums_oneN (l : List Int) : ∀ u ∈ l.map (Value.int .i64), u.oneCell' = true := fun u hu => by
  obtain ⟨z, _, rfl⟩ := List.mem_map.1 hu
  rfl
theorem row_src {w : World} {B g n cap : Nat} {L : List Int} (h : w.ownsRow B 2 1 (.slice (some ⟨g, 0, none⟩) n cap) n (L.map (Value.int .i64))) : ∀ j u, (L.map (Value.int .i64))[j]? = some u → w.cell? ((⟨g, 0, none⟩ : Addr).add j) = some u := fun j u hj => by
  have hl : n = L.length := by have := h.1; simp at this; exact this.symm
  have hm : j < L.length := by
    have := (List.getElem?_eq_some_iff.1 hj).1
    simpa using this
  rw [addr_add, Nat.zero_add, h.cellAt j (by omega)]
  exact hj
theorem row_down {w : World} {B B' n : Nat} {v : Value} {xs : List Value} (h : w.ownsRow B 2 1 v n xs) (hb : B' ≤ B) : w.ownsRow B' 2 1 v n xs := by
  refine ⟨h.1, ?_⟩
  rcases h.2 with h' | ⟨g, cap, cur, hv, hg, r⟩
  · exact .inl h'
  · exact .inr ⟨g, cap, cur, hv, Nat.le_trans hb hg, r⟩
end Go.Proofs.YtecbbifepbgmlaaDoor
