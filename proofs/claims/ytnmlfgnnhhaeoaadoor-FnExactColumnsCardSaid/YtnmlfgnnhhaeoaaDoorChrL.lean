/- CharCuts of the program and of the specification, and the law. -/
import Derived.Test.YtnmlfgnnhhaeoaaDoorChrX
namespace Go.Proofs.YtnmlfgnnhhaeoaaDoor
namespace Chr
open Go.RowKit
def cutsOut (s : ByteArray) : List Int := if 65536 < s.size then [] else cutsL s (bsS (pts s))
theorem cutsOut_le (s : ByteArray) : (cutsOut s).length ≤ 65537 := by
  unfold cutsOut cutsL
  split
  · simp
  · split
    · simp
    · have h1 := ctk_len s (bsS (pts s)) (bsS (pts s)).length
      have h2 := bsS_len (pts s)
      have h3 := pts_le s
      simp
      omega
theorem sts_len (L : List Int) : (sts L).length = L.length := by simp [sts]
theorem own_mono {w : World} {B B2 n : Nat} {v : Value} {xs : List Value} (h : w.ownsRow B2 2 1 v n xs) (hb : B ≤ B2) : w.ownsRow B 2 1 v n xs := by
  refine ⟨h.1, ?_⟩
  rcases h.2 with h' | ⟨g, cap, cur, hv, hg, r⟩
  · exact .inl h'
  · exact .inr ⟨g, cap, cur, hv, by omega, r⟩
end Chr
end Go.Proofs.YtnmlfgnnhhaeoaaDoor
