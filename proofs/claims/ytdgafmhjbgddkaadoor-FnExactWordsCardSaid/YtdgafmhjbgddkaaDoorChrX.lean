/- The cuts of characters, as the specification tells them. -/
import Derived.Test.YtdgafmhjbgddkaaDoorChrU
import Derived.Test.YtdgafmhjbgddkaaDoorChrW
import Derived.Deep.Cut
namespace Go.Proofs.YtdgafmhjbgddkaaDoor
namespace Chr
open Go.RowKit
def bsS (L : List Int) : List Bool := (List.range L.length).map (fun i => i == 0 || charS L i)
theorem bsS_len (L : List Int) : (bsS L).length = L.length := by simp [bsS]
theorem bsS_at (L : List Int) (k : Nat) (h : k < L.length) : (bsS L).getD k false = (k == 0 || charS L k) := by simp [bsS, List.getD_eq_getElem?_getD, h]
theorem sts_eq (L : List Int) : sts L = bsS L := by
  unfold sts bsS
  apply List.map_congr_left
  intro i _
  cases i with
  | zero => rfl
  | succ i => show (i + 1 == 0 || decI (plc L (i + 1))) = _; rw [dec_eq]
theorem pts_pos {s : ByteArray} (h : 0 < s.size) : 0 < (pts s).length := lt_pts (s := s) (n := 0) (L := []) (pos := 0) rfl h
theorem nth_ats (s : ByteArray) (k : Nat) (h : k < (pts s).length) : nth (atsL s) k = ((steps s k).2 : Int) := by
  unfold atsL nth
  rw [List.getD_eq_getElem?_getD, List.getElem?_append_left (by rw [atl_len]; exact h)]
  simp [atl, h]
end Chr
end Go.Proofs.YtdgafmhjbgddkaaDoor
