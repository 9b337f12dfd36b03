/- The specification's row of points composed. -/
import Derived.Test.YtecbbifepbgmlaaDoorCmaP
import Derived.Test.YtecbbifepbgmlaaDoorMI
namespace Go.Proofs.YtecbbifepbgmlaaDoor
open Go.RowKit
/-- The first i points are composed. -/
def CSt (w wr : World) (L : List Int) (i d : Nat) (st : Int) (g cap : Nat) : Prop := ∃ D, cmpQ (L.take i) = (D, st) ∧ d = D.length ∧ wr.ownsRow w.heap.size 2 1 (.slice (some ⟨g, 0, none⟩) d cap) d (D.map (Value.int .i64)) ∧ Below w.heap.size w wr
theorem own_drewN {w : World} {B n : Nat} {v : Value} {xs : List Value} (h : w.ownsRow B 2 1 v n xs) (m : Nat) : (w.drewN m).ownsRow B 2 1 v n xs := h
theorem cell_at {w : World} {B n g cap : Nat} {D : List Int} (h : w.ownsRow B 2 1 (.slice (some ⟨g, 0, none⟩) n cap) n (D.map (Value.int .i64))) (k : Nat) (hk : k < n) : w.cell? ⟨g, k, none⟩ = some (.int .i64 (nth D k)) := by
  obtain ⟨Bq, s, _, _, _, hn, _⟩ := own_seg h
  exact s.cell0 k (by omega)
theorem set_at {w : World} {B n g cap : Nat} {D : List Int} (h : w.ownsRow B 2 1 (.slice (some ⟨g, 0, none⟩) n cap) n (D.map (Value.int .i64))) (k : Nat) (hk : k < n) (x : Int) : w.frozen? ⟨g, k, none⟩ = false ∧ (w.setCell ⟨g, k, none⟩ (.int .i64 x)).ownsRow B 2 1 (.slice (some ⟨g, 0, none⟩) n cap) n ((D.set k x).map (Value.int .i64)) ∧ ∀ w0, B ≤ w.heap.size → Below B w0 w → Below B w0 (w.setCell ⟨g, k, none⟩ (.int .i64 x)) := by
  obtain ⟨Bq, s, h1, h2, h3, hn, h4⟩ := own_seg h
  have s2 := s.set0 k (by omega) x
  exact ⟨s.frozen0 k, seg_own s2 h1 (by simpa using hn) h4 h3, fun w0 h0 hb => hb.trans (s2.below h0 h1)⟩
theorem all_take {D : List Int} {s k : Nat} {c : Int} (hs : s + 1 ≤ k) (hk : k < D.length) : ((D.take (k + 1)).drop (s + 1)).all (okM c) = (((D.take k).drop (s + 1)).all (okM c) && okM c (nth D k)) := by
  have e : nth D k = D[k] := by simp [nth, List.getD, hk]
  rw [List.take_succ_eq_append_getElem hk, List.drop_append_of_le_length (by rw [List.length_take]; omega), List.all_append, e]
  simp
theorem all_false {D : List Int} {s k : Nat} {c : Int} (h : ((D.take k).drop (s + 1)).all (okM c) = false) : (D.drop (s + 1)).all (okM c) = false := by
  cases e : (D.drop (s + 1)).all (okM c) with
  | false => rfl
  | true =>
    rw [List.drop_take] at h
    have : ((D.drop (s + 1)).take (k - (s + 1))).all (okM c) = true := List.all_eq_true.2 (fun x hx => List.all_eq_true.1 e x (List.mem_of_mem_take hx))
    rw [this] at h
    cases h
end Go.Proofs.YtecbbifepbgmlaaDoor
