/- What FeedNormer tells, and rows cut in two. -/
import Derived.Test.YtiecjledgmhffaaDoorEndI
import Derived.Laws.AppendOwnNone
namespace Go.Proofs.YtiecjledgmhffaaDoor
open Go.RowKit
/-- Where what is held begins. -/
def cutZ (k : Bool) (L : List Int) : Nat := (lastTo k L L.length).toNat
def badV (c : Int) : Value := .agg #[.int .i64 c, .int .i64 0, .string ⟨#[]⟩, .string ⟨#[]⟩]
def fedT (f : Int) (L : List Int) : ByteArray := strOfNums (textL (nrmL f (L.take (cutZ (isK f) L))))
def fedH (f : Int) (L : List Int) : ByteArray := strOfNums (textL (L.drop (cutZ (isK f) L)))
def feedV (f : Int) (h t : ByteArray) : Value :=
  if 65536 < t.size then badV 2 else if nfB f h = true then badV 1
  else if 65536 < (fedT f (pts h ++ pts t)).size then badV 2 else if 1000 < (fedH f (pts h ++ pts t)).size then badV 8
  else .agg #[.int .i64 0, .int .i64 f, .string (fedH f (pts h ++ pts t)), .string (fedT f (pts h ++ pts t))]
theorem cut_bd (k : Bool) (L : List Int) : cutZ k L ≤ L.length ∧ (0 < L.length → cutZ k L < L.length) := by
  have := lastTo_bd k L L.length
  unfold cutZ
  omega
theorem own_prefix {w : World} {B n g cap c : Nat} {L : List Int} (h : w.ownsRow B 2 1 (.slice (some ⟨g, 0, none⟩) n cap) n (L.map (Value.int .i64))) (hc : c ≤ n) : w.ownsRow B 2 1 (.slice (some ⟨g, 0, none⟩) c cap) c ((L.take c).map (Value.int .i64)) := by
  obtain ⟨Bq, S, h1, h2, h3, h4, h5⟩ := own_seg h
  refine seg_own (w0 := w) (Bq := (L.drop c).map (Value.int .i64) ++ Bq) ⟨?_, S.gr⟩ h1 (by simp; omega) (by simp; omega) h3
  rw [S.fu]
  congr 2
  rw [List.nil_append, List.nil_append, ← List.append_assoc, ← List.map_append, List.take_append_drop]
theorem ints_suffix {w : World} {B n g cap c : Nat} {L : List Int} (h : w.ownsRow B 2 1 (.slice (some ⟨g, 0, none⟩) n cap) n (L.map (Value.int .i64))) (hc : c ≤ n) (cap' : Nat) : IntsAt w (.slice (some ⟨g, c, none⟩) (n - c) cap') (L.drop c) := by
  have hl : n = L.length := by have := h.1; simp at this; exact this.symm
  have hgl := (h.lt g rfl).2
  refine ⟨_, _, by rw [List.length_drop, ← hl], .inr ⟨g, c, rfl, hgl, fun i hi => ?_⟩⟩
  rw [List.length_drop] at hi
  rw [cell_at h (c + i) (by omega)]
  simp [nth, List.getD]
theorem own_cap {w : World} {B n g cap : Nat} {L : List Int} (h : w.ownsRow B 2 1 (.slice (some ⟨g, 0, none⟩) n cap) n (L.map (Value.int .i64))) : n ≤ cap ∧ cap ≤ 9223372036854775807 := by
  obtain ⟨_, _, _, h1, h2, _, _⟩ := own_seg h
  unfold maxLen at h2
  exact ⟨h1, h2⟩
theorem own_some {w : World} {B n cap : Nat} {a : Option Addr} {xs : List Value} (h : w.ownsRow B 2 1 (.slice a n cap) n xs) (hc : 0 < cap) : ∃ g, (.slice a n cap : Value) = .slice (some ⟨g, 0, none⟩) n cap := by
  rcases h.2 with ⟨h1, _⟩ | ⟨g, cap', cur, hv, _⟩
  · injection h1 with _ _ h1
    omega
  · injection hv with h1 h2 h3
    exact ⟨g, by rw [h1]⟩
theorem own_cap0 {w : World} {B n cap : Nat} {a : Option Addr} {xs : List Value} (h : w.ownsRow B 2 1 (.slice a n cap) n xs) : n ≤ cap := by
  rcases h.2 with ⟨h1, h2⟩ | ⟨g, cap', cur, hv, _, _, h4, _⟩
  · omega
  · injection hv with h1 h2 h3
    omega
theorem ints_empty (w : World) (a : Option Addr) (cap : Nat) : IntsAt w (.slice a 0 cap) [] := ⟨a, cap, rfl, .inl rfl⟩
/-- The normer, the answer's place, and that nothing below has changed. -/
structure FSt (w W : World) (f : Int) (h : ByteArray) : Prop where
  nb : W.heap[w.heap.size]? = some (.cells #[.int .i64 f, .string h] 28 (0, 0))
  ob : W.heap[w.heap.size + 1]? = some (.cells #[.int .i64 0, .int .i64 0, .string ⟨#[]⟩, .string ⟨#[]⟩] 32 (0, 0))
  bel : Below w.heap.size w W
theorem FSt.lt {w W : World} {f : Int} {h : ByteArray} (s : FSt w W f h) : w.heap.size + 2 ≤ W.heap.size := by
  have := (Array.getElem?_eq_some_iff.1 s.ob).1
  omega
theorem FSt.below {w W W' : World} {f : Int} {h : ByteArray} (s : FSt w W f h) (hb : Below W.heap.size W W') : FSt w W' f h := by
  have hl := s.lt
  exact ⟨(hb.block _ (by omega)).trans s.nb, (hb.block _ (by omega)).trans s.ob, s.bel.trans (hb.mono (by omega))⟩
theorem FSt.grown {w W W' : World} {f : Int} {h : ByteArray} {row : Option Nat} (s : FSt w W f h) (hg : W.grownBy W' row) (hr : ∀ r, row = some r → w.heap.size + 2 ≤ r) : FSt w W' f h := by
  have hl := s.lt
  exact ⟨(hg.block _ (by omega) (fun e => by have := hr _ e.symm; omega)).trans s.nb, (hg.block _ (by omega) (fun e => by have := hr _ e.symm; omega)).trans s.ob, s.bel.grown hg (by omega) (fun k e => by have := hr k e; omega)⟩
theorem FSt.drewN {w W : World} {f : Int} {h : ByteArray} (s : FSt w W f h) (m : Nat) : FSt w (W.drewN m) f h := ⟨s.nb, s.ob, bdrew s.bel m⟩
theorem FSt.new (w : World) (f : Int) (h : ByteArray) : FSt w ((w.alloc (.cells #[.int .i64 f, .string h] 28)).alloc (.cells #[.int .i64 0, .int .i64 0, .string ⟨#[]⟩, .string ⟨#[]⟩] 32)) f h := by
  refine ⟨?_, ?_, two_below _ _ _⟩
  · exact (alloc_block _ _ (by simp)).trans (heap_alloc_new w _)
  · have := heap_alloc_new (w.alloc (.cells #[.int .i64 f, .string h] 28)) (.cells #[.int .i64 0, .int .i64 0, .string ⟨#[]⟩, .string ⟨#[]⟩] 32)
    simpa using this
theorem FSt.cells {w W : World} {f : Int} {h : ByteArray} (s : FSt w W f h) : W.cell? ⟨w.heap.size, 0, none⟩ = some (.int .i64 f) ∧ W.cell? ⟨w.heap.size, 1, none⟩ = some (.string h) := by
  have := s.nb
  simp [World.cell?, this]
theorem pts_nil {s : ByteArray} (h : pts s = []) : s.size = 0 := by
  cases hz : s.size with
  | zero => rfl
  | succ n =>
    have h1 : (steps s 0).2 < s.size := by rw [hz]; simp [steps]
    have h2 := steps_next s 0 h1
    obtain ⟨l, e⟩ := pts_pre s 1
    rw [h2] at e
    rw [e] at h
    simp at h
end Go.Proofs.YtiecjledgmhffaaDoor
