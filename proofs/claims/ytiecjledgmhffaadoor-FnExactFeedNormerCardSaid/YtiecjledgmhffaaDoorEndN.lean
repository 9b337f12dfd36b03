/- EndNormer of both, and the law. -/
import Derived.Test.YtiecjledgmhffaaDoorNrfI
namespace Go.Proofs.YtiecjledgmhffaaDoor
open Go.RowKit
/-- A block of four cells. -/
theorem four_cells {w : World} {g : Nat} {a b c d : Value} {T : TypeId} (h : w.heap[g]? = some (.cells #[a, b, c, d] T (0, 0))) :
    w.cell? ⟨g, 0, none⟩ = some a ∧ w.cell? ⟨g, 1, none⟩ = some b ∧ w.cell? ⟨g, 2, none⟩ = some c ∧ w.cell? ⟨g, 3, none⟩ = some d ∧
    w.frozen? ⟨g, 0, none⟩ = false ∧ w.frozen? ⟨g, 1, none⟩ = false ∧ w.frozen? ⟨g, 2, none⟩ = false ∧ w.frozen? ⟨g, 3, none⟩ = false := by
  simp [World.cell?, World.frozen?, h]
theorem four_put {w : World} {g : Nat} {x y z u : Value} {T : TypeId} (h : w.heap[g]? = some (.cells #[x, y, z, u] T (0, 0))) (a b c d : Value) :
    (w.setCell ⟨g, 0, none⟩ a).cell? ⟨g, 0, none⟩ = some a ∧ ((w.setCell ⟨g, 0, none⟩ a).setCell ⟨g, 1, none⟩ b).cell? ⟨g, 1, none⟩ = some b ∧
    (((w.setCell ⟨g, 0, none⟩ a).setCell ⟨g, 1, none⟩ b).setCell ⟨g, 2, none⟩ c).cell? ⟨g, 2, none⟩ = some c ∧
    ((((w.setCell ⟨g, 0, none⟩ a).setCell ⟨g, 1, none⟩ b).setCell ⟨g, 2, none⟩ c).setCell ⟨g, 3, none⟩ d).cell? ⟨g, 3, none⟩ = some d := by
  have h0 := heap_setCell_same w g 0 _ T a h
  have h1 := heap_setCell_same _ g 1 _ T b h0
  have h2 := heap_setCell_same _ g 2 _ T c h1
  have h3 := heap_setCell_same _ g 3 _ T d h2
  exact ⟨(four_cells h0).1, (four_cells h1).2.1, (four_cells h2).2.2.1, (four_cells h3).2.2.2.1⟩
theorem four_below {w0 w : World} {B g : Nat} (h : Below B w0 w) (hg : B ≤ g) (a b c d : Value) : Below B w0 ((((w.setCell ⟨g, 0, none⟩ a).setCell ⟨g, 1, none⟩ b).setCell ⟨g, 2, none⟩ c).setCell ⟨g, 3, none⟩ d) :=
  (((h.setCell (p := ⟨g, 0, none⟩) hg _).setCell (p := ⟨g, 1, none⟩) hg _).setCell (p := ⟨g, 2, none⟩) hg _).setCell (p := ⟨g, 3, none⟩) hg _
/-- What the end of a normer tells. -/
def endV (f : Int) (s : ByteArray) : Value := if nfB f s = true then .agg #[.int .i64 1, .int .i64 0, .string ⟨#[]⟩, .string ⟨#[]⟩] else .agg #[.int .i64 0, .int .i64 f, .string ⟨#[]⟩, .string (strOfNums (nrmT f s))]
theorem nf_parts {f : Int} {s : ByteArray} (h : nfB f s = false) : isF f = true ∧ s.size ≤ 1000 := by
  unfold nfB at h
  simp at h
  exact ⟨h.1.1.1, by have := h.1.1.2; omega⟩
theorem nml_end {f : Int} {s : ByteArray} (hf : isF f = true) (hs : s.size ≤ 1000) : nmlOut f s = nrmT f s := by
  have h1 := pts_le s
  have h2 := nrmL_len f (pts s)
  have h3 := textL_le (nrmL f (pts s))
  unfold nmlOut small
  rw [if_neg (by rw [hf]; rintro (h | h); omega; cases h), if_neg]
  unfold nrmT
  omega
set_option maxHeartbeats 2000000 in
set_option maxRecDepth 100000 in
theorem specEnd (f : Int) (s : ByteArray) (w : World) :
    Calls Tryd.prog 16 #[.agg #[.int .i64 f, .string s]] w fun e w' => e = .returned (endV f s) ∧ Below w.heap.size w w' := by
  have mixed := mixedO
  have CN := hide (fun W => specNF f s W)
  have hW : ((w.alloc (.cells #[.int .i64 f, .string s] 28)).alloc (.cells #[.int .i64 0, .int .i64 0, .string ⟨#[]⟩, .string ⟨#[]⟩] 32)).heap.size = w.heap.size + 2 := by simp
  cases hn : nfB f s with
  | true =>
    have HV : Hid (endV f s = .agg #[.int .i64 1, .int .i64 0, .string ⟨#[]⟩, .string ⟨#[]⟩]) := hide (by unfold endV; rw [if_pos hn])
    have ho : nfOut f s = 1 := by unfold nfOut; rw [if_pos hn]
    rw [ho] at CN
    clear hn ho
    generalize endV f s = V at *
    go_enter Tryd.func16, Tryd.ntmps16
    go_wp2_with fail
    refine ((unhide CN) _).mono ?_
    rintro e w2 ⟨rfl, hb2⟩
    have hh : w2.heap[w.heap.size + 1]? = some (.cells #[.int .i64 0, .int .i64 0, .string ⟨#[]⟩, .string ⟨#[]⟩] 32 (0, 0)) := (hb2.block (w.heap.size + 1) (by omega)).trans (by have := heap_alloc_new (w.alloc (.cells #[.int .i64 f, .string s] 28)) (.cells #[.int .i64 0, .int .i64 0, .string ⟨#[]⟩, .string ⟨#[]⟩] 32); simpa using this)
    obtain ⟨c0, c1, c2, c3, z0, z1, z2, z3⟩ := four_cells hh
    obtain ⟨p0, p1, p2, p3⟩ := four_put hh (.int .i64 1) (.int .i64 0) (.string ⟨#[]⟩) (.string ⟨#[]⟩)
    have B2 := hide (four_below ((two_below w _ _).trans (hb2.mono (by omega))) (show w.heap.size ≤ w.heap.size + 1 by omega) (.int .i64 1) (.int .i64 0) (.string ⟨#[]⟩) (.string ⟨#[]⟩))
    clear hh hb2 CN hW
    go_wp2
    try simp only [Exit.inBlock, Exit.then]
    refine bodyPost_ret (by simp [results, Tryd.results16, go_sem, p0, p1, p2, p3]; try rfl) rfl ?_
    exact ⟨by rw [unhide HV], unhide B2⟩
  | false =>
    obtain ⟨hf, hs⟩ := nf_parts hn
    have HV : Hid (endV f s = .agg #[.int .i64 0, .int .i64 f, .string ⟨#[]⟩, .string (strOfNums (nrmT f s))]) := hide (by unfold endV; rw [if_neg (by rw [hn]; simp)])
    have ho : nfOut f s = 0 := by unfold nfOut; rw [if_neg (by rw [hn]; simp)]
    have CT := hide (fun W => l05TextS f s W hf (by omega))
    rw [ho] at CN
    clear hn ho hf hs
    generalize endV f s = V at *
    generalize strOfNums (nrmT f s) = t at *
    go_enter Tryd.func16, Tryd.ntmps16
    go_wp2_with fail
    refine ((unhide CN) _).mono ?_
    rintro e w2 ⟨rfl, hb2⟩
    have hh : w2.heap[w.heap.size + 1]? = some (.cells #[.int .i64 0, .int .i64 0, .string ⟨#[]⟩, .string ⟨#[]⟩] 32 (0, 0)) := (hb2.block (w.heap.size + 1) (by omega)).trans (by have := heap_alloc_new (w.alloc (.cells #[.int .i64 f, .string s] 28)) (.cells #[.int .i64 0, .int .i64 0, .string ⟨#[]⟩, .string ⟨#[]⟩] 32); simpa using this)
    have f0 := hb2.cell (p := ⟨w.heap.size, 0, none⟩) (by simp; omega)
    have f1 := hb2.cell (p := ⟨w.heap.size, 1, none⟩) (by simp; omega)
    simp at f0 f1
    have hfl := block_lt_of_cell f0
    have HH := hide hh
    have hol : w.heap.size + 1 < w2.heap.size := (Array.getElem?_eq_some_iff.1 hh).1
    have B2 := hide ((two_below w (.cells #[.int .i64 f, .string s] 28) (.cells #[.int .i64 0, .int .i64 0, .string ⟨#[]⟩, .string ⟨#[]⟩] 32)).trans (hb2.mono (by omega)))
    have hbs := (unhide B2).size
    clear hh hb2 CN hW
    go_upto_region 3 with fail
    go_region_law (refine step_call rfl 39 #[.tmp 11, .tmp 13] #[2, 9] rfl #[.int .i64 f, .string s] (by simp [Act.eval, Act.put]) (by kernel_rfl) (((unhide CT) _).mono ?_); rintro e w3 ⟨rfl, hb3⟩; have q0 := (hb3.cell (p := ⟨w.heap.size, 0, none⟩) hfl).trans f0; have hh3 := (hb3.block (w.heap.size + 1) hol).trans (unhide HH); obtain ⟨c0, c1, c2, c3, z0, z1, z2, z3⟩ := four_cells hh3; obtain ⟨p0, p1, p2, p3⟩ := four_put hh3 (.int .i64 0) (.int .i64 f) (.string ⟨#[]⟩) (.string t); have B3 := hide (four_below ((bdrew (unhide B2) _).trans (hb3.mono hbs)) (show w.heap.size ≤ w.heap.size + 1 by omega) (.int .i64 0) (.int .i64 f) (.string ⟨#[]⟩) (.string t)); clear hh3 hb3; refine ⟨_, rfl, ?_⟩)
    all_goals
      go_wp2
      try simp only [Exit.inBlock, Exit.then]
      refine bodyPost_ret (by simp [results, Tryd.results16, go_sem, p0, p1, p2, p3]; try rfl) rfl ?_
      exact ⟨by rw [unhide HV], unhide B3⟩
end Go.Proofs.YtiecjledgmhffaaDoor
